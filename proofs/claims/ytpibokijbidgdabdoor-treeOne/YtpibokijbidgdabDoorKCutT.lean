/- A list of texts, and one of them cut out of it: what 'append(append([]string{}, l[:k]...), l[k+1:]...)' asks for. -/
import Derived.Test.YtpibokijbidgdabDoorKRow3
import Derived.Maps.Range
namespace Go.Proofs.YtpibokijbidgdabDoor
open Go.RowKit Go.Maps Go.Lib Go.Sort

/-- append onto a list of one's own, inside a region that draws. -/
theorem step_append_text {P : Program} {ops : Array Oper} {o : Oper} {a : Act} {w : World} {K : Act → World → Prop} {Q : Exit → Act → World → Prop} {E : Prop}
    (hg : o.guard = none) (s x : Operand) (t : TypeId) (hop : o.op = Op.call { callee := Callee.builtin Builtin.append, args := #[s, x], argTypes := #[t, t] })
    (base : Nat) (e : TypeId) (i : TypeInfo) (z : Value) (size bytes : Nat) (h1 : P.underlying t = some (.slice e)) (h2 : P.info? e = some i) (h3 : i.zero = some z) (h4 : i.size = size) (h5 : i.bytes = bytes) (h6 : z.cells.size = size) (h7 : 0 < size)
    (v : Value) (n : Nat) (xs : List Value) (hs : a.eval s = v) (hown : w.ownsRow base e size v n xs)
    (ad : Addr) (m c : Nat) (news : List Value) (hx : a.eval x = .slice (some ad) m c) (hn : news.length = m * size) (hc : ∀ j u, news[j]? = some u → w.cell? (ad.add j) = some u) (h1c : ∀ u ∈ news, u.oneCell' = true)
    (b1 : n + m ≤ maxLen) (b2 : (n + m) * bytes ≤ 140737488355328) (hbase : base ≤ w.heap.size)
    (hK : ∀ v' w', w'.ownsRow base e size v' (n + m) (xs ++ news) → w.grownBy w' v.ownBlock → (v'.ownBlock = v.ownBlock ∨ v'.ownBlock = some w.heap.size) → K (a.put o.dst v') w') :
    if Region.wanted o (yielded ops a.tmps) = true then Oper.wp P o a w K Q else E := by
  have hw : Region.wanted o (yielded ops a.tmps) = true := by simp [Region.wanted, hg]
  rw [if_pos hw]
  obtain ⟨v', w', hrun, r1, r2, _, r4⟩ := run_append_own_at (P := P) w base t o.type e i z size bytes h1 h2 h3 h4 h5 h6 h7 v n xs hown ad m c news hn hc h1c b1 b2 hbase
  unfold Oper.wp
  simp [execOp, hop, resolve, invoke, builtin, hs, hx, hrun, Result.andThen]
  exact hK v' w' r1 r2 r4

theorem txt_elem : Tryd.prog.underlying 76 = some (.slice (Tryd.prog.elem 76)) := by kernel_rfl
theorem txt_size (w : World) : (sizeOf (Tryd.prog.elem 76)).run Tryd.prog w = .ok 1 w := by
  rw [show Tryd.prog.elem 76 = 9 by kernel_rfl]
  simp [go_sem]

/-- A list's slice up to k, and from k on. -/
theorem tslice_to (w : World) (g n cp k : Nat) (h : k ≤ cp) : (Instr.slice 76 (.slice (some ⟨g, 0, none⟩) n cp) none (some (.int .i64 (k : Int))) none).run Tryd.prog w = .ok (.slice (some ⟨g, 0, none⟩) k cp) w := by
  rw [run_slice_h _ _ _ _ _ txt_elem _ _ (by omega) (by omega), txt_size]
  simp [Result.andThen, sliced, Addr.add]
theorem tslice_from (g n cp k : Nat) (h : k ≤ n) (h2 : n ≤ cp) : ∃ ad : Addr, (ad = ⟨g, k, none⟩ ∨ n = k) ∧ ∀ w, (Instr.slice 76 (.slice (some ⟨g, 0, none⟩) n cp) (some (.int .i64 (k : Int))) none none).run Tryd.prog w = .ok (.slice (some ad) (n - k) (cp - k)) w := by
  refine ⟨if cp = k then ⟨g, 0, none⟩ else ⟨g, k, none⟩, ?_, fun w => ?_⟩
  · by_cases e : cp = k
    · right; omega
    · left; rw [if_neg e]
  · rw [run_slice_l _ _ _ _ _ txt_elem _ _ (by omega) (by omega), txt_size]
    by_cases e : cp = k
    · simp [Result.andThen, sliced, e]
    · simp [Result.andThen, sliced, Addr.add, e]; exact fun h => h.symm

/-- Where the new list begins: a row of none, at the memory's end. -/
def BegunT (wc W : World) : Prop := W.heap = (wc.alloc (.cells #[] 9)).heap ∧ W.os = wc.os ∧ W.tape = wc.tape ∧ W.output = wc.output

theorem enc_one (L : List Nm) : ∀ u ∈ L.map encStr, u.oneCell' = true := by
  intro u hu
  obtain ⟨x, _, rfl⟩ := List.mem_map.1 hu
  rfl

structure CutT (wc : World) (N gb cp : Nat) (L : List Nm) (k k1 : Nat) (ad2 : Addr) : Prop where
  one : k + 1 = k1
  int : (k : Int) + 1 = (k1 : Int)
  w1 : wrap64 ((k : Int) + 1) = (k1 : Int)
  w2 : IntKind.i64.wrap ((k : Int) + 1) = (k1 : Int)
  s1 : ∀ wx, (Instr.slice 76 (.slice (some ⟨gb, 0, none⟩) L.length cp) none (some (.int .i64 (k : Int))) none).run Tryd.prog wx = .ok (.slice (some ⟨gb, 0, none⟩) k cp) wx
  s2 : ∀ wx, (Instr.slice 76 (.slice (some ⟨gb, 0, none⟩) L.length cp) (some (.int .i64 (k1 : Int))) none none).run Tryd.prog wx = .ok (.slice (some ad2) (L.length - k1) (cp - k1)) wx
  own : ∀ W : World, BegunT wc W → W.ownsRow N 9 1 (.slice (some ⟨wc.heap.size, 0, none⟩) 0 0) 0 []
  c1 : ∀ W : World, BegunT wc W → ∀ j u, ((L.take k).map encStr)[j]? = some u → W.cell? ((⟨gb, 0, none⟩ : Addr).add j) = some u
  c2 : ∀ W w5 : World, BegunT wc W → W.grownBy w5 (some wc.heap.size) → ∀ j u, ((L.drop k1).map encStr)[j]? = some u → w5.cell? (ad2.add j) = some u
  l1 : ((L.take k).map encStr).length = k * 1
  l2 : ((L.drop k1).map encStr).length = (L.length - k1) * 1
  b : ∀ W : World, BegunT wc W → N ≤ W.heap.size
  m1 : 0 + k ≤ maxLen
  y1 : (0 + k) * 16 ≤ 140737488355328
  m2 : 0 + k + (L.length - k1) ≤ maxLen
  y2 : (0 + k + (L.length - k1)) * 16 ≤ 140737488355328

theorem cut_text {wc : World} {N gb cp : Nat} {L : List Nm} (h : TxR wc N (.slice (some ⟨gb, 0, none⟩) L.length cp) L) (hN : N ≤ wc.heap.size) (hL : L.length ≤ 1000) {k : Nat} (hk : k < L.length) : ∃ k1 ad2, CutT wc N gb cp L k k1 ad2 := by
  have hgl : gb < wc.heap.size := h.lt rfl
  rcases h.at with rfl | ⟨g', c', hv, hcp, hcl⟩
  · simp at hk
  cases hv
  obtain ⟨ad2, had, hs2⟩ := tslice_from gb L.length cp (k + 1) (by omega) hcp
  have hal : ∀ (W : World), BegunT wc W → W.heap[gb]? = wc.heap[gb]? := fun W hW => by rw [hW.1]; exact Below.heap_alloc _ _ _ hgl
  refine ⟨k + 1, ad2, rfl, by omega, by unfold wrap64; omega, by rw [IntKind.wrap_i64]; omega, fun wx => tslice_to wx gb L.length cp k (by omega), hs2, ?_, ?_, ?_, by rw [List.length_map, List.length_take]; omega, by rw [List.length_map, List.length_drop]; omega, ?_, by unfold maxLen; omega, by omega, by unfold maxLen; omega, by omega⟩
  · rintro W ⟨hW, _⟩
    refine ⟨rfl, .inr ⟨wc.heap.size, 0, #[], rfl, hN, ?_, Nat.le_refl _, by decide, rfl, rfl⟩⟩
    rw [hW]
    show (wc.heap.push _)[wc.heap.size]? = _
    rw [Array.getElem?_push, if_pos rfl]
  · intro W hW j u hu
    rw [List.getElem?_map, List.getElem?_take] at hu
    split at hu
    · rename_i hjk
      rw [List.getElem?_eq_getElem (show j < L.length by omega)] at hu
      rw [Addr.add_lit, Nat.zero_add, World.cell?_of_block (w := wc) (a := ⟨gb, j, none⟩) (hal W hW), hcl j (by omega)]
      exact hu
    · cases hu
  · intro W w5 hW hg j u hu
    rcases had with rfl | e0
    · rw [List.getElem?_map, List.getElem?_drop] at hu
      have e1 : w5.heap[gb]? = wc.heap[gb]? := (hg.block gb (by rw [hW.1]; simp; omega) (fun e => by cases e; omega)).trans (hal W hW)
      by_cases hj : k + 1 + j < L.length
      · rw [List.getElem?_eq_getElem hj] at hu
        rw [Addr.add_lit, World.cell?_of_block (w := wc) (a := ⟨gb, k + 1 + j, none⟩) e1, hcl _ hj]
        exact hu
      · rw [List.getElem?_eq_none (by omega)] at hu; cases hu
    · rw [← e0, List.drop_length] at hu; simp at hu
  · rintro W ⟨hW, _⟩; rw [hW]; simp; omega

/-- The new list, and that all else stayed. -/
theorem CutT.got {wc W w5 w6 : World} {N gb cp : Nat} {L : List Nm} {k k1 : Nat} {ad2 : Addr} {v5 v6 : Value} (c : CutT wc N gb cp L k k1 ad2) (hW : BegunT wc W) (hk : k < L.length) (g5 : W.grownBy w5 (some wc.heap.size)) (h5 : v5.ownBlock = some wc.heap.size ∨ v5.ownBlock = some W.heap.size) (o6 : w6.ownsRow N 9 1 v6 (0 + k + (L.length - k1)) ([] ++ (L.take k).map encStr ++ (L.drop k1).map encStr)) (g6 : w5.grownBy w6 v5.ownBlock) (h6 : v6.ownBlock = v5.ownBlock ∨ v6.ownBlock = some w5.heap.size) :
    wc.grownBy w6 none ∧ TxR w6 N v6 (L.take k ++ L.drop (k + 1)) ∧ ∀ i, v6.ownBlock = some i → wc.heap.size ≤ i := by
  obtain ⟨e0, e1, e2, e3⟩ := hW
  have hs : W.heap.size = wc.heap.size + 1 := by rw [e0]; simp
  have g0 : wc.grownBy W none := ⟨e1, e2, e3, by omega, fun i hi _ => by rw [e0]; exact Below.heap_alloc _ _ _ hi⟩
  have n5 : ∀ j, v5.ownBlock = some j → wc.heap.size ≤ j := by
    intro j hj
    rcases h5 with e | e <;> rw [e] at hj <;> cases hj <;> omega
  refine ⟨(g0.andThen g5 (fun j hj => .inl (by cases hj; omega))).andThen g6 (fun j hj => .inl (n5 j hj)), ?_, ?_⟩
  · unfold TxR
    rw [List.map_append, List.length_append, List.length_take, List.length_drop]
    have := c.one
    rw [show min k L.length + (L.length - (k + 1)) = 0 + k + (L.length - k1) by omega, this]
    simpa using o6
  · intro i hi
    rcases h6 with e | e
    · exact n5 i (e ▸ hi)
    · rw [e] at hi; cases hi; have := g5.size; omega
/-- The list is another one; the tree stayed. -/
theorem KR.relist {w wr w' : World} {m : Int} {r k : Nat} {T : Wd} {v v' : Value} {L L' : List Nm} (h : KR w m r k T v L wr) (g : wr.grownBy w' none) (ho : TxR w' w.heap.size v' L') (hv : ∀ i, v'.ownBlock = some i → wr.heap.size ≤ i) : KR w m r k T v' L' w' := by
  obtain ⟨O, h1, h2, h3⟩ := h.st
  have hk : ∀ i, i < wr.heap.size → w'.heap[i]? = wr.heap[i]? := fun i hi => g.block i hi (fun e => by cases e)
  refine ⟨⟨O, h1.keep (fun i hi => hk i (h1.lt i hi)) g.size, h2, fun i hi ho => ?_⟩, ho, h.lv, h.sm, ⟨g.os.trans h.bel.os, g.tape.trans h.bel.tape, g.output.trans h.bel.output, Nat.le_trans h.bel.size g.size, fun i hi => (hk i (Nat.lt_of_lt_of_le hi h.bel.size)).trans (h.bel.block i hi)⟩, h.ml⟩
  have := hv i hi
  have := h1.lt i ho
  omega
end Go.Proofs.YtpibokijbidgdabDoor
