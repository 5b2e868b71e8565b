/- A list of blocks, and one of them cut out of it: what 'append(append([]T{}, l[:k]...), l[k+1:]...)' asks for. -/
import Derived.Test.YthknommfnajeiaaDoorTaken
import Derived.Maps.Range
namespace Go.Proofs.YthknommfnajeiaaDoor
open Go.RowKit Go.Shelf Go.Lib Go.Sort

/-- append onto a list of one's own, inside a region that draws. -/
theorem step_append_mine {P : Program} {ops : Array Oper} {o : Oper} {a : Act} {w : World} {K : Act → World → Prop} {Q : Exit → Act → World → Prop} {E : Prop}
    (hg : o.guard = none) (s x : Operand) (t : TypeId) (hop : o.op = Op.call { callee := Callee.builtin Builtin.append, args := #[s, x], argTypes := #[t, t] })
    (base : Nat) (e : TypeId) (i : TypeInfo) (z : Value) (size bytes : Nat) (h1 : P.underlying t = some (.slice e)) (h2 : P.info? e = some i) (h3 : i.zero = some z) (h4 : i.size = size) (h5 : i.bytes = bytes) (h6 : z.cells.size = size) (h7 : 0 < size)
    (v : Value) (n : Nat) (xs : List Value) (hs : a.eval s = v) (hown : w.ownsRow base e size v n xs)
    (ad : Addr) (m c : Nat) (news : List Value) (hx : a.eval x = .slice (some ad) m c) (hn : news.length = m * size) (hc : ∀ j u, news[j]? = some u → w.cell? (ad.add j) = some u) (h1c : ∀ u ∈ news, u.oneCell' = true)
    (b1 : n + m ≤ maxLen) (b2 : (n + m) * bytes ≤ 140737488355328) (hbase : base ≤ w.heap.size)
    (hK : ∀ v' w', w'.ownsRow base e size v' (n + m) (xs ++ news) → w.grownBy w' v.ownBlock → (v'.ownBlock = v.ownBlock ∨ v'.ownBlock = some w.heap.size) → K (a.put o.dst v') w') :
    if Region.wanted o (yielded ops a.tmps) = true then Oper.wp P o a w K Q else E := by
  have hw : Region.wanted o (yielded ops a.tmps) = true := by simp [Region.wanted, hg]
  rw [if_pos hw]
  obtain ⟨v', w', hrun, r1, r2, _, r4⟩ := run_append_own_at (P := P) w base t o.type e i z size bytes h1 h2 h3 h4 h5 h6 h7 v n xs hown ad m c news hn hc h1c b1 b2 hbase
  unfold Oper.wp
  simp [execOp, hop, resolve, invoke, builtin, hs, hx, hrun, Result.andThen]
  exact hK v' w' r1 r2 r4

theorem blk_elem : Tryd.prog.underlying 48 = some (.slice (Tryd.prog.elem 48)) := by kernel_rfl
theorem blk_size (w : World) : (sizeOf (Tryd.prog.elem 48)).run Tryd.prog w = .ok 2 w := by
  rw [show Tryd.prog.elem 48 = 62 by kernel_rfl]
  simp [go_sem]

/-- A list's slice up to k, and from k1 on. -/
theorem slice_to (w : World) (g n cp k : Nat) (h : k ≤ cp) : (Instr.slice 48 (.slice (some ⟨g, 0, none⟩) n cp) none (some (.int .i64 (k : Int))) none).run Tryd.prog w = .ok (.slice (some ⟨g, 0, none⟩) k cp) w := by
  rw [run_slice_h _ _ _ _ _ blk_elem _ _ (by omega) (by omega), blk_size]
  simp [Result.andThen, sliced, Addr.add]
theorem slice_from (g n cp k : Nat) (h : k ≤ n) (h2 : n ≤ cp) : ∃ ad : Addr, (ad = ⟨g, k * 2, none⟩ ∨ n = k) ∧ ∀ w, (Instr.slice 48 (.slice (some ⟨g, 0, none⟩) n cp) (some (.int .i64 (k : Int))) none none).run Tryd.prog w = .ok (.slice (some ad) (n - k) (cp - k)) w := by
  refine ⟨if cp = k then ⟨g, 0, none⟩ else ⟨g, k * 2, none⟩, ?_, fun w => ?_⟩
  · by_cases e : cp = k
    · right; omega
    · left; rw [if_neg e]
  · rw [run_slice_l _ _ _ _ _ blk_elem _ _ (by omega) (by omega), blk_size]
    by_cases e : cp = k
    · simp [Result.andThen, sliced, e]
    · simp [Result.andThen, sliced, Addr.add, e]; exact fun h => h.symm

/-- Where the new list begins: a row of none, at the memory's end. -/
def Begun (wc W : World) : Prop := W.heap = (wc.alloc (.cells #[] 62)).heap ∧ W.os = wc.os ∧ W.tape = wc.tape ∧ W.output = wc.output

structure CutOut (wc : World) (N gb cp : Nat) (L : List (Int × Int)) (k k1 : Nat) (ad2 : Addr) : Prop where
  one : k + 1 = k1
  int : (k : Int) + 1 = (k1 : Int)
  w1 : wrap64 ((k : Int) + 1) = (k1 : Int)
  w2 : IntKind.i64.wrap ((k : Int) + 1) = (k1 : Int)
  s1 : ∀ wx, (Instr.slice 48 (.slice (some ⟨gb, 0, none⟩) L.length cp) none (some (.int .i64 (k : Int))) none).run Tryd.prog wx = .ok (.slice (some ⟨gb, 0, none⟩) k cp) wx
  s2 : ∀ wx, (Instr.slice 48 (.slice (some ⟨gb, 0, none⟩) L.length cp) (some (.int .i64 (k1 : Int))) none none).run Tryd.prog wx = .ok (.slice (some ad2) (L.length - k1) (cp - k1)) wx
  own : ∀ W : World, Begun wc W → W.ownsRow N 62 2 (.slice (some ⟨wc.heap.size, 0, none⟩) 0 0) 0 []
  c1 : ∀ W : World, Begun wc W → ∀ j u, (bc (L.take k))[j]? = some u → W.cell? ((⟨gb, 0, none⟩ : Addr).add j) = some u
  c2 : ∀ W w5 : World, Begun wc W → W.grownBy w5 (some wc.heap.size) → ∀ j u, (bc (L.drop k1))[j]? = some u → w5.cell? (ad2.add j) = some u
  l1 : (bc (L.take k)).length = k * 2
  l2 : (bc (L.drop k1)).length = (L.length - k1) * 2
  b : ∀ W : World, Begun wc W → N ≤ W.heap.size
  m1 : 0 + k ≤ maxLen
  y1 : (0 + k) * 16 ≤ 140737488355328
  m2 : 0 + k + (L.length - k1) ≤ maxLen
  y2 : (0 + k + (L.length - k1)) * 16 ≤ 140737488355328

theorem cut_out {wc : World} {N gb cp : Nat} {L : List (Int × Int)} (h : BL wc N (.slice (some ⟨gb, 0, none⟩) L.length cp) L) (hN : N ≤ wc.heap.size) (hL : L.length ≤ 1000) {k : Nat} (hk : k < L.length) : ∃ k1 ad2, CutOut wc N gb cp L k k1 ad2 := by
  obtain ⟨gb', cp', hv', _, hgl', hcp', _, hcl⟩ := h.at' (by rintro rfl; simp at hk)
  cases hv'
  obtain ⟨ad2, had, hs2⟩ := slice_from gb L.length cp (k + 1) (by omega) hcp'
  refine ⟨k + 1, ad2, rfl, by omega, by unfold wrap64; omega, by rw [IntKind.wrap_i64]; omega, fun wx => slice_to wx gb L.length cp k (by omega), hs2, ?_, ?_, ?_, by rw [bc_len, List.length_take]; omega, by rw [bc_len, List.length_drop], ?_, by unfold maxLen; omega, by omega, by unfold maxLen; omega, by omega⟩
  · rintro W ⟨hW, _⟩
    refine ⟨rfl, .inr ⟨wc.heap.size, 0, #[], rfl, hN, ?_, Nat.le_refl _, by decide, rfl, rfl⟩⟩
    rw [hW]
    show (wc.heap.push _)[wc.heap.size]? = _
    rw [Array.getElem?_push, if_pos rfl]
  · rintro W ⟨hW, _⟩ j u hu
    rw [bc_take, List.getElem?_take] at hu
    split at hu
    · rw [Addr.add_lit, Nat.zero_add, World.cell?_of_block (w := wc) (a := ⟨gb, j, none⟩) (by rw [hW]; exact Below.heap_alloc _ _ _ hgl')]; exact hcl j u hu
    · cases hu
  · rintro W w5 ⟨hW, _⟩ hg j u hu
    rcases had with rfl | e0
    · rw [bc_drop, List.getElem?_drop] at hu
      have e1 : w5.heap[gb]? = wc.heap[gb]? := (hg.block gb (by rw [hW]; simp; omega) (fun e => by cases e; omega)).trans (by rw [hW]; exact Below.heap_alloc _ _ _ hgl')
      rw [Addr.add_lit, World.cell?_of_block (w := wc) (a := ⟨gb, (k + 1) * 2 + j, none⟩) e1]; exact hcl _ u hu
    · rw [← e0, List.drop_length] at hu; simp [bc] at hu
  · rintro W ⟨hW, _⟩; rw [hW]; simp; omega

/-- The new list, and that all else stayed. -/
theorem CutOut.got {wc W w5 w6 : World} {N gb cp : Nat} {L : List (Int × Int)} {k k1 : Nat} {ad2 : Addr} {v5 v6 : Value} (c : CutOut wc N gb cp L k k1 ad2) (hW : Begun wc W) (hk : k < L.length) (g5 : W.grownBy w5 (some wc.heap.size)) (h5 : v5.ownBlock = some wc.heap.size ∨ v5.ownBlock = some W.heap.size) (o6 : w6.ownsRow N 62 2 v6 (0 + k + (L.length - k1)) ([] ++ bc (L.take k) ++ bc (L.drop k1))) (g6 : w5.grownBy w6 v5.ownBlock) (h6 : v6.ownBlock = v5.ownBlock ∨ v6.ownBlock = some w5.heap.size) :
    wc.grownBy w6 none ∧ BL w6 N v6 (L.take k ++ L.drop (k + 1)) ∧ ∀ i, v6.ownBlock = some i → wc.heap.size ≤ i := by
  obtain ⟨e0, e1, e2, e3⟩ := hW
  have hs : W.heap.size = wc.heap.size + 1 := by rw [e0]; simp
  have g0 : wc.grownBy W none := ⟨e1, e2, e3, by omega, fun i hi _ => by rw [e0]; exact Below.heap_alloc _ _ _ hi⟩
  have n5 : ∀ j, v5.ownBlock = some j → wc.heap.size ≤ j := by
    intro j hj
    rcases h5 with e | e <;> rw [e] at hj <;> cases hj <;> omega
  refine ⟨(g0.andThen g5 (fun j hj => .inl (by cases hj; omega))).andThen g6 (fun j hj => .inl (n5 j hj)), ?_, ?_⟩
  · unfold BL
    rw [bc_app, List.length_append, List.length_take, List.length_drop]
    have := c.one
    rw [show min k L.length + (L.length - (k + 1)) = 0 + k + (L.length - k1) by omega, this]
    simpa using o6
  · intro i hi
    rcases h6 with e | e
    · exact n5 i (e ▸ hi)
    · rw [e] at hi; cases hi; have := g5.size; omega
end Go.Proofs.YthknommfnajeiaaDoor
