/- Package tree: what is asked of a file by its number: Size, Hold, Drop, by their Go text. -/
import Derived.Test.YtjkneekfijibiabGreatDoorUMem
import Derived.Test.YtjkneekfijibiabGreatDoorUCnt
namespace Go.Proofs.YtjkneekfijibiabGreatDoor
open Go.RowKit Go.Maps

/-- How many nodes there are. -/
def IsNum (T : Wd) (s : Nat) : Prop := ∃ ks : List Int, ks.Nodup ∧ ks.length = s ∧ ∀ x, x ∈ ks ↔ (T x).isSome = true
theorem perm_len {a b : List Int} (ha : a.Nodup) (hb : b.Nodup) (h : ∀ x, x ∈ a ↔ x ∈ b) : a.length = b.length := ((List.perm_ext_iff_of_nodup ha hb).2 h).length_eq
theorem IsNum.one {T : Wd} {s s' : Nat} (h : IsNum T s) (h' : IsNum T s') : s = s' := by
  obtain ⟨a, ha, rfl, ma⟩ := h
  obtain ⟨b, hb, rfl, mb⟩ := h'
  exact perm_len ha hb (fun x => (ma x).trans (mb x).symm)
theorem PMap.num {w : World} {g s : Nat} {T : Wd} {f : Int → Nd → Value} (h : PMap w g s (fun k => (T k).map (f k))) : IsNum T s := by
  obtain ⟨D, _, _, hn, hl, hm⟩ := h.data
  exact ⟨_, hn, hl, fun x => by rw [hm x]; cases T x <;> rfl⟩
theorem IsNum.pos {T : Wd} {s : Nat} (h : IsNum T s) (hT : TrOk T) : 1 ≤ s := by
  obtain ⟨ks, _, rfl, m⟩ := h
  obtain ⟨C, e⟩ := hT.root
  exact List.length_pos_of_mem ((m 0).2 (by rw [e]; rfl))
theorem sub_len : ∀ {a b : List Int}, a.Nodup → a ⊆ b → a.length ≤ b.length
  | [], _, _, _ => Nat.zero_le _
  | x :: t, b, hn, hs => by
    rw [List.nodup_cons] at hn
    have hx : x ∈ b := hs List.mem_cons_self
    have h1 := sub_len (b := b.erase x) hn.2 (fun y hy => (List.mem_erase_of_ne (fun e => hn.1 (by rw [← e]; exact hy))).2 (hs (List.mem_cons_of_mem _ hy)))
    have h2 := List.length_erase_of_mem hx
    have h3 := List.length_pos_of_mem hx
    rw [List.length_cons]; omega
/-- The least number that no node has is at most how many there are. -/
theorem IsNum.free {T : Wd} {s : Nat} (h : IsNum T s) {k : Nat} (hk : ∀ i : Nat, i < k → (T i).isSome = true) : k ≤ s := by
  obtain ⟨ks, hn, rfl, m⟩ := h
  have hsub : ((List.range k).map (fun i : Nat => (i : Int))) ⊆ ks := fun x hx => by
    obtain ⟨i, hi, rfl⟩ := List.mem_map.1 hx
    exact (m _).2 (hk i (List.mem_range.1 hi))
  have hnd : ((List.range k).map (fun i : Nat => (i : Int))).Nodup := List.pairwise_map.2 (List.nodup_range.imp (fun {a b} h e => h (by omega)))
  have := sub_len hnd hsub
  simpa using this

/-- A tree whose counts are right. -/
def PT (w : World) (r : Nat) (T : Wd) (O : Nat → Prop) : Prop := ∃ gN s B G V, PTr w r gN s T (cntT T) B G V O

section
variable {w w' : World} {r gN s : Nat} {T : Wd} {Z : Int → Nat} {B G : Int → Nat} {V : Int → Value} {O : Nat → Prop}

theorem PT.below (h : PT w r T O) (hb : Below w.heap.size w w') : PT w' r T O := by
  obtain ⟨gN, s, B, G, V, h⟩ := h
  exact ⟨gN, s, B, G, V, h.below hb⟩
theorem PT.keep (h : PT w r T O) (hk : ∀ i, O i → w'.heap[i]? = w.heap[i]?) (hs : w.heap.size ≤ w'.heap.size) : PT w' r T O := by
  obtain ⟨gN, s, B, G, V, h⟩ := h
  exact ⟨gN, s, B, G, V, h.keep hk hs⟩
theorem PT.lt (h : PT w r T O) (i : Nat) (hi : O i) : i < w.heap.size := by
  obtain ⟨gN, s, B, G, V, h⟩ := h
  exact h.lt i hi
theorem PTr.num (h : PTr w r gN s T Z B G V O) : IsNum T s := h.map.num (f := fun k _ => wp (B k))
theorem PT.nodes_ok (h : PT w r T O) {s : Nat} (hs : IsNum T s) : Calls Tryz.prog 13 #[wp r] w fun e w' => e = .returned (.int .i64 (s : Int)) ∧ w' = w := by
  obtain ⟨gN, s', B, G, V, h⟩ := h
  rw [hs.one h.num]
  exact h.nodes_ok
theorem PT.num (h : PT w r T O) : ∃ s, IsNum T s := by
  obtain ⟨gN, s, B, G, V, h⟩ := h
  exact ⟨s, h.num⟩

theorem ptr_ne (b : Nat) (w : World) : (binOp BinOp.eql 106 (wp b) (.pointer none)).run Tryz.prog w = .ok (.bool false) w := by kernel_rfl
theorem ptr_nil (w : World) : (binOp BinOp.eql 106 (.pointer none) (.pointer none)).run Tryz.prog w = .ok (.bool true) w := by kernel_rfl

set_option maxRecDepth 100000 in
set_option maxHeartbeats 2000000 in
theorem PTr.file_bad (h : PTr w r gN s T Z B G V O) (n : Int) (hw : (Lit.int .i64 n).wf = true) (hz : fileT T n ≠ 0) :
    Calls Tryz.prog 64 #[wp r, .int .i64 n] w fun e w' => e = .returned (.tuple #[.pointer none, uer (fileT T n)]) ∧ w' = w := by
  have c0 := h.c0
  have hlk := h.look n hw
  cases hn : T n with
  | none =>
    have e : fileT T n = 7 := by unfold fileT; rw [hn]
    rw [e]
    rw [hn] at hlk
    simp only [Option.isSome_none, Bool.false_eq_true, if_false] at hlk
    have h9 := ptr_nil
    go_enter Tryz.func64, Tryz.ntmps64
    go_wp2_with fail
    go_ret2
    exact ⟨rfl, rfl⟩
  | some nd =>
    cases nd with
    | dir C =>
      have e : fileT T n = 6 := by unfold fileT; rw [hn]
      rw [e]
      rw [hn] at hlk
      simp only [Option.isSome_some, if_true] at hlk
      have h9 := ptr_ne (B n)
      obtain ⟨n0, _⟩ := h.dcell hn
      have hID := isDir_yes n0
      go_enter Tryz.func64, Tryz.ntmps64
      go_wp2_with (go_at_call 98; refine hID.mono ?_; rintro e w' ⟨rfl, hw'⟩; subst w')
      go_ret2
      exact ⟨rfl, rfl⟩
    | file b x => exact absurd (by unfold fileT; rw [hn]) hz

set_option maxRecDepth 100000 in
set_option maxHeartbeats 2000000 in
theorem PTr.file_ok (h : PTr w r gN s T Z B G V O) (n : Int) (hw : (Lit.int .i64 n).wf = true) {b : List UInt8} {x : Nat} (hn : T n = some (.file b x)) :
    Calls Tryz.prog 64 #[wp r, .int .i64 n] w fun e w' => e = .returned (.tuple #[wp (B n), .nilIface]) ∧ w' = w := by
  have c0 := h.c0
  have hlk := h.look n hw
  rw [hn] at hlk
  simp only [Option.isSome_some, if_true] at hlk
  have h9 := ptr_ne (B n)
  obtain ⟨n0, _⟩ := h.fcell hn
  have hID := isDir_no n0
  go_enter Tryz.func64, Tryz.ntmps64
  go_wp2_with (go_at_call 98; refine hID.mono ?_; rintro e w' ⟨rfl, hw'⟩; subst w')
  go_ret2
  exact ⟨rfl, rfl⟩

def sizeS (T : Wd) (n : Int) : Int := match T n with
  | some (.file b _) => (b.length : Int)
  | _ => 0
theorem Dat.len {v : Value} {b : List UInt8} (h : Dat w v b) : ∃ a c, v = .slice a b.length c := by
  rcases h with ⟨rfl, rfl⟩ | ⟨g, c, rfl, _⟩
  · exact ⟨none, 0, rfl⟩
  · exact ⟨_, c, rfl⟩
end
end Go.Proofs.YtjkneekfijibiabGreatDoor

namespace Go.Proofs.YtjkneekfijibiabGreatDoor
open Go.RowKit Go.Maps

/-- What a block of the program's is. -/
inductive Tag
  | head
  | mp
  | ent (d : Int)
  | pip (p : Int)
  | tree
/-- Where things lie: the tree, the map, which ENTRY a key has, each ENTRY's block, each pipe's. -/
structure QG where
  r : Nat
  gO : Nat
  K : Int → Option Int
  B : Int → Nat
  Q : Int → Nat
  kap : Nat → Option Tag
def pv (g : QG) (e : En) : Value := if e.kind = 1 then .pointer none else wp (g.Q e.pipe)
abbrev ecells (g : QG) (e : En) (c : Int) : Array Value := #[.int .i64 e.kind, .int .i64 e.prot, .int .i64 c, .int .i64 e.node, .int .i64 e.pos, pv g e]
structure QF (w : World) (f : Nat) (D : DS) (g : QG) (n : Nat) : Prop where
  head : w.heap[f]? = some (.cells #[wp g.r, .map (some g.gO)] 144)
  tree : ∃ O, PT w g.r D.T O ∧ ∀ i, O i → g.kap i = some .tree
  map : PMap w g.gO n (fun k => (g.K k).map (fun d => wp (g.B d)))
  ent : ∀ d e, D.E d = some e → ∃ c, D.R d = some c ∧ w.heap[g.B d]? = some (.cells (ecells g e c) 180) ∧ g.kap (g.B d) = some (.ent d)
  key : ∀ k d, g.K k = some d → (D.E d).isSome = true ∧ 0 < k ∧ k < 100000
  has : ∀ d, (D.E d).isSome = true → ∃ k, g.K k = some d
  inj : ∀ k k' d, g.K k = some d → g.K k' = some d → k = k'
  pipe : ∀ p x, D.P p = some x → Tb w (g.Q p) x.2.1 x.2.2 x.1 ∧ g.kap (g.Q p) = some (.pip p)
  tf : g.kap f = some .head
  tm : g.kap g.gO = some .mp
  lt : ∀ i, (g.kap i).isSome = true → i < w.heap.size
/-- A table: keys in memory, ENTRIES. -/
structure QTb (w : World) (b : Nat) (g : QG) (M N : Ns) : Prop where
  tab : QT w b M
  off : g.kap b = none
  len : N.length = 8
  rel : ∀ i (h : i < M.length) (h' : i < N.length), N[i].2 = M[i].2 ∧ ((M[i].1 = 0 ∧ N[i].1 = 0) ∨ (0 < N[i].1 ∧ g.K M[i].1 = some N[i].1))
/-- What stays of where things lie. -/
structure Ext (w : World) (D' : DS) (g g' : QG) : Prop where
  kap : ∀ i, i < w.heap.size → g'.kap i = g.kap i
  key : ∀ k d, g.K k = some d → (D'.E d).isSome = true → g'.K k = some d
  r : g'.r = g.r
/-- What a call leaves. -/
structure QGo (w w' : World) (f : Nat) (D' : DS) (g : QG) (b : Nat) (N' : Ns) : Prop where
  ex : ∃ g' n' M', QF w' f D' g' n' ∧ QTb w' b g' M' N' ∧ Ext w D' g g'
  wt : Wt (fun i => (g.kap i).isSome = true ∨ i = b) w w'

theorem tag_ne {κ : Nat → Option Tag} {i j : Nat} {s t : Tag} (hi : κ i = some s) (hj : κ j = some t) (h : s ≠ t) : i ≠ j := fun e => h (by rw [e] at hi; exact Option.some.inj (hi.symm.trans hj))
theorem tag_off {κ : Nat → Option Tag} {i j : Nat} {s : Tag} (hi : κ i = some s) (hj : κ j = none) : i ≠ j := fun e => by rw [e, hj] at hi; cases hi
section
variable {w w' w2 : World} {f b n : Nat} {D D' : DS} {g g' : QG} {M N N' : Ns} {d k : Int} {e : En}
theorem Ext.refl (w : World) (D : DS) (g : QG) : Ext w D g g := ⟨fun _ _ => rfl, fun _ _ h _ => h, rfl⟩
theorem QF.k0 (h : QF w f D g n) : g.K 0 = none := by
  cases e : g.K 0 with
  | none => rfl
  | some d => have := (h.key 0 d e).2.1; omega
theorem QF.keep (h : QF w f D g n) (hk : ∀ i, (g.kap i).isSome = true → w'.heap[i]? = w.heap[i]?) (hs : w.heap.size ≤ w'.heap.size) : QF w' f D g n := by
  have ht : ∀ {i t}, g.kap i = some t → w'.heap[i]? = w.heap[i]? := fun {i t} e => hk i (by rw [e]; rfl)
  obtain ⟨O, p, hO⟩ := h.tree
  refine ⟨(ht h.tf).trans h.head, ⟨O, p.keep (fun i hi => ht (hO i hi)) hs, hO⟩, h.map.keep (ht h.tm), fun d e he => ?_, h.key, h.has, h.inj, fun p x hp => ?_, h.tf, h.tm, fun i hi => Nat.lt_of_lt_of_le (h.lt i hi) hs⟩
  · obtain ⟨c, h1, h2, h3⟩ := h.ent d e he
    exact ⟨c, h1, (ht h3).trans h2, h3⟩
  · obtain ⟨h1, h2⟩ := h.pipe p x hp
    exact ⟨h1.keep (ht h2), h2⟩
theorem QF.below (h : QF w f D g n) (hb : Below w.heap.size w w') : QF w' f D g n := h.keep (fun i hi => hb.block i (h.lt i hi)) hb.size
theorem QTb.keep (h : QTb w b g M N) (hk : w'.heap[b]? = w.heap[b]?) : QTb w' b g M N := ⟨h.tab.keep hk, h.off, h.len, h.rel⟩
theorem QTb.below (h : QTb w b g M N) (hb : Below w.heap.size w w') : QTb w' b g M N := h.keep (hb.block b h.tab.lt)
/-- Another table stays. -/
theorem QTb.other (h : QTb w b g M N) (hx : Ext w D' g g') (hk : w'.heap[b]? = w.heap[b]?) (hE : ∀ i (hi : i < N.length), 0 < N[i].1 → (D'.E N[i].1).isSome = true) : QTb w' b g' M N := by
  refine ⟨h.tab.keep hk, (hx.kap b h.tab.lt).trans h.off, h.len, fun i h1 h2 => ?_⟩
  obtain ⟨a, c⟩ := h.rel i h1 h2
  refine ⟨a, ?_⟩
  rcases c with c | ⟨c1, c2⟩
  · exact .inl c
  · exact .inr ⟨c1, hx.key _ _ c2 (hE i h2 c1)⟩
theorem QF.cells (h : QF w f D g n) : w.cell? ⟨f, 0, none⟩ = some (wp g.r) ∧ w.cell? ⟨f, 1, none⟩ = some (.map (some g.gO)) :=
  ⟨by rw [cell_of_row _ _ _ _ _ _ h.head]; rfl, by rw [cell_of_row _ _ _ _ _ _ h.head]; rfl⟩
theorem QF.ecell (h : QF w f D g n) (he : D.E d = some e) {c : Int} (hc : D.R d = some c) : w.cell? ⟨g.B d, 0, none⟩ = some (.int .i64 e.kind) ∧ w.cell? ⟨g.B d, 1, none⟩ = some (.int .i64 e.prot) ∧ w.cell? ⟨g.B d, 2, none⟩ = some (.int .i64 c) ∧ w.cell? ⟨g.B d, 3, none⟩ = some (.int .i64 e.node) ∧ w.cell? ⟨g.B d, 4, none⟩ = some (.int .i64 e.pos) ∧ w.cell? ⟨g.B d, 5, none⟩ = some (pv g e) ∧ ∀ o, w.frozen? ⟨g.B d, o, none⟩ = false := by
  obtain ⟨c', h1, h2, _⟩ := h.ent d e he
  rw [hc] at h1
  obtain rfl := Option.some.inj h1
  refine ⟨?_, ?_, ?_, ?_, ?_, ?_, fun o => by simp [World.frozen?, h2]⟩ <;> (rw [cell_of_row _ _ _ _ _ _ h2]; rfl)
theorem zero_ent (w : World) : (zeroValue 149).run Tryz.prog w = .ok (.pointer none) w := by kernel_rfl
/-- What the map holds at a key. -/
def gv (g : QG) (k : Int) : Value := match g.K k with
  | some d => wp (g.B d)
  | none => .pointer none
theorem gv_some (h : g.K k = some d) : gv g k = wp (g.B d) := by unfold gv; rw [h]
theorem gv_none (h : g.K k = none) : gv g k = .pointer none := by unfold gv; rw [h]
theorem QF.look (h : QF w f D g n) {k : Int} (h0 : 0 ≤ k) (h1 : k < 100000) : (Instr.lookup 142 (.map (some g.gO)) (.int .i64 k) false).run Tryz.prog w = .ok (gv g k) w := by
  rw [h.map.look Tryz.underlying142 (zero_ent _) k (wf_few h0 (by omega))]
  unfold gv
  cases g.K k <;> rfl
/-- An ENTRY's cells turned. -/
theorem QF.cell (h : QF w f D g n) (he : D.E d = some e) (e' : En) (c' : Int) (hw : w'.heap[g.B d]? = some (.cells (ecells g e' c') 180)) (hg : w.grownBy w' (some (g.B d))) :
    QF w' f { D with E := fun i => if i = d then some e' else D.E i, R := fun i => if i = d then some c' else D.R i } g n := by
  obtain ⟨c, h1, h2, h3⟩ := h.ent d e he
  have hk : ∀ {i t}, g.kap i = some t → t ≠ .ent d → w'.heap[i]? = w.heap[i]? := fun {i t} ei ht => hg.block i (h.lt i (by rw [ei]; rfl)) (fun x => tag_ne ei h3 ht (Option.some.inj x))
  obtain ⟨O, p, hO⟩ := h.tree
  have hs : ∀ x, (if x = d then some e' else D.E x).isSome = (D.E x).isSome := fun x => by
    by_cases ex : x = d
    · rw [if_pos ex, ex, he]; rfl
    · rw [if_neg ex]
  refine ⟨(hk h.tf (by simp)).trans h.head, ⟨O, p.keep (fun i hi => hk (hO i hi) (by simp)) hg.size, hO⟩, h.map.keep (hk h.tm (by simp)), fun x ex hx => ?_, fun k x hx => ?_, fun x hx => h.has x (by rw [← hs x]; exact hx), h.inj, fun p x hp => ?_, h.tf, h.tm, fun i hi => Nat.lt_of_lt_of_le (h.lt i hi) hg.size⟩
  · have hx' : (if x = d then some e' else D.E x) = some ex := hx
    by_cases e1 : x = d
    · subst e1
      rw [if_pos rfl] at hx'
      obtain rfl := Option.some.inj hx'
      exact ⟨c', if_pos rfl, hw, h3⟩
    · rw [if_neg e1] at hx'
      obtain ⟨c1, a1, a2, a3⟩ := h.ent x ex hx'
      exact ⟨c1, (if_neg e1).trans a1, (hk a3 (fun q => e1 (by injection q))).trans a2, a3⟩
  · obtain ⟨a, c⟩ := h.key k x hx
    exact ⟨by show (if x = d then some e' else D.E x).isSome = true; rw [hs]; exact a, c⟩
  · obtain ⟨a1, a2⟩ := h.pipe p x hp
    exact ⟨a1.keep (hk a2 (by simp)), a2⟩
theorem QF.putR (h : QF w f D g n) (he : D.E d = some e) (c' : Int) (hw : w'.heap[g.B d]? = some (.cells (ecells g e c') 180)) (hg : w.grownBy w' (some (g.B d))) :
    QF w' f { D with R := fun i => if i = d then some c' else D.R i } g n := by
  have := h.cell he e c' hw hg
  have hE : (fun i => if i = d then some e else D.E i) = D.E := by
    funext i
    by_cases ei : i = d
    · rw [if_pos ei, ei, he]
    · rw [if_neg ei]
  rw [hE] at this
  exact this
theorem QF.putE (h : QF w f D g n) (he : D.E d = some e) {c : Int} (hc : D.R d = some c) (e' : En) (hw : w'.heap[g.B d]? = some (.cells (ecells g e' c) 180)) (hg : w.grownBy w' (some (g.B d))) :
    QF w' f { D with E := fun i => if i = d then some e' else D.E i } g n := by
  have := h.cell he e' c hw hg
  have hE : (fun i => if i = d then some c else D.R i) = D.R := by
    funext i
    by_cases ei : i = d
    · rw [if_pos ei, ei, hc]
    · rw [if_neg ei]
  rw [hE] at this
  exact this
/-- A table's number turned. -/
theorem QT.put (h : QT w b M) {i : Nat} (hi : i < 8) (x : Int × Bool) (hx : 0 ≤ x.1 ∧ x.1 < 100000 ∧ (x.1 = 0 → x.2 = false)) : QT ((w.setCell ⟨b, i * 2, none⟩ (.int .i64 x.1)).setCell ⟨b, i * 2 + 1, none⟩ (.bool x.2)) b (M.set i x) := by
  refine ⟨?_, by rw [List.length_set]; exact h.len, fun y hy => ?_⟩
  · have h1 := heap_cell_same w b (i * 2) (.int .i64 x.1) _ _ _ h.blk
    have h2 := heap_cell_same _ b (i * 2 + 1) (.bool x.2) _ _ _ h1
    rw [h2, ← nv_put M i x (by rw [h.len]; exact hi), Nat.mul_comm]
    simp
  · rcases List.mem_or_eq_of_mem_set hy with h1 | h1
    · exact h.pos y h1
    · rw [h1]; exact hx
theorem QT.mark (h : QT w b M) {i : Nat} (hi : i < 8) (c : Bool) (hc : (M[i]'(by rw [h.len]; exact hi)).1 ≠ 0) : QT (w.setCell ⟨b, i * 2 + 1, none⟩ (.bool c)) b (M.set i ((M[i]'(by rw [h.len]; exact hi)).1, c)) := by
  have hiL : i < M.length := by rw [h.len]; exact hi
  refine ⟨?_, by rw [List.length_set]; exact h.len, fun y hy => ?_⟩
  · have h2 := heap_cell_same w b (i * 2 + 1) (.bool c) _ _ _ h.blk
    rw [h2, ← nv_put M i (M[i].1, c) hiL, Nat.mul_comm]
    have e : (nv M).set (2 * i) (.int .i64 M[i].1) = nv M := by
      obtain ⟨e1, _⟩ := nv_at M i hiL
      obtain ⟨hl, he⟩ := List.getElem?_eq_some_iff.1 e1
      rw [← he, List.set_getElem_self]
    simp [e]
  · rcases List.mem_or_eq_of_mem_set hy with h1 | h1
    · exact h.pos y h1
    · rw [h1]; exact ⟨(h.nn hiL).1, (h.nn hiL).2.1, fun e => absurd e hc⟩
/-- The relation behind one number's turn. -/
theorem QTb.set (h : QTb w b g M N) {i : Nat} (x y : Int × Bool) (hT : QT w' b (M.set i x)) (hxy : y.2 = x.2 ∧ ((x.1 = 0 ∧ y.1 = 0) ∨ (0 < y.1 ∧ g.K x.1 = some y.1))) : QTb w' b g (M.set i x) (N.set i y) := by
  refine ⟨hT, h.off, by rw [List.length_set]; exact h.len, fun j h1 h2 => ?_⟩
  rw [List.length_set] at h1 h2
  by_cases e : i = j
  · subst e
    simp only [List.getElem_set_self]
    exact hxy
  · rw [List.getElem_set_ne e, List.getElem_set_ne e]
    exact h.rel j h1 h2
end
end Go.Proofs.YtjkneekfijibiabGreatDoor
