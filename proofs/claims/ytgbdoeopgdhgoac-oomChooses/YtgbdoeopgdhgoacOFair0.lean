/- OomFair: the statements' own fact; slices.IndexFunc at candidates, by its Go text; the numbers that were seen. -/
import Derived.Test.YtgbdoeopgdhgoacOChoose
import Derived.WalkLawsBesides
import Derived.Shelf.Abstract
import Derived.Deep.RegionLaw
import Derived.Lib.SliceRun
namespace Go.Proofs.Ytgbdoeopgdhgoac
open Go.RowKit Go.Maps Go.Shelf

theorem Cds.below {w w' : World} {ad : Option Addr} {L : List Cd} (h : Cds w ad L) (hb : Below w.heap.size w w') : Cds w' ad L := by
  rcases h with h0 | ⟨blk, off, rfl, hbl, hq⟩
  · exact .inl h0
  · refine .inr ⟨blk, off, rfl, Nat.lt_of_lt_of_le hbl hb.size, fun j hj => ?_⟩
    obtain ⟨e0, e1, e2⟩ := hq j hj
    rw [hb.cell (p := ⟨blk, off + j * 3, none⟩) hbl, hb.cell (p := ⟨blk, off + j * 3 + 1, none⟩) hbl, hb.cell (p := ⟨blk, off + j * 3 + 2, none⟩) hbl]
    exact ⟨e0, e1, e2⟩
set_option maxHeartbeats 1000000 in
theorem chosen_ok (hV : VicC) (w : World) : Calls Try.prog 7 #[] w fun e w' => e = .returned (.bool true) ∧ Below w.heap.size w w' := by
  obtain ⟨o, ho⟩ : ∃ o : Obj, o = .cells #[.int .i64 2, .int .i64 3, .int .i64 0, .int .i64 3, .int .i64 2, .int .i64 60, .int .i64 4, .int .i64 0, .int .i64 0] 25 := ⟨_, rfl⟩
  have hA := (Below.refl _ w).alloc (Nat.le_refl _) o
  have hn : (w.alloc o).heap[w.heap.size]? = some o := by show (w.heap.push _)[w.heap.size]? = _; rw [Array.getElem?_push, if_pos rfl]
  subst ho
  have hc := hV (w.alloc (.cells #[.int .i64 2, .int .i64 3, .int .i64 0, .int .i64 3, .int .i64 2, .int .i64 60, .int .i64 4, .int .i64 0, .int .i64 0] 25)) (some ⟨w.heap.size, 0, none⟩) [⟨2, 3, 0⟩, ⟨3, 2, 60⟩, ⟨4, 0, 0⟩] 3 (by simp) (.inr ⟨w.heap.size, 0, rfl, by simp, fun j hj => by
    have hj' : j = 0 ∨ j = 1 ∨ j = 2 := by simp at hj; omega
    rcases hj' with rfl | rfl | rfl <;> (refine ⟨?_, ?_, ?_⟩ <;> (rw [cell_of_row _ _ _ _ _ _ hn]; rfl))⟩)
  have hv : vic [⟨2, 3, 0⟩, ⟨3, 2, 60⟩, ⟨4, 0, 0⟩] = (320, 3) := by kernel_rfl
  rw [hv] at hc
  simp only [show decide ((0 : Int) < 320) = true from rfl] at hc
  clear hv hn
  go_enter Try.func7, Try.ntmps7
  go_wp2_with (go_at_call 6; refine hc.mono ?_; rintro e w1 ⟨rfl, b1⟩)
  go_ret
  exact ⟨rfl, hA.trans (b1.mono hA.size)⟩
/-- Where one of that number is. -/
def At1 (p : Int) (L : List Cd) (r : Int) : Prop := (∃ j, ∃ hj : j < L.length, r = (j : Int) ∧ L[j].pid = p) ∨ (r = -1 ∧ ∀ c ∈ L, c.pid ≠ p)
set_option maxHeartbeats 1000000 in
theorem samePid_ok (w : World) (X R D p : Int) (x : Nat) (hx : w.cell? ⟨x, 0, none⟩ = some (.int .i64 p)) :
    Calls Try.prog 10 #[.agg #[.int .i64 X, .int .i64 R, .int .i64 D], .pointer (some ⟨x, 0, none⟩)] w fun e w' => e = .returned (.bool (decide (X = p))) ∧ Below w.heap.size w w' := by
  have hxl : x < w.heap.size := World.block_lt_of_cell? w _ hx
  have hca := World.cell?_alloc_lt w (.cells #[.int .i64 X, .int .i64 R, .int .i64 D] 25) ⟨x, 0, none⟩ hxl
  rw [hx] at hca
  have hA := (Below.refl _ w).alloc (Nat.le_refl _) (.cells #[.int .i64 X, .int .i64 R, .int .i64 D] 25)
  have hv : decide (X = p) = (X == p) := by by_cases e : X = p <;> simp [e]
  rw [hv]
  go_enter Try.func10, Try.ntmps10
  go_wp2_with fail
  go_ret
  exact ⟨rfl, hA⟩
set_option maxRecDepth 100000 in
set_option maxHeartbeats 2000000 in
theorem idxC_ok (w : World) (ad : Option Addr) (L : List Cd) (cap : Nat) (p : Int) (x : Nat) (hl : L.length ≤ 100) (h : Cds w ad L) (hx : w.cell? ⟨x, 0, none⟩ = some (.int .i64 p)) :
    Calls Try.prog 9 #[.slice ad L.length cap, .func (.func 10) #[] #[.pointer (some ⟨x, 0, none⟩)]] w fun e w' => ∃ r, e = .returned (.int .i64 r) ∧ At1 p L r ∧ Below w.heap.size w w' := by
  have HCD : Aside (Cds w ad L) := h
  have ef : ∀ args w, (callFunc 10 args).run Try.prog w = .ok (.enter 10 args) w := enters_of Try.func10 (by kernel_rfl) rfl
  have hxl : x < w.heap.size := World.block_lt_of_cell? w _ hx
  clear h
  go_enter Try.func9, Try.ntmps9
  go_wp2_with fail
  go_loopg [5, 8] L.length (fun gg _ s8 wr => ∃ kk : Nat, kk ≤ L.length ∧ L.length - kk ≤ gg ∧ s8 = .int .i64 kk ∧ Below w.heap.size w wr ∧ Aside (∀ j (hj : j < L.length), j < kk → L[j].pid ≠ p))
  case atStart => exact ⟨0, Nat.zero_le _, by omega, rfl, Below.refl _ _, fun j _ hj => absurd hj (Nat.not_lt_zero _)⟩
  case round =>
    obtain ⟨kk, hkk, hg, rfl, hbel, A⟩ := hrel
    by_cases hlt : kk < L.length
    · have hltz : (kk : Int) < (L.length : Int) := by omega
      rcases HCD.out with h0 | ⟨blk, off, rfl, hbl, hq⟩
      · rw [h0] at hlt; cases hlt
      obtain ⟨d0, d1, d2⟩ := hq kk hlt
      have c0 : wr.cell? ⟨blk, off + kk * 3, none⟩ = some (.int .i64 L[kk].pid) := by rw [hbel.cell (p := ⟨blk, off + kk * 3, none⟩) hbl]; exact d0
      have c1 : wr.cell? ⟨blk, off + kk * 3 + 1, none⟩ = some (.int .i64 L[kk].res) := by rw [hbel.cell (p := ⟨blk, off + kk * 3 + 1, none⟩) hbl]; exact d1
      have c2 : wr.cell? ⟨blk, off + kk * 3 + 2, none⟩ = some (.int .i64 L[kk].adj) := by rw [hbel.cell (p := ⟨blk, off + kk * 3 + 2, none⟩) hbl]; exact d2
      clear d0 d1 d2 hq
      have hcall := samePid_ok wr L[kk].pid L[kk].res L[kk].adj p x (by rw [hbel.cell (p := ⟨x, 0, none⟩) hxl]; exact hx)
      by_cases he : L[kk].pid = p
      · have HE : Aside (∃ hj : kk < L.length, L[kk].pid = p) := ⟨hlt, he⟩
        rw [decide_eq_true he] at hcall
        clear he
        generalize L[kk] = cc at *
        obtain ⟨X, R, D⟩ := cc
        simp only at c0 c1 c2 hcall
        go_wp2_with (go_at_fn 10; refine hcall.mono ?_; rintro e w' ⟨rfl, hb2⟩)
        go_ret
        obtain ⟨h5, h6⟩ := HE.out
        exact ⟨_, rfl, .inl ⟨kk, h5, rfl, h6⟩, hbel.trans (hb2.mono hbel.size)⟩
      · have HN : Aside (∀ j (hj : j < L.length), j < kk + 1 → L[j].pid ≠ p) := fun j hj hjk => by
          by_cases e : j = kk
          · subst e; exact he
          · exact A.out j hj (by omega)
        rw [decide_eq_false he] at hcall
        clear he
        generalize L[kk] = cc at *
        obtain ⟨X, R, D⟩ := cc
        simp only at c0 c1 c2 hcall
        go_wp2_with (go_at_fn 10; refine hcall.mono ?_; rintro e w' ⟨rfl, hb2⟩)
        go_roundg (L.length - (kk + 1))
        case measure => omega
        case rel => exact ⟨kk + 1, by omega, by omega, by go_num, hbel.trans (hb2.mono hbel.size), HN⟩
    · have hltz : ¬ (kk : Int) < (L.length : Int) := by omega
      go_wp2_with fail
      go_ret
      exact ⟨_, rfl, .inr ⟨rfl, fun c hc => by
        obtain ⟨j, hj, rfl⟩ := List.getElem_of_mem hc
        exact A.out j hj (by omega)⟩, hbel⟩
theorem cd_info : ∃ i, Try.prog.info? 25 = some i ∧ i.zero = some (.agg #[.int .i64 0, .int .i64 0, .int .i64 0]) ∧ i.size = 3 ∧ i.bytes = 24 :=
  info_parts (P := Try.prog) (e := 25) (z := .agg #[.int .i64 0, .int .i64 0, .int .i64 0]) (size := 3) (bytes := 24) (by kernel_rfl)
/-- A part of an array, cell by cell. -/
theorem Cds.news {w : World} {blk off : Nat} {L : List Cd} (hq : ∀ j (hj : j < L.length), w.cell? ⟨blk, off + j * 3, none⟩ = some (.int .i64 L[j].pid) ∧ w.cell? ⟨blk, off + j * 3 + 1, none⟩ = some (.int .i64 L[j].res) ∧ w.cell? ⟨blk, off + j * 3 + 2, none⟩ = some (.int .i64 L[j].adj)) (j : Nat) (u : Value) (h : (ccl L)[j]? = some u) : w.cell? ((⟨blk, off, none⟩ : Addr).add j) = some u := by
  have hj : j < L.length * 3 := by have := (List.getElem?_eq_some_iff.1 h).1; rwa [ccl_len] at this
  have hq1 : j / 3 < L.length := by omega
  obtain ⟨e0, e1, e2⟩ := hq (j / 3) hq1
  obtain ⟨f0, f1, f2⟩ := ccl_get L (j / 3) L[j / 3] (by simp [hq1])
  rw [Addr.add_lit]
  have hm : j % 3 = 0 ∨ j % 3 = 1 ∨ j % 3 = 2 := by omega
  rcases hm with z | z | z
  · rw [show j = j / 3 * 3 by omega] at h ⊢
    rw [f0] at h; rw [← h]; exact e0
  · rw [show j = j / 3 * 3 + 1 by omega] at h ⊢
    rw [f1] at h; rw [← h, show off + (j / 3 * 3 + 1) = off + j / 3 * 3 + 1 by omega]; exact e1
  · rw [show j = j / 3 * 3 + 2 by omega] at h ⊢
    rw [f2] at h; rw [← h, show off + (j / 3 * 3 + 2) = off + j / 3 * 3 + 2 by omega]; exact e2
/-- append, by its own equation, as one step of a region that draws. -/
theorem step_append_run {P : Program} {ops : Array Oper} {o : Oper} {a : Act} {w : World} {K : Act → World → Prop} {Q : Exit → Act → World → Prop} {E : Prop}
    (hg : o.guard = none) (s x : Operand) (t : TypeId) (hop : o.op = Op.call { callee := Callee.builtin Builtin.append, args := #[s, x], argTypes := #[t, t] })
    (v y v' : Value) (w' : World) (hs : a.eval s = v) (hx : a.eval x = y) (hr : (Builtin.append_ #[t, t] o.type #[v, y]).run P w = .ok v' w') (hK : K (a.put o.dst v') w') :
    if Region.wanted o (yielded ops a.tmps) = true then Oper.wp P o a w K Q else E := by
  have hw : Region.wanted o (yielded ops a.tmps) = true := by simp [Region.wanted, hg]
  rw [if_pos hw]
  unfold Oper.wp
  simp [execOp, hop, resolve, invoke, builtin, hs, hx, hr, Result.andThen]
  exact hK
/-- Candidates from a place on. -/
def Cells (w : World) (blk off : Nat) (L : List Cd) : Prop := ∀ j (hj : j < L.length), w.cell? ⟨blk, off + j * 3, none⟩ = some (.int .i64 L[j].pid) ∧ w.cell? ⟨blk, off + j * 3 + 1, none⟩ = some (.int .i64 L[j].res) ∧ w.cell? ⟨blk, off + j * 3 + 2, none⟩ = some (.int .i64 L[j].adj)
theorem Cells.keep {w w' : World} {blk off : Nat} {L : List Cd} (h : Cells w blk off L) (hb : w'.heap[blk]? = w.heap[blk]?) : Cells w' blk off L := fun j hj => by
  rw [World.cell?_of_block (w := w) (a := ⟨blk, off + j * 3, none⟩) hb, World.cell?_of_block (w := w) (a := ⟨blk, off + j * 3 + 1, none⟩) hb, World.cell?_of_block (w := w) (a := ⟨blk, off + j * 3 + 2, none⟩) hb]
  exact h j hj
theorem Cells.take {w : World} {blk off : Nat} {L : List Cd} (h : Cells w blk off L) (k : Nat) : Cells w blk off (L.take k) := fun j hj => by
  rw [List.length_take] at hj
  rw [List.getElem_take]
  exact h j (by omega)
theorem Cells.drop {w : World} {blk off : Nat} {L : List Cd} (h : Cells w blk off L) (k : Nat) : Cells w blk (off + k * 3) (L.drop k) := fun j hj => by
  rw [List.length_drop] at hj
  rw [List.getElem_drop, show off + k * 3 + j * 3 = off + (k + j) * 3 by omega]
  exact h (k + j) (by omega)
/-- A new list of none. -/
theorem CL.empty {w : World} : CL (w.alloc (.cells #[] 25)) w.heap.size 25 (.slice (some ⟨w.heap.size, 0, none⟩) 0 0) [] :=
  ⟨rfl, .inr ⟨w.heap.size, 0, #[], rfl, Nat.le_refl _, by show (w.heap.push _)[w.heap.size]? = _; rw [Array.getElem?_push, if_pos rfl], Nat.le_refl _, Nat.zero_le _, rfl, rfl⟩⟩
theorem CL.keep {w w' : World} {N : Nat} {t : TypeId} {v : Value} {L : List Cd} (h : CL w N t v L) (hb : ∀ i, N ≤ i → i < w.heap.size → w'.heap[i]? = w.heap[i]?) : CL w' N t v L := by
  refine ⟨h.1, ?_⟩
  rcases h.2 with z | ⟨g, cap, cur, rfl, h1, h2, h3⟩
  · exact .inl z
  · exact .inr ⟨g, cap, cur, rfl, h1, (hb g h1 (by
      by_cases e : g < w.heap.size
      · exact e
      · rw [Array.getElem?_eq_none (by omega)] at h2; cases h2)).trans h2, h3⟩
/-- What an append of such a part leaves. -/
theorem append_cds {W : World} {N : Nat} {v : Value} {M L : List Cd} (hown : CL W N 25 v M) {blk off : Nat} (hq : Cells W blk off L) (c : Nat) (hm : M.length ≤ 100) (hl : L.length ≤ 100) (hN : N ≤ W.heap.size) :
    ∃ v' w', (∀ ty, ty = 23 → (Builtin.append_ #[23, 23] ty #[v, .slice (some ⟨blk, off, none⟩) L.length c]).run Try.prog W = .ok v' w') ∧ CL w' N 25 v' (M ++ L) ∧ W.grownBy w' v.ownBlock := by
  obtain ⟨i0, hi0, hz0, hz1, hz2⟩ := cd_info
  obtain ⟨v', w', hr, ho, hg, _⟩ := run_append_own_at (P := Try.prog) W N 23 23 25 i0 (.agg #[.int .i64 0, .int .i64 0, .int .i64 0]) 3 24 Try.underlying23 hi0 hz0 hz1 hz2 rfl (by decide) v M.length (ccl M) hown ⟨blk, off, none⟩ L.length c (ccl L) (ccl_len L) (Cds.news hq) (ccl_one L) (by unfold maxLen; omega) (by omega) hN
  refine ⟨v', w', fun ty e => by rw [e]; exact hr, ?_, hg⟩
  unfold CL
  rw [List.length_append, ccl_app]; exact ho
set_option maxHeartbeats 2000000 in
theorem cloneC_ok (w : World) (blk off : Nat) (L : List Cd) (cap : Nat) (hl : L.length ≤ 100) (hq : Cells w blk off L) (hb : blk < w.heap.size) :
    Calls Try.prog 11 #[.slice (some ⟨blk, off, none⟩) L.length cap] w fun e w' => ∃ v, e = .returned v ∧ CL w' w.heap.size 25 v L ∧ Below w.heap.size w w' := by
  obtain ⟨i0, hi0, hz0, hz1, hz2⟩ := cd_info
  have hA := (Below.refl _ w).alloc (Nat.le_refl _) (.cells #[] 25)
  have r0 := CL.empty (w := w)
  unfold CL at r0
  have hq1 : Cells (w.alloc (.cells #[] 25)) blk off L := hq.keep (hA.block blk hb)
  have hnw := Cds.news hq1
  have hfin : ∀ v w', w'.ownsRow w.heap.size 25 3 v (0 + L.length) ([] ++ ccl L) → (w.alloc (.cells #[] 25)).grownBy w' (some w.heap.size) → CL w' w.heap.size 25 v L ∧ Below w.heap.size w w' := fun v w' ho hg => by
    refine ⟨?_, ⟨hg.os.trans hA.os, hg.tape.trans hA.tape, hg.output.trans hA.output, Nat.le_trans hA.size hg.size, fun m hm => (hg.block m (by simp; omega) (fun e => by have h9 : m = w.heap.size := Option.some.inj e; omega)).trans (hA.block m hm)⟩⟩
    unfold CL
    rw [Nat.zero_add, List.nil_append] at ho
    exact ho
  have HFI : Aside _ := hfin
  have hcl := ccl_len L
  have hc1 := ccl_one L
  clear hfin hq1 hq
  generalize ccl L = cl at *
  generalize L.length = n at *
  have heq : ∀ W, (binOp BinOp.eql 23 (.slice (some ⟨blk, off, none⟩) n cap) (.slice none 0 0)).run Try.prog W = .ok (.bool false) W := fun W => Lib.run_eql_slice_nil W 23 25 (some ⟨blk, off, none⟩) n cap 0 0 Try.underlying23
  go_enter Try.func11, Try.ntmps11
  go_wp2_with (at_builtin; refine wpList_append_own_at _ rfl _ _ 23 rfl w.heap.size 25 i0 (.agg #[.int .i64 0, .int .i64 0, .int .i64 0]) 3 24 Try.underlying23 hi0 hz0 hz1 hz2 rfl (by decide) _ _ _ rfl r0 ⟨blk, off, none⟩ n cap cl rfl hcl hnw hc1 (by unfold maxLen; simp; omega) (by simp; omega) (by simp) ?_; intro v3 w3 ho3 hg3 hnil3 hv3)
  go_ret
  obtain ⟨f1, f2⟩ := HFI.out v3 w3 (by rw [show ccl [] = ([] : List Value) from rfl] at ho3; exact ho3) hg3
  exact ⟨v3, rfl, f1, f2⟩
/-- One of them has more. -/
theorem Cells.more {w : World} {blk : Nat} {L : List Cd} (h : Cells w blk 0 L) {j : Nat} (hj : j < L.length) (d : Int) : Cells (w.setCell ⟨blk, j * 3 + 1, none⟩ (.int .i64 (L[j].res + d))) blk 0 (L.set j (addR L[j] d)) := fun k hk => by
  have hk' : k < L.length := by simpa using hk
  obtain ⟨e0, e1, e2⟩ := h k hk'
  simp only [Nat.zero_add] at e0 e1 e2 ⊢
  have hne : ∀ m, m ≠ j * 3 + 1 → (w.setCell ⟨blk, j * 3 + 1, none⟩ (.int .i64 (L[j].res + d))).cell? ⟨blk, m, none⟩ = w.cell? ⟨blk, m, none⟩ := fun m hm => World.cell?_setCell_other _ _ _ _ (fun z => hm (by injection z with _ z; exact z.symm))
  by_cases e : j = k
  · subst e
    rw [List.getElem_set_self, hne (j * 3) (by omega), hne (j * 3 + 2) (by omega), World.cell?_setCell_same _ _ _ e1]
    exact ⟨e0, rfl, e2⟩
  · rw [List.getElem_set_ne e, hne (k * 3) (by omega), hne (k * 3 + 1) (by omega), hne (k * 3 + 2) (by omega)]
    exact ⟨e0, e1, e2⟩
/-- Where such a list lies. -/
theorem CL.row {w : World} {N : Nat} {v : Value} {L : List Cd} (h : CL w N 25 v L) (hl : L ≠ []) : ∃ g cap, v = .slice (some ⟨g, 0, none⟩) L.length cap ∧ L.length ≤ cap ∧ N ≤ g ∧ g < w.heap.size ∧ Cells w g 0 L ∧ ∀ m, w.frozen? ⟨g, m, none⟩ = false := by
  obtain ⟨ad, cap, hv, hc, hcd⟩ := h.cds
  rcases h.2 with ⟨z, h0⟩ | ⟨g, cap2, cur, z, hb, hg, _⟩
  · exact absurd (List.eq_nil_of_length_eq_zero h0) hl
  · rw [hv] at z
    cases z
    rcases hcd with z | ⟨b9, o9, e9, h9, hq9⟩
    · exact absurd z hl
    · cases e9
      exact ⟨g, cap, hv, hc, hb, h9, hq9, fun m => by simp [World.frozen?, hg]⟩
end Go.Proofs.Ytgbdoeopgdhgoac
