/- OomChooses: the walk of its Go text, over a contract of package oom's Victim. -/
import Derived.Test.YtgbdoeopgdhgoacORow
namespace Go.Proofs.Ytgbdoeopgdhgoac
open Go.RowKit

/-- What package oom's Victim must give. -/
def VicC : Prop := ∀ (w : World) (ad : Option Addr) (L : List Cd) (cap : Nat), L.length ≤ 100 → Cds w ad L →
  Calls Try.prog 6 #[.slice ad L.length cap] w fun e w' => e = .returned (.tuple #[.int .i64 (vic L).2, .bool (decide (0 < (vic L).1))]) ∧ Below w.heap.size w w'
set_option maxRecDepth 100000 in
set_option maxHeartbeats 1000000 in
theorem ochoose_long (ad : Option Addr) (len cap : Nat) (w : World) (h : 40 < len) :
    Calls Try.prog 3 #[.slice ad len cap] w fun e w' => e = .returned (.bool true) ∧ Below w.heap.size w w' := by
  have h1 : (40 : Int) < (len : Int) := by omega
  go_enter Try.func3, Try.ntmps3
  go_wp2_with fail
  go_ret
  exact ⟨rfl, Below.refl _ _⟩
set_option maxRecDepth 100000 in
set_option maxHeartbeats 4000000 in
theorem ochoose_short (hV : VicC) (ad : Option Addr) (L : List Cd) (cap : Nat) (w : World) (h1 : L.length ≤ 40) (h : Cds w ad L) :
    Calls Try.prog 3 #[.slice ad L.length cap] w fun e w' => e = .returned (.bool true) ∧ Below w.heap.size w w' := by
  have h1' : ¬ (40 : Int) < (L.length : Int) := by omega
  obtain ⟨i0, hi0, hz0, hz1, hz2⟩ := info_parts (P := Try.prog) (e := 25) (z := .agg #[.int .i64 0, .int .i64 0, .int .i64 0]) (size := 3) (bytes := 24) (by kernel_rfl)
  have HCD : Aside (Cds w ad L) := h
  have HVV : Aside VicC := hV
  clear h hV
  go_enter Try.func3, Try.ntmps3
  go_wp2_with fail
  go_loopg [3, 4] L.length (fun mm s3 s4 wr => ∃ i : Nat, i + mm = L.length ∧ s4 = .int .i64 (i : Int) ∧ CL wr w.heap.size 25 s3 (L.take i) ∧ Below w.heap.size w wr)
  case atStart => exact ⟨0, by omega, rfl, ⟨rfl, .inl ⟨rfl, rfl⟩⟩, Below.refl _ _⟩
  case round =>
    obtain ⟨i, hi, rfl, row, hbel⟩ := hrel
    by_cases hlt : (i : Int) < (L.length : Int)
    · have hiL : i < L.length := by omega
      have htl : (L.take i).length = i := by rw [List.length_take]; omega
      rcases HCD.out with h0 | ⟨blk, off, rfl, hbl, hq⟩
      · rw [h0] at hiL; cases hiL
      obtain ⟨d0, d1, d2⟩ := hq i hiL
      have c0 : wr.cell? ⟨blk, off + i * 3, none⟩ = some (.int .i64 L[i].pid) := by rw [hbel.cell (p := ⟨blk, off + i * 3, none⟩) hbl]; exact d0
      have c1 : wr.cell? ⟨blk, off + i * 3 + 1, none⟩ = some (.int .i64 L[i].res) := by rw [hbel.cell (p := ⟨blk, off + i * 3 + 1, none⟩) hbl]; exact d1
      have c2 : wr.cell? ⟨blk, off + i * 3 + 2, none⟩ = some (.int .i64 L[i].adj) := by rw [hbel.cell (p := ⟨blk, off + i * 3 + 2, none⟩) hbl]; exact d2
      clear d0 d1 d2 hq
      have hcc := ccl_app (L.take i) [L[i]]
      rw [← takeC hiL] at hcc
      have hlen2 : (L.take (i + 1)).length = (L.take i).length + 1 := by rw [List.length_take, List.length_take]; omega
      have hnx : ∀ v3 w3, w3.ownsRow w.heap.size 25 3 v3 ((L.take i).length + 1) (ccl (L.take i) ++ [.int .i64 L[i].pid, .int .i64 L[i].res, .int .i64 L[i].adj]) → CL w3 w.heap.size 25 v3 (L.take (i + 1)) := fun v3 w3 ho => by
        unfold CL
        rw [hlen2, hcc]; exact ho
      have HNX : Aside _ := hnx
      have hbs := hbel.size
      have hA := hbel.alloc hbel.size (.cells #[.int .i64 L[i].pid, .int .i64 L[i].res, .int .i64 L[i].adj] 25)
      have hnb : ∀ w3, (wr.alloc (.cells #[.int .i64 L[i].pid, .int .i64 L[i].res, .int .i64 L[i].adj] 25)).grownBy w3 u3.ownBlock → Below w.heap.size w w3 := fun w3 hg => by
        refine ⟨hg.os.trans hA.os, hg.tape.trans hA.tape, hg.output.trans hA.output, Nat.le_trans hA.size hg.size, fun m hm => (hg.block m (by simp; omega) (fun e => ?_)).trans (hA.block m hm)⟩
        have := (row.lt m e.symm).1
        omega
      have HNB : Aside _ := hnb
      clear hcc hlen2 hnx hnb hA
      unfold CL at row
      generalize L[i] = c at *
      obtain ⟨X, R, D⟩ := c
      simp only at c0 c1 c2 HNX HNB
      go_wp2_with (at_builtin; refine wpList_append_own_at _ rfl _ _ 23 rfl w.heap.size 25 i0 (.agg #[.int .i64 0, .int .i64 0, .int .i64 0]) 3 24 Try.underlying23 hi0 hz0 hz1 hz2 rfl (by decide) _ _ _ rfl (World.ownsRow.alloc row _) ⟨wr.heap.size, 0, none⟩ 1 1 [.int .i64 X, .int .i64 R, .int .i64 D] rfl rfl (fun jj u hu => by
        rw [Addr.add_lit, Nat.zero_add]
        rw [cell_of_row _ _ _ _ _ _ (show (wr.heap.push _)[wr.heap.size]? = some _ by rw [Array.getElem?_push, if_pos rfl])]
        simpa using hu) (by intro u hu; simp only [List.mem_cons, List.not_mem_nil, or_false] at hu; rcases hu with rfl | rfl | rfl <;> rfl) (by unfold maxLen; omega) (by omega) (by simp; omega) ?_; intro v3 w3 ho3 hg3 hnil3 hv3)
      go_roundg (gk - 1)
      case measure => omega
      case rel => exact ⟨i + 1, by omega, by go_num, HNX.out v3 w3 ho3, HNB.out w3 hg3⟩
    · have hiL : i = L.length := by omega
      have hT : L.take i = L := by rw [hiL]; exact List.take_length
      rw [hT] at row
      obtain ⟨ad2, cap2, hv2, _, hcd⟩ := row.cds
      subst hv2
      have hR := refVictim_ok wr ad L cap (by omega) (by
        rcases HCD.out with h0 | ⟨blk, off, rfl, hbl, hq⟩
        · exact .inl h0
        · refine .inr ⟨blk, off, rfl, Nat.lt_of_lt_of_le hbl hbel.size, fun j hj => ?_⟩
          obtain ⟨e0, e1, e2⟩ := hq j hj
          rw [hbel.cell (p := ⟨blk, off + j * 3, none⟩) hbl, hbel.cell (p := ⟨blk, off + j * 3 + 1, none⟩) hbl, hbel.cell (p := ⟨blk, off + j * 3 + 2, none⟩) hbl]
          exact ⟨e0, e1, e2⟩)
      have hP : ∀ V, Below wr.heap.size wr V → Calls Try.prog 6 #[.slice ad2 L.length cap2] V fun e w' => e = .returned (.tuple #[.int .i64 (vic L).2, .bool (decide (0 < (vic L).1))]) ∧ Below V.heap.size V w' := fun V hb => HVV.out V ad2 L cap2 (by omega) (by
        rcases hcd with h0 | ⟨blk, off, rfl, hbl, hq⟩
        · exact .inl h0
        · refine .inr ⟨blk, off, rfl, Nat.lt_of_lt_of_le hbl hb.size, fun j hj => ?_⟩
          obtain ⟨e0, e1, e2⟩ := hq j hj
          rw [hb.cell (p := ⟨blk, off + j * 3, none⟩) hbl, hb.cell (p := ⟨blk, off + j * 3 + 1, none⟩) hbl, hb.cell (p := ⟨blk, off + j * 3 + 2, none⟩) hbl]
          exact ⟨e0, e1, e2⟩)
      clear hcd hT hiL row
      generalize (vic L).2 = p at *
      generalize decide (0 < (vic L).1) = ok at *
      go_wp2_with (first
        | (go_at_call 5; refine hR.mono ?_; rintro e w1 ⟨rfl, b1⟩)
        | (go_at_call 6; refine (hP _ b1).mono ?_; rintro e w2 ⟨rfl, b2⟩))
      go_ret
      exact ⟨by first | rfl | simp, (hbel.trans (b1.mono hbel.size)).trans (b2.mono (Nat.le_trans hbel.size b1.size))⟩
end Go.Proofs.Ytgbdoeopgdhgoac
