/- Package tree: where names lead, and Find, by their Go text. -/
import Derived.Test.YtpibokijbidgdabDoorUTree
namespace Go.Proofs.YtpibokijbidgdabDoor
open Go.RowKit Go.Maps

theorem cut_ok (z : List UInt8) (hz : z.length < 100000) (w : World) (m : Int) (hm : w.cell? ⟨1, 0, none⟩ = some (.int .i64 m)) :
    Calls Tryd.prog 120 #[tx z, .string ⟨#[47]⟩] w fun e w' => e = .returned (.tuple #[tx (Lib.cut z [47]).1, tx (Lib.cut z [47]).2.1, .bool (Lib.cut z [47]).2.2]) ∧ ∃ n, w' = w.drewN n := by
  have hs : (⟨z.toArray⟩ : ByteArray).size = z.length := by simp [ByteArray.size]
  exact Any.strings_Cut Tryd.cutL ⟨z.toArray⟩ ⟨#[47]⟩ m w (by rw [hs]; omega) hm

theorem drew_drew (w : World) (k j : Nat) : (w.drewN k).drewN j = w.drewN (k + j) := by simp [World.drewN, Nat.add_assoc]

theorem cut_less {q : List UInt8} (h : q ≠ []) : (Lib.cut q [47]).2.1.length < q.length := by
  have hp : 0 < q.length := List.length_pos_iff.2 h
  unfold Lib.cut
  split
  · simp only [List.length_drop, List.length_cons, List.length_nil]; omega
  · exact hp

section
variable {w w' : World} {r gN s : Nat} {T : Wd} {Z : Int → Nat} {B G : Int → Nat} {V : Int → Value} {O : Nat → Prop}

set_option maxRecDepth 100000 in
set_option maxHeartbeats 4000000 in
theorem PTr.lead_ok (h : PTr w r gN s T Z B G V O) (hT : TrOk T) (hs : 1 ≤ s) (q : List UInt8) (l : List Nm) (hq : Jn q l) (hn : ∀ x ∈ l, isName x = true) (hql : q.length < 100000) (m : Int) (hm : w.cell? ⟨1, 0, none⟩ = some (.int .i64 m)) :
    Calls Tryd.prog 85 #[wp r, tx q] w fun e w' => e = .returned (.tuple #[.int .i64 (leadT T 0 l).1, uev (leadT T 0 l).2]) ∧ ∃ n, w' = w.drewN n := by
  have hN := h.nodes_ok
  have hs0 : ((s : Int) == 0) = false := by simp; omega
  obtain ⟨R, hR⟩ : ∃ R, leadT T 0 l = R := ⟨_, rfl⟩
  rw [hR]
  go_enter Tryd.func85, Tryd.ntmps85
  go_wp2_with (go_at_call 38; refine hN.mono ?_; rintro e w' ⟨rfl, hw'⟩; subst w')
  clear hN hs0
  go_loopg [1, 6] q.length (fun mm s1 s6 wr => ∃ (q' : List UInt8) (l' : List Nm) (n : Int) (k : Nat), mm = q'.length ∧ q'.length ≤ q.length ∧ s1 = tx q' ∧ s6 = .int .i64 n ∧ Jn q' l' ∧ (∀ x ∈ l', isName x = true) ∧ (T n).isSome = true ∧ leadT T n l' = R ∧ wr = w.drewN k)
  case atStart => exact ⟨q, l, 0, 0, rfl, Nat.le_refl _, rfl, rfl, hq, hn, by obtain ⟨C, e⟩ := hT.root; rw [e]; rfl, hR, rfl⟩
  case round =>
    obtain ⟨q', l', n, k, hmm, hle, rfl, rfl, hj, hnn, hsm, hl, hw⟩ := hrel
    have h1 := h.drew k
    have hm1 : (w.drewN k).cell? ⟨1, 0, none⟩ = some (.int .i64 m) := hm
    rw [← hw] at h1 hm1
    have HW : Hidd (wr = w.drewN k) := ⟨hw⟩
    clear hw
    have c0 := h1.c0
    have hkey := hT.key n hsm
    have hwf : (Lit.int .i64 n).wf = true := wf_few hkey.1 (by omega)
    have hlk := h1.look n hwf
    rw [if_pos hsm] at hlk
    cases l' with
    | nil =>
      obtain rfl := hj.nil
      rw [leadT_nil] at hl
      subst hl
      go_wp2_with fail
      go_ret2
      exact ⟨rfl, k, HW.out⟩
    | cons x t =>
      have hqe : (q' == []) = false := by simp [hj.ne]
      have hx := hnn x List.mem_cons_self
      obtain ⟨hc1, hc2⟩ := hj.cut (fun y hy => isName_ne (hnn y (List.mem_cons_of_mem _ hy)))
      have hless := cut_less hj.ne
      have hcut := cut_ok q' (by omega) wr m hm1
      rw [hc1] at hcut
      generalize (Lib.cut q' [47]).2.1 = q2 at *
      generalize (Lib.cut q' [47]).2.2 = fnd at *
      have hxm : x.length ≤ maxLen := by have := isName_len hx; unfold maxLen; omega
      clear hc1
      by_cases hd : ∃ C, T n = some (.dir C)
      · obtain ⟨C, hC⟩ := hd
        obtain ⟨n0, _⟩ := h1.dcell hC
        have hID := isDir_yes n0
        have hSm : ∀ j, SMap (wr.drewN j) (G n) C.length (fun nm => (C.lookup nm).map (.int .i64 ·)) := fun j => (h1.dirs n C hC).keep rfl
        cases hlx : C.lookup x with
        | none =>
          rw [leadT_miss _ hC hlx] at hl
          subst hl
          clear hnn hj hc2 hq hn
          go_wp2_with (first
            | (go_at_call 74; refine hID.mono ?_; rintro e w' ⟨rfl, hw'⟩; subst w')
            | (go_at_call 120; refine hcut.mono ?_; rintro e w' ⟨rfl, j, hw'⟩; subst w'; have hSj := hSm j)
            | (at_lookup; refine wpList_sask rfl _ _ 81 rfl 3 Tryd.underlying81 _ (zero_num _) (G n) _ _ rfl hSj x rfl hxm ?_; simp only [hlx, Option.map_none, Option.getD_none, Option.isSome_none]))
          go_ret2
          exact ⟨rfl, k + j, by rw [HW.out]; exact drew_drew w k j⟩
        | some n' =>
          rw [leadT_step _ hC hlx] at hl
          have hn' := hT.child n C x n' hC hlx
          have hnt : ∀ y ∈ t, isName y = true := fun y hy => hnn y (List.mem_cons_of_mem _ hy)
          clear hnn hj hq hn
          go_wp2_with (first
            | (go_at_call 74; refine hID.mono ?_; rintro e w' ⟨rfl, hw'⟩; subst w')
            | (go_at_call 120; refine hcut.mono ?_; rintro e w' ⟨rfl, j, hw'⟩; subst w'; have hSj := hSm j)
            | (at_lookup; refine wpList_sask rfl _ _ 81 rfl 3 Tryd.underlying81 _ (zero_num _) (G n) _ _ rfl hSj x rfl hxm ?_; simp only [hlx, Option.map_some, Option.getD_some, Option.isSome_some]))
          go_roundg (q2.length)
          case measure => omega
          case rel => exact ⟨q2, t, n', k + j, rfl, by omega, rfl, rfl, hc2, hnt, hn', hl, by rw [HW.out]; exact drew_drew w k j⟩
      · rw [leadT_file _ (fun C e => hd ⟨C, e⟩)] at hl
        subst hl
        obtain ⟨fb, fh, hF⟩ : ∃ fb fh, T n = some (.file fb fh) := by
          cases e : T n with
          | none => rw [e] at hsm; cases hsm
          | some nd => cases nd with
            | dir C => exact absurd ⟨C, e⟩ hd
            | file fb fh => exact ⟨fb, fh, rfl⟩
        obtain ⟨n0, _⟩ := h1.fcell hF
        have hID := isDir_no n0
        go_wp2_with (go_at_call 74; refine hID.mono ?_; rintro e w' ⟨rfl, hw'⟩; subst w')
        go_ret2
        exact ⟨rfl, k, HW.out⟩
end
end Go.Proofs.YtpibokijbidgdabDoor
