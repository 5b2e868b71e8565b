/- Package tree: Cut, by its Go text. -/
import Derived.Test.YtpibokijbidgdabGreatDoorUWrite
namespace Go.Proofs.YtpibokijbidgdabGreatDoor
open Go.RowKit Go.Maps

theorem row_dat {w : World} {B : Nat} {v : Value} {l : List UInt8} (h : w.ownsRow B 5 1 v l.length (u8s l)) : Dat w v l := by
  obtain ⟨_, hh⟩ := h
  rcases hh with ⟨rfl, e⟩ | ⟨g, cap, cur, rfl, hB, hg, hc, _, hz, ht⟩
  · exact .inl ⟨List.length_eq_zero_iff.1 e, rfl⟩
  · rw [Nat.mul_one] at hz ht
    refine .inr ⟨g, cap, rfl, hc, (Array.getElem?_eq_some_iff.1 hg).1, fun j hj => ?_⟩
    rw [cell_of_row _ _ j _ _ _ hg]
    have e1 : (u8s l)[j]? = some (.int .u8 (l[j].toNat : Int)) := by unfold u8s; rw [List.getElem?_map, List.getElem?_eq_getElem hj]; rfl
    rw [← ht, List.getElem?_take_of_lt (by omega), Array.getElem?_toList] at e1
    exact e1
theorem row_blk {w : World} {B : Nat} {v : Value} {n : Nat} {xs : List Value} {t : TypeId} (h : w.ownsRow B t 1 v n xs) {i : Nat} (hi : blkOf v = some i) : B ≤ i := by
  obtain ⟨_, hh⟩ := h
  rcases hh with ⟨rfl, e⟩ | ⟨g, cap, cur, rfl, hB, _⟩
  · cases hi
  · cases hi; exact hB

theorem cloneB_ok {w : World} {v : Value} {l : List UInt8} (h : Rdb w v l) (hne : v ≠ .slice none 0 0) (hl : l.length ≤ 1000) : Calls Tryz.prog 52 #[v] w fun e w' => ∃ v', e = .returned v' ∧ w'.ownsRow w.heap.size 5 1 v' l.length (u8s l) ∧ Below w.heap.size w w' := by
  obtain ⟨a, c, rfl, hc, hx⟩ := h
  rcases hx with ⟨rfl, rfl, rfl⟩ | ⟨g, o, rfl, hi⟩
  · exact absurd rfl hne
  · refine (Any.bytes_Clone_at Tryz.cloneBL ⟨g, o, none⟩ l.length c (l.map (fun x => (x.toNat : Int))) w (by simp) (by omega) (fun i hil => ?_)).mono ?_
    · rw [Addr.add_lit, hi i hil]
      simp [List.getD, hil]
    · rintro e w' ⟨v', rfl, hr, _, hb⟩
      refine ⟨v', rfl, ?_, hb⟩
      have : (l.map (fun x => (x.toNat : Int))).map (Value.int .u8) = u8s l := by unfold u8s; rw [List.map_map]; rfl
      rw [this] at hr
      exact hr

section
variable {w w' : World} {r gN s : Nat} {T : Wd} {Z : Int → Nat} {B G : Int → Nat} {V : Int → Value} {O : Nat → Prop}

set_option maxRecDepth 100000 in
set_option maxHeartbeats 4000000 in
theorem PT.cut_ok (h : PT w r T O) (hT : TrLv T) (n size : Int) (hw : (Lit.int .i64 n).wf = true) :
    Calls Tryz.prog 21 #[wp r, .int .i64 n, .int .i64 size] w fun e w' => e = .returned (uev (cutE T n size)) ∧ ∃ O', PT w' r (cutN T n size) O' ∧ Stp w w' O O' := by
  have hno : cutE T n size ≠ 0 → ∃ O', PT w r (cutN T n size) O' ∧ Stp w w O O' := fun hh => ⟨O, by rw [cutN_no hh]; exact h, .refl _ _⟩
  have hPT := h
  obtain ⟨gN, s, B, G, V, h⟩ := h
  by_cases hz : fileT T n = 0
  · obtain ⟨b, y, hn⟩ := fileT_zero hz
    have hF := h.file_ok n hw hn
    obtain ⟨_, n1, _⟩ := h.fcell hn
    have hdat := h.data n b y hn
    obtain ⟨u0, c0, hv⟩ := hdat.len
    by_cases hs : size < 0
    · have hE : cutE T n size = 2 := by unfold cutE; rw [if_neg (fun e => e hz), if_pos hs]
      have hf := hno (by rw [hE]; decide)
      rw [hE]
      clear hn hz hE hT hdat
      go_enter Tryz.func21, Tryz.ntmps21
      go_wp2_with (go_at_call 42; refine hF.mono ?_; rintro e w' ⟨rfl, hw'⟩; subst w')
      go_ret
      exact ⟨rfl, hf⟩
    · have hE : cutE T n size = 0 := by unfold cutE; rw [if_neg (fun e => e hz), if_neg hs]
      have hU : cutN T n size = setT T n (.file (b.take size.toNat) y) := by unfold cutN; rw [hn]; simp only; rw [if_neg hs]
      rw [hE, uev_zero]
      obtain ⟨S, rfl⟩ : ∃ S : Nat, size = S := ⟨size.toNat, by omega⟩
      rw [Int.toNat_natCast] at hU
      by_cases hl : (S : Int) < (b.length : Int)
      · have hsm := hT.small n b y hn
        obtain ⟨v1, r1, d1⟩ := hdat.rdb.upto S (by omega)
        have hlt : (b.take S).length = S := by simp; omega
        have hv1 : v1 ≠ .slice none 0 0 := by
          rcases hdat with ⟨e, _⟩ | ⟨g, c, e, hc, _⟩
          · rw [e] at hl; simp at hl; omega
          · have := r1 w
            rw [e, run_slice_h (P := Tryz.prog) w 29 _ b.length c under_u8 .i64 (S : Int) (by omega) (by omega), elem_u8, size_u8] at this
            simp [Result.andThen, sliced] at this
            rw [← this]
            intro e9
            injection e9 with e9
            split at e9 <;> cases e9
        have hCl := cloneB_ok d1 hv1 (by omega)
        have hown := h.ownB n (by rw [hn]; rfl)
        have hfin : ∀ (w2 : World) (v2 : Value), w2.ownsRow w.heap.size 5 1 v2 (b.take S).length (u8s (b.take S)) → Below w.heap.size w w2 → (∃ O', PT (w2.setCell ⟨B n, 1, none⟩ v2) r (cutN T n (S : Int)) O' ∧ Stp w (w2.setCell ⟨B n, 1, none⟩ v2) O O') ∧ w2.cell? ⟨B n, 1, none⟩ = some (V n) ∧ w2.frozen? ⟨B n, 1, none⟩ = false := fun w2 v2 hr b2 => by
          have h2 := h.below b2
          obtain ⟨V', O', h4, hO'⟩ := h2.bytes hn (row_dat hr)
          rw [hU]
          refine ⟨⟨O', ⟨gN, s, B, G, V', h4.as rfl (fun k _ => cnt_setF hn k)⟩, ((Stp.below b2).trans (.cell _ hown)).wt, fun i hi => ?_⟩, (h2.fcell hn).2.1, h2.nfrozen hn 1⟩
          rcases (hO' i).1 hi with e | e
          · exact .inl e
          · exact .inr (row_blk hr e)
        rw [hv] at n1 r1 hfin
        rw [hlt] at hCl hfin
        have hone : ∀ (w2 : World) (v2 : Value) (k : Nat), w2.ownsRow w.heap.size 5 1 v2 k (u8s (b.take S)) → ∃ a c, v2 = .slice a k c := fun w2 v2 k hr => by
          obtain ⟨_, hh⟩ := hr
          rcases hh with ⟨rfl, e⟩ | ⟨g, cap, cur, rfl, _⟩
          · rw [e]; exact ⟨none, 0, rfl⟩
          · exact ⟨_, cap, rfl⟩
        clear hn hz hE hT hdat hU h hv hno
        go_enter Tryz.func21, Tryz.ntmps21
        go_wp2_with (first
          | (go_at_call 42; refine hF.mono ?_; rintro e w' ⟨rfl, hw'⟩; subst w')
          | (go_at_call 52; refine hCl.mono ?_; rintro e w2 ⟨v2, rfl, hr2, b2⟩; obtain ⟨hf2, k1, k2⟩ := hfin w2 v2 hr2 b2; obtain ⟨a2, c2, rfl⟩ := hone w2 v2 _ hr2))
        go_ret
        exact ⟨rfl, hf2⟩
      · have hT0 : cutN T n (S : Int) = T := by rw [hU, List.take_of_length_le (by omega)]; exact setT_self hn
        rw [hT0]
        rw [hv] at n1
        clear hn hz hE hT hdat hU hT0 hno
        go_enter Tryz.func21, Tryz.ntmps21
        go_wp2_with (go_at_call 42; refine hF.mono ?_; rintro e w' ⟨rfl, hw'⟩; subst w')
        go_ret
        exact ⟨rfl, O, hPT, .refl _ _⟩
  · have hF := h.file_bad n hw hz
    have hE : cutE T n size = fileT T n := by unfold cutE; rw [if_pos hz]
    have hf := hno (by rw [hE]; exact hz)
    rw [hE, uev_ne hz]
    generalize fileT T n = z at *
    go_enter Tryz.func21, Tryz.ntmps21
    go_wp2_with (go_at_call 42; refine hF.mono ?_; rintro e w' ⟨rfl, hw'⟩; subst w')
    go_ret
    exact ⟨rfl, hf⟩
end
end Go.Proofs.YtpibokijbidgdabGreatDoor
