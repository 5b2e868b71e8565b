/- The document's own tree: Find, and a PATH's PLACE, by their Go text. -/
import Derived.Test.YtjkneekfijibiabGreatDoorWRead
import Derived.BigQuiet
import Derived.Deep.QuietTactic
namespace Go.Proofs.YtjkneekfijibiabGreatDoor
open Go.RowKit Go.Maps

section
variable {w w' : World} {r gN s : Nat} {T : Wd} {G : Int → Nat}

set_option maxRecDepth 100000 in
set_option maxHeartbeats 2000000 in
theorem RTr.find_ok (h : RTr w r gN s T G) (hT : TrOk T) (p : List UInt8) (hp : p.length < 100000) (m : Int) (hm : w.cell? ⟨2, 0, none⟩ = some (.int .i64 m)) :
    Calls Tryz.prog 49 #[wp r, tx p] w fun e w' => e = .returned (.tuple #[.int .i64 (findT T p).1, .int .i64 (findT T p).2]) ∧ Below w.heap.size w w' := by
  have hN := names_ok p hp w m hm
  cases hn : namesOf p with
  | none =>
    have e : findT T p = (0, 1) := by unfold findT; rw [hn]
    rw [e]
    go_enter Tryz.func49, Tryz.ntmps49
    go_wp2_with fail
    refine hN.mono ?_
    rintro e w1 ⟨he, b1⟩
    unfold NmR at he
    rw [hn] at he
    subst he
    clear hN hn
    go_wp2_with fail
    go_ret2
    exact ⟨rfl, b1⟩
  | some l =>
    have e : findT T p = leadT T 0 l := by unfold findT; rw [hn]
    have hnm := namesOf_names hn
    have hln := namesOf_len hn
    rw [e]
    clear e
    go_enter Tryz.func49, Tryz.ntmps49
    go_wp2_with fail
    refine hN.mono ?_
    rintro e w1 ⟨he, b1⟩
    unfold NmR at he
    rw [hn] at he
    obtain ⟨v, rfl, hv⟩ := he
    have hL := (h.below b1).lead_ok hT v l hv (by omega) (fun x hx => by have := isName_len (hnm x hx); unfold maxLen; omega)
    clear hN hn h
    go_wp2_with fail
    refine hL.mono ?_
    rintro e w2 ⟨rfl, h2⟩
    subst w2
    go_wp2_with fail
    go_ret2
    exact ⟨rfl, b1⟩

theorem Txts.slice {v : Value} {l : List Nm} (h : Txts w v l) (hne : l ≠ []) : ∃ b o c, v = .slice (some ⟨b, o, none⟩) l.length c ∧ l.length ≤ c ∧ b < w.heap.size ∧ ∀ i (hi : i < l.length), w.cell? ⟨b, o + i, none⟩ = some (tx l[i]) := by
  rcases h with ⟨h, _⟩ | h
  · exact absurd h hne
  · exact h

set_option maxRecDepth 100000 in
set_option maxHeartbeats 4000000 in
theorem RTr.place_ok (h : RTr w r gN s T G) (hT : TrOk T) (p : List UInt8) (hp : p.length < 100000) (m : Int) (hm : w.cell? ⟨2, 0, none⟩ = some (.int .i64 m)) :
    Calls Tryz.prog 96 #[wp r, tx p] w fun e w' => e = .returned (.tuple #[if (placeT T p).2.2 = 0 then .map (some (G (placeT T p).1)) else .map none, tx (placeT T p).2.1, .int .i64 (placeT T p).2.2]) ∧ Below w.heap.size w w' := by
  have hN := names_ok p hp w m hm
  obtain ⟨R, hR⟩ : ∃ R, placeT T p = R := ⟨_, rfl⟩
  rw [hR]
  cases hn : namesOf p with
  | none =>
    have e : R = (0, [], 1) := by rw [← hR]; unfold placeT; rw [hn]
    subst e
    clear hR
    go_enter Tryz.func96, Tryz.ntmps96
    go_wp2_with fail
    refine hN.mono ?_
    rintro e w1 ⟨he, b1⟩
    unfold NmR at he
    rw [hn] at he
    subst he
    clear hN hn
    go_wp2_with fail
    go_ret3
    exact ⟨rfl, b1⟩
  | some l =>
    have hnm := namesOf_names hn
    have hln := namesOf_len hn
    by_cases hl0 : l = []
    · have e : R = (0, [], 1) := by rw [← hR]; unfold placeT; rw [hn]; simp [hl0]
      subst e
      clear hR
      go_enter Tryz.func96, Tryz.ntmps96
      go_wp2_with fail
      refine hN.mono ?_
      rintro e w1 ⟨he, b1⟩
      unfold NmR at he
      rw [hn] at he
      obtain ⟨v, rfl, hv⟩ := he
      have hv0 : ∃ a c, v = .slice a 0 c := by
        rcases hv with ⟨_, a, c, e⟩ | ⟨b, o, c, e, _⟩
        · exact ⟨a, c, e⟩
        · rw [hl0] at e; exact ⟨_, c, e⟩
      obtain ⟨a, c, rfl⟩ := hv0
      clear hN hn
      go_wp2_with fail
      go_ret3
      exact ⟨rfl, b1⟩
    · obtain ⟨N, hNl⟩ : ∃ N, l.length = N := ⟨_, rfl⟩
      have hNp : 1 ≤ N := by rw [← hNl]; cases l with
        | nil => exact absurd rfl hl0
        | cons _ _ => simp
      have hdl : l.dropLast.length = N - 1 := by rw [List.length_dropLast, hNl]
      obtain ⟨B, hB⟩ : ∃ B, leadT T 0 l.dropLast = B := ⟨_, rfl⟩
      have hBs := hT.lead l.dropLast 0 (by obtain ⟨C, e⟩ := hT.root; rw [e]; rfl)
      rw [hB] at hBs
      have hR' : R = if B.2 ≠ 0 then (0, [], B.2) else match T B.1 with
          | some (.dir _) => (B.1, l.getLastD [], 0)
          | _ => (0, [], 6) := by
        rw [← hR]; unfold placeT; rw [hn]; simp only [hl0, if_false, hB]; rfl
      obtain ⟨z, hz⟩ : ∃ z, l.getLastD [] = z := ⟨_, rfl⟩
      have hzl : ∀ (hi : N - 1 < l.length), l[N - 1] = z := fun hi => by
        rw [← hz, List.getLastD_eq_getLast?, List.getLast?_eq_getElem?, hNl, List.getElem?_eq_getElem hi]; rfl
      rw [hz] at hR'
      go_enter Tryz.func96, Tryz.ntmps96
      go_wp2_with fail
      refine hN.mono ?_
      rintro e w1 ⟨he, b1⟩
      unfold NmR at he
      rw [hn] at he
      obtain ⟨v, rfl, hv⟩ := he
      obtain ⟨b, o, c, rfl, hc, hbl, hcell⟩ := hv.slice hl0
      have hlast : w1.cell? ⟨b, o + (N - 1), none⟩ = some (tx z) := by rw [hcell (N - 1) (by omega), hzl (by omega)]
      have h1 := h.below b1
      have hL : ∀ cc, N - 1 ≤ cc → Calls Tryz.prog 112 #[wp r, .slice (some ⟨b, o, none⟩) (N - 1) cc] w1 fun e w' => e = .returned (.tuple #[.int .i64 B.1, .int .i64 B.2]) ∧ w' = w1 := fun cc hcc => by
        have := h1.lead_ok hT (.slice (some ⟨b, o, none⟩) (N - 1) cc) l.dropLast (.inr ⟨b, o, cc, by rw [hdl], by rw [hdl]; exact hcc, hbl, fun i hi => by
          rw [hcell i (by rw [hdl] at hi; omega), List.getElem_dropLast]⟩) (by rw [hdl]; omega) (fun x hx => by
          have := isName_len (hnm x (List.dropLast_subset l hx)); unfold maxLen; omega)
        rw [hB] at this
        exact this
      rw [hNl] at hc ⊢
      have hN1 : (N : Int) - 1 = ((N - 1 : Nat) : Int) := by omega
      have hN0 : ¬ (N : Int) = 0 := by omega
      have hNc : ((N - 1 : Nat) : Int) ≤ (c : Int) := by omega
      clear hN hn hv hcell hnm hB hR hz hzl hdl
      go_wp2_with fail
      refine (hL c (by omega)).mono ?_
      rintro e w2 ⟨rfl, h2⟩
      subst w2
      clear hL
      by_cases hB0 : B.2 = 0
      · rw [if_neg (fun e => e hB0)] at hR'
        have hs := hBs hB0
        have hkey := hT.key B.1 hs
        have hwf : (Lit.int .i64 B.1).wf = true := wf_few hkey.1 (by omega)
        have c0 := h1.c0
        have hmq : ∀ q, PMap (w1.drewN q) gN s (fun k => (T k).map (ndv G k)) := fun q => h1.map.keep rfl
        obtain ⟨B1, B2⟩ := B
        simp only at hB0 hR' hs hwf hkey
        subst hB0
        by_cases hd : ∃ C, T B1 = some (.dir C)
        · obtain ⟨C, hC⟩ := hd
          have hg := node_dir (G := G) hC
          have hlk : (Instr.lookup 33 (.map (some gN)) (.int .i64 B1) false).run Tryz.prog w1 = .ok (.agg #[.map (some (G B1)), .bool true, tx [], .int .i64 0]) w1 := by
            rw [h1.map.look Tryz.underlying33 (zero_node _) B1 hwf, hg]
          have hlq : ∀ q, (Instr.lookup 33 (.map (some gN)) (.int .i64 B1) false).run Tryz.prog (w1.drewN q) = .ok (.agg #[.map (some (G B1)), .bool true, tx [], .int .i64 0]) (w1.drewN q) := fun q => by
            rw [(hmq q).look Tryz.underlying33 (zero_node _) B1 hwf, hg]
          have f0 := node_f0 (some (G B1)) true [] 0
          have f1 := node_f1 (some (G B1)) true [] 0
          have e9 : R = (B1, z, 0) := by rw [hR', hC]
          subst e9
          have hb9 : ∀ q, Below w.heap.size w (w1.drewN q) := fun q => ⟨b1.os, b1.tape, b1.output, b1.size, b1.block⟩
          clear hR' hmq h1 h hT hg hBs hs
          go_wp2_with fail
          go_quiet (fail)
          go_wp2_with fail
          go_ret3
          exact ⟨rfl, hb9 _⟩
        · obtain ⟨fb, fh, hF⟩ : ∃ fb fh, T B1 = some (.file fb fh) := by
            cases e : T B1 with
            | none => rw [e] at hs; cases hs
            | some nd => cases nd with
              | dir C => exact absurd ⟨C, e⟩ hd
              | file fb fh => exact ⟨fb, fh, rfl⟩
          have hg := node_file (G := G) hF
          have hlk : (Instr.lookup 33 (.map (some gN)) (.int .i64 B1) false).run Tryz.prog w1 = .ok (.agg #[.map none, .bool false, tx fb, .int .i64 (fh : Int)]) w1 := by
            rw [h1.map.look Tryz.underlying33 (zero_node _) B1 hwf, hg]
          have f1 := node_f1 none false fb (fh : Int)
          have e9 : R = (0, [], 6) := by rw [hR', hF]
          subst e9
          clear hR' hmq h1 h hT hg hBs hs hd
          go_wp2_with fail
          go_ret3
          exact ⟨rfl, b1⟩
      · rw [if_pos hB0] at hR'
        have hq : (B.2 == 0) = false := by simp [hB0]
        obtain ⟨B1, B2⟩ := B
        simp only at hB0 hR' hq
        subst hR'
        have hres : (if B2 = 0 then Value.map (some (G 0)) else Value.map none) = Value.map none := if_neg hB0
        clear h1 h hT hBs
        simp only
        go_wp2_with fail
        go_ret3
        exact ⟨rfl, b1⟩
end
end Go.Proofs.YtjkneekfijibiabGreatDoor
