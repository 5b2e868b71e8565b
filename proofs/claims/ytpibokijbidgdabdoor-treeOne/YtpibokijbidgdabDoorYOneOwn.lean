/- TreeOne is true for every list of things to do and every two texts: each node is found by a path, directories by one alone; what is refused changes nothing; and what was moved, and is moved back, is as it was; the variables of the library's on its road start as the program's text lays them. -/
import Derived.Test.YtpibokijbidgdabDoorOpenN
import Derived.ChangeMaps5
namespace Go.Proofs.YtpibokijbidgdabDoor
open Go.ChangeShapes Go.WideShapes Go.ChangeAt Go.RowKit Go.ChangeMaps

theorem one_met (os : Os) (args : Array Value) : laidMetH Tryd.prog Rows.treeOneRow.laid (({ World.holding Tryd.prog os ⟨#[], #[], []⟩ with heap := (((((World.holding Tryd.prog os ⟨#[], #[], []⟩).heap.modify 4 fun | .cells _ t frozen => .cells (litFlat Rows.laid_unicode_utf8_acceptRanges) t frozen | o => o).modify 3 fun | .cells _ t frozen => .cells (litFlat Rows.laid_unicode_utf8_first) t frozen | o => o).modify 2 fun | .cells _ t frozen => .cells (litFlat Rows.laid_internal_strconv_uint64pow10) t frozen | o => o).modify 5 fun | .cells _ t frozen => .cells (litFlat Rows.laid_math_bits_deBruijn32tab) t frozen | o => o).modify 6 fun | .cells _ t frozen => .cells (litFlat Rows.laid_math_bits_deBruijn64tab) t frozen | o => o } : World).forCall (fun _ _ => 0) ⟨#[], args, []⟩).memory :=
  (laidMet_of_run' 8 (by kernel_rfl) (by kernel_rfl) : laidMet Tryd.prog Rows.treeOneRow.laid _)

set_option maxRecDepth 100000 in
theorem one_lifted (os : Os) (started : os.Started) (H : Type) (enc : TypeId × Value → H) :
    ReturnsInHanded {} Tryd.checked os 6 .any (fun w args => (Rows.treeOneSpec.pre enc Tryd.prog Tryd.f6 [] false w args ∧ laidMetH Tryd.prog Rows.treeOneRow.laid w) ∧ sizedMet enc Tryd.prog Tryd.f6 (OpenSpec.ofChange Rows.treeOneSpec) false w args)
      (Rows.treeOneSpec.post enc Tryd.prog Tryd.f6 false true false false) := by
  refine returns_and_shaped (C := Tryd.checked) (X := fun w _ => laidMetH Tryd.prog Rows.treeOneRow.laid w) (fun _ _ _ hh h => h.of_heap hh) ownNone started (by kernel_rfl) Tryd.func6
    (ChangeSpec.witness_at (enc := enc) (C := Tryd.checked) (os := os) (X := fun w _ => laidMetH Tryd.prog Rows.treeOneRow.laid w) false ({ World.holding Tryd.prog os ⟨#[], #[], []⟩ with heap := (((((World.holding Tryd.prog os ⟨#[], #[], []⟩).heap.modify 4 fun | .cells _ t frozen => .cells (litFlat Rows.laid_unicode_utf8_acceptRanges) t frozen | o => o).modify 3 fun | .cells _ t frozen => .cells (litFlat Rows.laid_unicode_utf8_first) t frozen | o => o).modify 2 fun | .cells _ t frozen => .cells (litFlat Rows.laid_internal_strconv_uint64pow10) t frozen | o => o).modify 5 fun | .cells _ t frozen => .cells (litFlat Rows.laid_math_bits_deBruijn32tab) t frozen | o => o).modify 6 fun | .cells _ t frozen => .cells (litFlat Rows.laid_math_bits_deBruijn64tab) t frozen | o => o } : World) #[.slice none 0 0, .string ⟨#[]⟩, .string ⟨#[]⟩] 8 rfl (by kernel_rfl) (by kernel_rfl) (by kernel_rfl) (by kernel_rfl) (by kernel_rfl) (one_met os _)) ?_
  intro W base args ds gs before hval0 hW hL hsh
  have hval : ∀ (j : Nat) t v, Tryd.f6.params[j]? = some t → args[j]? = some v → Value.okWide Tryd.prog W .any base t v := hval0
  have hW' := hW
  obtain ⟨p, q, hA0, hV0, rfl, hfz, hnd⟩ := hW
  have hA : DataW.TrodAll enc Tryd.prog W 0 (fun _ => true) true Tryd.f6.params.toList args.toList ds p := hA0
  have hV : DataW.TrodVars enc Tryd.prog W (fun _ => true) [] gs q := hV0
  rw [Tryd.params6] at hA hval
  obtain ⟨v0, vs0, d0, ds0, p0, q0, hargs, rfl, rfl, h0, r0⟩ := trodAll_cons hA
  obtain ⟨v1, vs1, d1, ds1, p1, q1, rfl, rfl, rfl, h1, r1⟩ := trodAll_cons r0
  obtain ⟨v2, vs2, d2, ds2, p2, q2, rfl, rfl, rfl, h2, r2⟩ := trodAll_cons r1
  obtain ⟨rfl, rfl, rfl⟩ := trodAll_nil r2
  obtain rfl : args = #[v0, v1, v2] := by cases args; simp_all
  obtain ⟨a1, len, cap, rfl⟩ := okWide_slice Tryd.underlying71 (hval 0 71 v0 rfl rfl)
  obtain ⟨s1, rfl, rfl, rfl, hw1⟩ := open_string Tryd.underlying9 (hval 1 9 v1 rfl rfl) h1
  obtain ⟨s2, rfl, rfl, rfl, hw2⟩ := open_string Tryd.underlying9 (hval 2 9 v2 rfl rfl) h2
  have k1 := h0
  have lt1 : ∀ x ∈ p0, x.block < W.heap.size := by obtain ⟨m, hm⟩ := k1; exact DataW.trod_lt m _ _ _ hm
  obtain ⟨fuel1, hf1⟩ := h0
  obtain ⟨qu, hqu⟩ := open_names (by simpa [Value.cells] using hf1)
  obtain ⟨m, hm⟩ := maxLen_of hsh
  obtain ⟨rfl, rfl⟩ : gs = [] ∧ q = [] := by
    cases gs with
    | nil => exact ⟨rfl, hV⟩
    | cons g r => exact absurd hV (by intro h; cases h)
  have key : Calls Tryd.prog 6 #[.slice a1 len cap, .string s1, .string s2] W fun e w' => e = .returned (.bool true) ∧ Below W.heap.size W w' := by
    rw [show s1 = ⟨s1.data.toList.toArray⟩ by simp, show s2 = ⟨s2.data.toList.toArray⟩ by simp]
    by_cases hl : 30 < len ∨ 60 < s1.data.toList.length ∨ 60 < s2.data.toList.length
    · exact one_long a1 len cap _ _ W hl
    · exact one_short a1 len cap _ _ W (by omega) (by omega) (by omega) qu hqu m hm
  refine key.mono fun e W' ⟨he, bel⟩ => ?_
  subst he
  exact ⟨_, rfl, _, _, _, [], _, [], hW', trodAll_mk1 (shut_bool Tryd.underlying4 _), trodAll_cons_mk (Below.trod laidOut (by kernel_rfl) (of_decide_eq_true (by kernel_rfl)) k1 bel lt1) (trodAll_cons_mk (shut_string Tryd.underlying9 hw1) (trodAll_cons_mk (shut_string Tryd.underlying9 hw2) trodAll_mk0)), rfl, bel.frame _, fun h => by cases h⟩

theorem one_over : Rows.TreeOneSaid :=
  OpenClaim.holds_of_wide 6 Tryd.f6 rfl rfl rfl rfl rfl rfl rfl ⟨rfl, rfl, rfl, rfl, rfl⟩ rfl rfl rfl rfl rfl (by kernel_rfl) Tryd.func6 (by kernel_rfl)
    (of_decide_eq_true (by kernel_rfl)) (by unfold Func.isWrapper; rw [if_neg (of_decide_eq_false (by kernel_rfl))]; exact ⟨rfl, rfl⟩)
    (fun os started H enc _ => one_lifted os started H enc)

theorem treeOne_holds : Rows.TreeOneCardSaid :=
  Claim7.holds_tied_plain_at .later [] [.data, .data, .data, .data, .pinned] true Rows.treeOneCard.stood.harness true
    one_over (fun _ h => by cases h) (by kernel_rfl) (fun _ h => by cases h) treeOne_row_tie rfl ⟨rfl, rfl⟩ (by kernel_rfl) rfl
    (fun f fn hf hfn => by
      obtain rfl : f = 6 := Option.some.inj ((show Tryd.prog.funcNamed Rows.treeOneRow.func = some 6 by kernel_rfl).symm.trans hf) |>.symm
      obtain rfl : fn = Tryd.f6 := (Option.some.inj (Tryd.func6.symm.trans hfn)).symm
      exact ⟨by kernel_rfl, fun j t ht => by
        rw [Tryd.params6] at ht
        have h3 : t = 71 ∨ t = 9 := by
          rcases j with _ | _ | _ | j
          · left; simpa using ht.symm
          · right; simpa using ht.symm
          · right; simpa using ht.symm
          · simp at ht
        rcases h3 with rfl | rfl
        · exact (show Tryd.prog.wantsStandIn 71 = false by kernel_rfl)
        · exact (show Tryd.prog.wantsStandIn 9 = false by kernel_rfl)⟩)
    (by kernel_rfl)
#print axioms treeOne_holds
end Go.Proofs.YtpibokijbidgdabDoor
