/- TreeLinks: the walk of its Go text. -/
import Derived.Test.YtpibokijbidgdabGreatDoorKRow3
import Derived.Test.YtpibokijbidgdabGreatDoorPick
import Derived.Test.YtpibokijbidgdabGreatDoorTell
import Derived.Test.YtpibokijbidgdabGreatDoorShelfI
import Derived.Deep.DeepCutAuto
import Derived.Deep.CutBlock
namespace Go.Proofs.YtpibokijbidgdabGreatDoor
open Go.RowKit Go.Maps Go.Shelf

theorem itoa_dg (i : Nat) (hi : i < 100) (w : World) : Calls Tryz.prog 15 #[.int .i64 (i : Int)] w fun e w' => e = .returned (tx (dg i)) ∧ w' = w := by
  refine (Any.strconv_Itoa_small Tryz.itoaL i hi w).mono ?_
  rintro e w' ⟨rfl, rfl⟩
  exact ⟨by rw [dg_dec i hi], rfl⟩
/-- The names that there are behind i rounds. -/
def js (i : Nat) : List Nat := if i = 0 then [0] else (List.range i).reverse
theorem js_lt {i : Nat} (hi : i ≤ 20) : ∀ x ∈ js i, x < 20 := fun x hx => by
  unfold js at hx
  split at hx
  · simp at hx; omega
  · simp at hx; omega
theorem js_in {i a : Nat} (h0 : i ≠ 0) (ha : a < i) : a ∈ js i := by unfold js; rw [if_neg h0]; simpa using ha
theorem js_out {i : Nat} (h0 : i ≠ 0) : i ∉ js i := by unfold js; rw [if_neg h0]; simp
theorem js_next {i : Nat} (h0 : i ≠ 0) : js (i + 1) = i :: js i := by
  unfold js
  rw [if_neg h0, if_neg (by omega), List.range_succ, List.reverse_append]; rfl
theorem js_one : js (0 + 1) = js 0 := rfl
theorem pths_next (i : Nat) : (List.range (i + 1)).map pth = (List.range i).map pth ++ [pth i] := by rw [List.range_succ, List.map_append]; rfl

section
variable {w wr : World} {m : Int} {r k : Nat} {C : List (Nm × Int)} {s : List UInt8}
theorem KT.writeAll (h : KT w m r k (tC C [] 0) wr) (hs : s.length ≤ 100) :
    Calls Tryz.prog 13 #[wp r, .int .i64 1, .int .i64 0, tx s] wr fun e w' => e = .returned .nilIface ∧ KT w m r (k + 1) (tC C s 0) w' := by
  have hf : fileT (tC C [] 0) 1 = 0 := rfl
  have hE : writeE (tC C [] 0) 1 0 s = 0 := by
    unfold writeE
    rw [if_neg (fun e => e hf), if_neg (by omega), if_neg (by omega)]
  have hN : writeN (tC C [] 0) 1 0 s = tC C s 0 := by
    unfold writeN
    by_cases hx : s = []
    · rw [if_pos (.inr hx), hx]
    · rw [if_neg (fun e => e.elim (fun e => e hE) hx), tC_1]
      simp only
      rw [tC_set1, show overT [] (Int.toNat 0) s = s by unfold overT padT; simp]
  refine (h.write 1 0 s (wf_few (by omega) (by omega)) (by omega)).mono ?_
  rintro e w' ⟨rfl, k'⟩
  rw [hE]
  rw [hN] at k'
  exact ⟨rfl, k'⟩
end
theorem links_e : makeE nullT 1 [47, 48] = 0 := by decide
theorem links_n : makeN nullT [47, 48] false 1 = tC [(dg 0, 1)] [] 0 := by
  obtain ⟨nm, h1, _, h2⟩ := make_null links_e
  rw [h2]
  have h3 : namesOf [47, 48] = some [dg 0] := by decide
  rw [h3] at h1
  cases h1
  rfl
end Go.Proofs.YtpibokijbidgdabGreatDoor
