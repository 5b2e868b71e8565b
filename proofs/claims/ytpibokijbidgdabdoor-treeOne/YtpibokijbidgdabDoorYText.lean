/- A path, and where it leads, as one text. -/
import Derived.Test.YtpibokijbidgdabDoorYList
import Derived.Test.YtpibokijbidgdabDoorShelfY
import Derived.Test.YtpibokijbidgdabDoorShelfI
import Derived.Test.YtpibokijbidgdabDoorKLinks
namespace Go.Proofs.YtpibokijbidgdabDoor
open Go.RowKit Go.Maps Go.Shelf

/-- A node's number as a text; a path, and where it leads. -/
def dgi (n : Int) : List UInt8 := dg n.toNat
def fm (x : List Nm × Int) : List UInt8 := ptx x.1 ++ 61 :: dgi x.2
theorem dg_plain : ∀ j, j < 64 → (61 : UInt8) ∉ dg j := by decide
theorem dg_one : ∀ i, i < 64 → ∀ j, j < 64 → dg i = dg j → i = j := by decide
theorem dg_short : ∀ j, j < 64 → (dg j).length ≤ 2 := by decide
theorem dgi_inj {a b : Int} (ha : 0 ≤ a ∧ a < 64) (hb : 0 ≤ b ∧ b < 64) (h : dgi a = dgi b) : a = b := by
  have := dg_one a.toNat (by omega) b.toNat (by omega) h
  omega
theorem fm_head (x : List Nm × Int) : ∃ r, fm x = 47 :: r := by
  unfold fm ptx
  split
  · exact ⟨_, rfl⟩
  · rename_i h
    cases hx : x.1 with
    | nil => exact absurd hx h
    | cons s l => rw [jn_cons]; exact ⟨_, rfl⟩
theorem fm_noerror (x : List Nm × Int) : ([101, 114, 114, 111, 114] : List UInt8) ≠ fm x := fun e => by
  obtain ⟨r, hr⟩ := fm_head x
  rw [hr] at e
  cases e
theorem last_eq (a b : List UInt8) (hb : (61 : UInt8) ∉ b) : Lib.lastIndexByte ⟨(a ++ 61 :: b).toArray⟩ 61 = (a.length : Int) := by
  have hlen : (⟨(a ++ 61 :: b).toArray⟩ : ByteArray).size = a.length + 1 + b.length := by simp [ByteArray.size]; omega
  have hget : ∀ j, j < a.length + 1 + b.length → (⟨(a ++ 61 :: b).toArray⟩ : ByteArray).data[j]! = (a ++ 61 :: b)[j]! := fun j hj => by simp
  rcases Lib.lastIndexByte_spec ⟨(a ++ 61 :: b).toArray⟩ 61 with ⟨_, hno⟩ | ⟨i, hi, hix, hat, haft⟩
  · exfalso
    refine hno a.length (by rw [hlen]; omega) ?_
    rw [hget _ (by omega)]
    simp
  · rw [hlen] at hi
    rw [hix]
    by_cases h1 : i < a.length
    · exfalso
      refine haft a.length h1 (by rw [hlen]; omega) ?_
      rw [hget _ (by omega)]
      simp
    · by_cases h2 : i = a.length
      · rw [h2]
      · exfalso
        rw [hget _ hi] at hat
        have h3 : (a ++ 61 :: b)[i]! = b[i - a.length - 1]! := by
          rw [List.getElem!_eq_getElem?_getD, List.getElem!_eq_getElem?_getD, List.getElem?_append_right (by omega), show i - a.length = (i - a.length - 1) + 1 by omega, List.getElem?_cons_succ]
          simp
        rw [h3] at hat
        have h4 : i - a.length - 1 < b.length := by omega
        rw [List.getElem!_eq_getElem?_getD, List.getElem?_eq_getElem h4, Option.getD_some] at hat
        have h5 : b[i - a.length - 1] = 61 := UInt8.toNat_inj.1 (by have : (61 : UInt8).toNat = 61 := rfl; omega)
        exact hb (h5 ▸ List.getElem_mem h4)
theorem last_ok (a b : List UInt8) (hb : (61 : UInt8) ∉ b) (hl : (a ++ 61 :: b).length < 100000) (W : World) : Calls Tryd.prog 36 #[tx (a ++ 61 :: b), .string ⟨#[61]⟩] W fun e w' => e = .returned (.int .i64 (a.length : Int)) ∧ w' = W := by
  refine (Any.strings_LastIndex_one Tryd.lastL ⟨(a ++ 61 :: b).toArray⟩ ⟨#[61]⟩ rfl (by
    have : (⟨(a ++ 61 :: b).toArray⟩ : ByteArray).size = (a ++ 61 :: b).length := by simp [ByteArray.size]
    rw [this]; omega) W).mono ?_
  rintro e w' ⟨rfl, rfl⟩
  refine ⟨?_, rfl⟩
  have := last_eq a b hb
  rw [← this]; rfl
theorem jn_last (l : List Nm) (h0 : l ≠ []) (h : ∀ x ∈ l, NmOk x) : ¬ [47].isSuffixOf (jn l) = true := by
  rcases List.eq_nil_or_concat l with rfl | ⟨l0, s, rfl⟩
  · exact absurd rfl h0
  · rw [List.concat_eq_append] at h ⊢
    have hs := h s (by simp)
    rw [jn_app, jn_cons, jn_nil, List.append_nil]
    rcases List.eq_nil_or_concat s with rfl | ⟨s0, c, rfl⟩
    · have := isName_len hs.1
      simp at this
    · rw [List.concat_eq_append] at hs ⊢
      rw [List.isSuffixOf_iff_suffix]
      rintro ⟨t, ht⟩
      have e : jn l0 ++ 47 :: (s0 ++ [c]) = (jn l0 ++ 47 :: s0) ++ [c] := by simp
      rw [e] at ht
      have := List.append_inj_right' ht rfl
      cases this
      exact hs.2 (by simp)
theorem trim_eq (l : List Nm) (h : ∀ x ∈ l, NmOk x) : Lib.trimSuffix (ptx l) [47] = jn l := by
  by_cases h0 : l = []
  · subst h0; rfl
  · rw [ptx_ne h0]
    unfold Lib.trimSuffix Lib.hasSuffix
    rw [if_neg (jn_last l h0 h)]
theorem trim_ok (l : List Nm) (h : ∀ x ∈ l, NmOk x) (hl : (ptx l).length < 100000) (W : World) : Calls Tryd.prog 70 #[tx (ptx l), .string ⟨#[47]⟩] W fun e w' => e = .returned (tx (jn l)) ∧ w' = W := by
  refine (Any.strings_TrimSuffix Tryd.trimSuffixL ⟨(ptx l).toArray⟩ ⟨#[47]⟩ W (by
    have : (⟨(ptx l).toArray⟩ : ByteArray).size = (ptx l).length := by simp [ByteArray.size]
    rw [this]; omega)).mono ?_
  rintro e w' ⟨rfl, rfl⟩
  refine ⟨?_, rfl⟩
  have := trim_eq l h
  rw [← this]
theorem itoa_ok (n : Int) (h : 0 ≤ n ∧ n < 64) (W : World) : Calls Tryd.prog 69 #[.int .i64 n] W fun e w' => e = .returned (tx (dgi n)) ∧ w' = W := by
  obtain ⟨j, rfl⟩ : ∃ j : Nat, n = j := ⟨n.toNat, by omega⟩
  refine (Any.strconv_Itoa_small Tryd.itoaL j (by omega) W).mono ?_
  rintro e w' ⟨rfl, rfl⟩
  exact ⟨by rw [dg_dec j (by omega)]; rfl, rfl⟩
end Go.Proofs.YtpibokijbidgdabDoor
