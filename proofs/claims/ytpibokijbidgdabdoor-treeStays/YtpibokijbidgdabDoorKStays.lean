/- TreeStays: the walk of its Go text. -/
import Derived.Test.YtpibokijbidgdabDoorKLink
import Derived.Test.YtpibokijbidgdabDoorPick
import Derived.Test.YtpibokijbidgdabDoorShelfR
import Derived.Shelf.Strings.BuilderX
namespace Go.Proofs.YtpibokijbidgdabDoor
open Go.RowKit Go.Maps Go.Shelf

theorem extraR : Builder.Extra Tryd.prog Tryd.repeatL_ren where
  sizeBuilder := by kernel_rfl
  liesBuilder := by kernel_rfl
  t5 := Tryd.underlying5
  a5 := Tryd.isAgg5
  z5 := Tryd.sizeOf5
  v5 := Tryd.zeroValue5
  infoByte := by kernel_rfl
  cellsByte := by kernel_rfl
  sizeByte := by kernel_rfl
  neB5 := by decide
theorem repeat_zero : ∀ c : Nat, Lib.repeatL [0] c = List.replicate c 0
  | 0 => rfl
  | c + 1 => by rw [Lib.repeatL, repeat_zero c, List.replicate_succ]; rfl
theorem repeat_ok (c : Nat) (hc : c ≤ 1000) (w : World) : Calls Tryd.prog 47 #[.string ⟨#[0]⟩, .int .i64 (c : Int)] w fun e w' => e = .returned (tx (List.replicate c 0)) ∧ Below w.heap.size w w' := by
  refine (Any.strings_Repeat Tryd.repeatL extraR ⟨#[0]⟩ c w (by omega) (by simp [ByteArray.size]; omega)).mono ?_
  rintro e w' ⟨rfl, hb⟩
  exact ⟨by rw [← repeat_zero], hb⟩

theorem over_nil (a : Nat) (s : List UInt8) : overT [] a s = List.replicate a 0 ++ s := by
  unfold overT padT
  simp only [List.nil_append, List.length_nil, Nat.sub_zero, List.take_replicate, List.drop_replicate]
  rw [show a + s.length - (a + s.length) = 0 by omega, show min a (a + s.length) = a by omega]
  simp
/-- What lies in the file. -/
def stB (a : Nat) (s : List UInt8) : List UInt8 := if s = [] then [] else List.replicate a 0 ++ s
section
variable {w wr : World} {m : Int} {r k : Nat} {C : List (Nm × Int)} {a : Nat} {s : List UInt8}
theorem stB_s : ((stB a s).drop a).take s.length = s := by
  unfold stB
  by_cases h : s = []
  · simp [h]
  · rw [if_neg h, List.drop_left' (by simp), List.take_length]
theorem stB_0 (h : s ≠ []) : ((stB a s).drop 0).take a = List.replicate a 0 := by
  unfold stB
  rw [if_neg h, List.drop_zero, List.take_left' (by simp)]
theorem KT.write1 (h : KT w m r k (tC C [] 1) wr) (ha : a < 90) (hs : s.length ≤ 100) :
    Calls Tryd.prog 42 #[wp r, .int .i64 1, .int .i64 (a : Int), tx s] wr fun e w' => e = .returned .nilIface ∧ KT w m r (k + 1) (tC C (stB a s) 1) w' := by
  have hf : fileT (tC C [] 1) 1 = 0 := rfl
  have hE : writeE (tC C [] 1) 1 (a : Int) s = 0 := by
    unfold writeE
    rw [if_neg (fun e => e hf), if_neg (by omega), if_neg (by omega)]
  have hN : writeN (tC C [] 1) 1 (a : Int) s = tC C (stB a s) 1 := by
    unfold writeN stB
    by_cases hx : s = []
    · rw [if_pos (.inr hx), if_pos hx]
    · rw [if_neg (fun e => e.elim (fun e => e hE) hx), tC_1]
      simp only
      rw [tC_set1, Int.toNat_natCast, over_nil, if_neg hx]
  refine (h.write 1 a s (wf_few (by omega) (by omega)) (by omega)).mono ?_
  rintro e w' ⟨rfl, k'⟩
  rw [hE]
  rw [hN] at k'
  exact ⟨rfl, k'⟩
theorem KT.read_c {b : List UInt8} {x : Nat} (h : KT w m r k (tC C b x) wr) (i c : Nat) :
    Calls Tryd.prog 46 #[wp r, .int .i64 1, .int .i64 (i : Int), .int .i64 (c : Int)] wr fun e w' => e = .returned (.tuple #[tx ((b.drop i).take c), .nilIface]) ∧ KT w m r k (tC C b x) w' := by
  have hf : fileT (tC C b x) 1 = 0 := rfl
  have e1 : readE (tC C b x) 1 i c = 0 := by unfold readE; rw [if_neg (fun e => e hf), if_neg (by omega)]
  have e2 : readS (tC C b x) 1 i c = (b.drop i).take c := by
    unfold readS
    rw [tC_1]
    simp only
    rw [if_neg (by omega), Int.toNat_natCast, Int.toNat_natCast]
  refine (h.read 1 i c (wf_few (by omega) (by omega))).mono ?_
  rintro e w' ⟨rfl, k'⟩
  exact ⟨by rw [e1, e2]; rfl, k'⟩
/-- Let go, behind the last name: it is gone. -/
theorem KT.drop1 {b : List UInt8} (h : KT w m r k (tC [] b 1) wr) (hk : k ≤ 900) :
    Calls Tryd.prog 48 #[wp r, .int .i64 1] wr fun e w' => e = .returned .nilIface ∧ KT w m r (k + 1) nullT w' := by
  obtain ⟨e1, e2⟩ := drop_one (C := []) (b := b) rfl
  refine (h.drop hk 1 (wf_few (by omega) (by omega))).mono ?_
  rintro e w' ⟨rfl, k'⟩
  rw [e1]
  rw [e2] at k'
  exact ⟨rfl, k'⟩
theorem KT.hold_no (h : KT w m r k nullT wr) (hk : k ≤ 900) :
    Calls Tryd.prog 41 #[wp r, .int .i64 1] wr fun e w' => e = .returned (uer 7) ∧ KT w m r (k + 1) nullT w' := by
  refine (h.hold hk 1 (wf_few (by omega) (by omega))).mono ?_
  rintro e w' ⟨rfl, k'⟩
  exact ⟨rfl, k'⟩
end

set_option maxRecDepth 100000 in
set_option maxHeartbeats 1000000 in
theorem stays_long (p o s : List UInt8) (n : Int) (w : World) (h : 60 < p.length ∨ 60 < o.length ∨ 100 < s.length) :
    Calls Tryd.prog 7 #[tx p, tx o, tx s, .int .i64 n] w fun e w' => e = .returned (.bool true) ∧ Below w.heap.size w w' := by
  by_cases h1 : (60 : Int) < (p.length : Int)
  · clear h
    go_enter Tryd.func7, Tryd.ntmps7
    go_wp2_with fail
    go_ret
    exact ⟨rfl, Below.refl _ _⟩
  · by_cases h2 : (60 : Int) < (o.length : Int)
    · clear h
      go_enter Tryd.func7, Tryd.ntmps7
      go_wp2_with fail
      go_ret
      exact ⟨rfl, Below.refl _ _⟩
    · have h3 : (100 : Int) < (s.length : Int) := by omega
      clear h
      go_enter Tryd.func7, Tryd.ntmps7
      go_wp2_with fail
      go_ret
      exact ⟨rfl, Below.refl _ _⟩
end Go.Proofs.YtpibokijbidgdabDoor
