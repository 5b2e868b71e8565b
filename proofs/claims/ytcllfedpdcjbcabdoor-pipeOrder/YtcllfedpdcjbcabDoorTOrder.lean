/- PipeOrder: the walk of its Go text. -/
import Derived.Test.YtcllfedpdcjbcabDoorTubes3
import Derived.Test.YtcllfedpdcjbcabDoorTell
import Derived.Test.YtcllfedpdcjbcabDoorPick
import Derived.Test.YtcllfedpdcjbcabDoorTubesR
import Derived.Deep.LoopGhost
import Derived.Deep.DeepCutAuto
import Derived.Deep.Light
import Derived.WalkSmall
import Derived.Deep.CutBlock
namespace Go.Proofs.YtcllfedpdcjbcabDoor
open Go.RowKit

theorem ocat (a b : List UInt8) : ((⟨a.toArray⟩ : ByteArray) ++ ⟨b.toArray⟩) = ⟨(a ++ b).toArray⟩ := by apply ByteArray.ext; simp

theorem ppick_fix (a : Int) (n : Nat) (h1 : 1 ≤ n) (h2 : n ≤ 1000000) : ∃ r : Nat, r < n ∧ ∀ w : World, Calls Tryd.prog 7 #[.int .i64 a, .int .i64 n] w fun e w' => e = .returned (.int .i64 r) ∧ w' = w := by
  have hb := ppick_bounds a n (by omega) (by omega)
  obtain ⟨r, hr⟩ : ∃ r : Nat, wrap64 ((IntKind.u64.wrap a).tmod n) = r := ⟨(wrap64 ((IntKind.u64.wrap a).tmod n)).toNat, by omega⟩
  rw [hr] at hb
  refine ⟨r, by omega, fun w => ?_⟩
  go_enter Tryd.func7, Tryd.ntmps7
  go_wp2
  go_ret
  exact ⟨by rw [← hr]; rfl, rfl⟩

theorem o_new (w : World) (t : TypeId) : Tb (w.alloc (.cells #[.int .i64 0, .int .i64 0, .int .i64 0, .int .i64 0, .int .u8 0, .int .u8 0, .int .u8 0, .int .u8 0, .int .u8 0, .int .u8 0, .int .u8 0, .int .u8 0, .int .u8 0, .int .u8 0, .int .u8 0, .int .u8 0, .int .u8 0, .int .u8 0, .int .u8 0, .int .u8 0, .int .i64 0] t)) w.heap.size 0 0 [] := by
  have hh : (w.alloc (.cells #[.int .i64 0, .int .i64 0, .int .i64 0, .int .i64 0, .int .u8 0, .int .u8 0, .int .u8 0, .int .u8 0, .int .u8 0, .int .u8 0, .int .u8 0, .int .u8 0, .int .u8 0, .int .u8 0, .int .u8 0, .int .u8 0, .int .u8 0, .int .u8 0, .int .u8 0, .int .u8 0, .int .i64 0] t)).heap[w.heap.size]? = some (.cells #[.int .i64 0, .int .i64 0, .int .i64 0, .int .i64 0, .int .u8 0, .int .u8 0, .int .u8 0, .int .u8 0, .int .u8 0, .int .u8 0, .int .u8 0, .int .u8 0, .int .u8 0, .int .u8 0, .int .u8 0, .int .u8 0, .int .u8 0, .int .u8 0, .int .u8 0, .int .u8 0, .int .i64 0] t) := by
    show (w.heap.push _)[w.heap.size]? = _
    rw [Array.getElem?_push, if_pos rfl]
  refine ⟨by simp, by rw [cell_of_row _ _ _ _ _ _ hh]; rfl, by rw [cell_of_row _ _ _ _ _ _ hh]; rfl, fun k hk => ?_, by rw [cell_of_row _ _ _ _ _ _ hh]; rfl, fun k _ => by simp⟩
  rw [cell_of_row _ _ _ _ _ _ hh, bt_out _ _ (by simp)]
  have hk' : k = 0 ∨ k = 1 ∨ k = 2 ∨ k = 3 ∨ k = 4 ∨ k = 5 ∨ k = 6 ∨ k = 7 ∨ k = 8 ∨ k = 9 ∨ k = 10 ∨ k = 11 ∨ k = 12 ∨ k = 13 ∨ k = 14 ∨ k = 15 := by omega
  rcases hk' with rfl | rfl | rfl | rfl | rfl | rfl | rfl | rfl | rfl | rfl | rfl | rfl | rfl | rfl | rfl | rfl <;> rfl

/-- A pipe of one's own behind what was there at first. -/
structure Op1 (w0 w : World) (b : Nat) (F I : Int) (B : List UInt8) : Prop where
  t : Tb w b F I B
  bel : Below w0.heap.size w0 w
  far : w0.heap.size ≤ b

section
variable {w0 w w' : World} {b : Nat} {F I F1 I1 : Int} {B B1 : List UInt8}
theorem Op1.turn (h : Op1 w0 w b F I B) (t : Tb w' b F1 I1 B1) (g : w.grownBy w' (some b)) : Op1 w0 w' b F1 I1 B1 :=
  ⟨t, ⟨g.os.trans h.bel.os, g.tape.trans h.bel.tape, g.output.trans h.bel.output, Nat.le_trans h.bel.size g.size, fun i hi => (g.block i (by have := h.bel.size; omega) (fun e => by injection e with e; have := h.far; omega)).trans (h.bel.block i hi)⟩, h.far⟩
theorem Op1.stay (h : Op1 w0 w b F I B) (l : Below w.heap.size w w') : Op1 w0 w' b F I B :=
  ⟨h.t.keep (l.block _ h.t.lt), h.bel.trans (l.mono h.bel.size), h.far⟩
theorem Op1.opn (h : Op1 w0 w b F I B) (e : Int) (hF : 0 ≤ F) (hF' : F < 1000) (hI : 0 ≤ I) (hI' : I < 1000) (E F1 I1 : Int) (h1 : opE e = E) (h2 : opF F e = F1) (h3 : opI I e = I1) :
    Calls Tryd.prog 18 #[tp b, .int .i64 e] w fun x w' => x = .returned (erT E) ∧ Op1 w0 w' b F1 I1 B := by
  refine (h.t.open_ok e hF hF' hI hI').mono ?_
  rintro x w' ⟨rfl, t, g⟩
  subst h1 h2 h3
  exact ⟨rfl, h.turn t g⟩
theorem Op1.cls (h : Op1 w0 w b F I B) (e : Int) (hF : 0 ≤ F) (hF' : F < 1000) (hI : 0 ≤ I) (hI' : I < 1000) (E F1 I1 : Int) (h1 : clE F I e = E) (h2 : clF F e = F1) (h3 : clI I e = I1) :
    Calls Tryd.prog 20 #[tp b, .int .i64 e] w fun x w' => x = .returned (erT E) ∧ Op1 w0 w' b F1 I1 B := by
  refine (h.t.close_ok e hF hF' hI hI').mono ?_
  rintro x w' ⟨rfl, t, g⟩
  subst h1 h2 h3
  exact ⟨rfl, h.turn t g⟩
theorem Op1.wr (h : Op1 w0 w b F I B) (s : List UInt8) (E : Int) (N : Nat) (B1 : List UInt8) (h1 : wrE F B s = E) (h2 : wrN F B s = N) (h3 : wrB F B s = B1) :
    Calls Tryd.prog 22 #[tp b, txt s] w fun x w' => x = .returned (.tuple #[.int .i64 (N : Int), erT E]) ∧ Op1 w0 w' b F I B1 ∧ w.grownBy w' (some b) := by
  refine (h.t.write_ok s).mono ?_
  rintro x w' ⟨rfl, t, g⟩
  subst h1 h2 h3
  exact ⟨rfl, h.turn t g, g⟩
theorem Op1.rd (h : Op1 w0 w b F I B) (n : Int) (hI : 0 ≤ I) (E : Int) (T B1 : List UInt8) (h1 : rdE I B n = E) (h2 : B.take n.toNat = T) (h3 : B.drop n.toNat = B1) :
    Calls Tryd.prog 24 #[tp b, .int .i64 n] w fun x w' => x = .returned (.tuple #[txt T, erT E]) ∧ Op1 w0 w' b F I B1 ∧ w.grownBy w' (some b) := by
  refine (h.t.read_ok n hI).mono ?_
  rintro x w' ⟨rfl, t, g⟩
  subst h1 h2 h3
  exact ⟨rfl, h.turn t g, g⟩
end

theorem er0 : erT 0 = .nilIface := rfl
theorem er6 : erT 6 = .iface 39 (.int .i64 6) := rfl
theorem er8 : erT 8 = .iface 39 (.int .i64 8) := rfl
theorem er12 : erT 12 = .iface 39 (.int .i64 12) := rfl
theorem er14 : erT 14 = .iface 39 (.int .i64 14) := rfl

set_option maxRecDepth 100000 in
set_option maxHeartbeats 2000000 in
theorem piped_ok (w : World) : Calls Tryd.prog 27 #[] w fun e w' => e = .returned (.bool true) ∧ Below w.heap.size w w' := by
  have H0 : Op1 w (w.alloc (.cells #[.int .i64 0, .int .i64 0, .int .i64 0, .int .i64 0, .int .u8 0, .int .u8 0, .int .u8 0, .int .u8 0, .int .u8 0, .int .u8 0, .int .u8 0, .int .u8 0, .int .u8 0, .int .u8 0, .int .u8 0, .int .u8 0, .int .u8 0, .int .u8 0, .int .u8 0, .int .u8 0, .int .i64 0] 48)) w.heap.size 0 0 [] := ⟨o_new w 48, (Below.refl _ _).alloc (Nat.le_refl _) _, Nat.le_refl _⟩
  go_enter Tryd.func27, Tryd.ntmps27
  go_wp2_with fail
  refine (H0.opn 2 (by omega) (by omega) (by omega) (by omega) 0 1 0 rfl rfl rfl).mono ?_
  rintro e w1 ⟨rfl, H1⟩
  rw [er0]
  go_wp2_with fail
  refine (H1.opn 3 (by omega) (by omega) (by omega) (by omega) 0 1 1 rfl rfl rfl).mono ?_
  rintro e w2 ⟨rfl, H2⟩
  rw [er0]
  go_wp2_with fail
  refine (H2.wr [48, 49, 50, 51, 52, 53, 54, 55, 56, 57, 97, 98, 99, 100, 101, 102, 103, 104] 0 16 [48, 49, 50, 51, 52, 53, 54, 55, 56, 57, 97, 98, 99, 100, 101, 102] rfl rfl rfl).mono ?_
  rintro e w3 ⟨rfl, H3, _⟩
  rw [er0]
  go_wp2_with fail
  refine (H3.rd 3 (by omega) 0 [48, 49, 50] [51, 52, 53, 54, 55, 56, 57, 97, 98, 99, 100, 101, 102] rfl rfl rfl).mono ?_
  rintro e w4 ⟨rfl, H4, _⟩
  rw [er0]
  go_wp2_with fail
  refine H4.t.len.mono ?_
  rintro e w5 ⟨rfl, h5⟩
  subst w5
  go_wp2_with fail
  go_ret
  exact ⟨rfl, H4.bel⟩

/-- One item of the list. -/
structure OItem where
  s : List UInt8
  n : Int
/-- The items lie in the argument's array. -/
def OScript (w : World) (ad : Option Addr) (len : Nat) (q : Nat → OItem) : Prop :=
  len = 0 ∨ ∃ blk off, ad = some ⟨blk, off, none⟩ ∧ blk < w.heap.size ∧ ∀ i, i < len →
    w.cell? ⟨blk, off + i * 2, none⟩ = some (txt (q i).s) ∧ w.cell? ⟨blk, off + i * 2 + 1, none⟩ = some (.int .i64 (q i).n)

set_option maxRecDepth 100000 in
set_option maxHeartbeats 1000000 in
theorem torder_long (ad : Option Addr) (len cap : Nat) (w : World) (h : 60 < len) :
    Calls Tryd.prog 5 #[.slice ad len cap] w fun e w' => e = .returned (.bool true) ∧ Below w.heap.size w w' := by
  have h1 : (60 : Int) < (len : Int) := by omega
  go_enter Tryd.func5, Tryd.ntmps5
  go_wp2_with fail
  go_ret
  exact ⟨rfl, Below.refl _ _⟩

/-- What a write of S makes, by cases. -/
theorem wr_cases (B S : List UInt8) (hB : B.length ≤ 16) : ∃ m : Nat, m ≤ S.length ∧ wrN 1 B S = m ∧ wrB 1 B S = B ++ S.take m ∧ ((wrE 1 B S = 0 ∧ (m = 0 ∧ S.isEmpty = true ∨ 0 < m)) ∨ (wrE 1 B S = 12 ∧ m = 0 ∧ (B ++ S.take m).length = 16)) := by
  refine ⟨min S.length (16 - B.length), by omega, by unfold wrN; rw [if_neg (by omega)], ?_, ?_⟩
  · unfold wrB; rw [if_neg (by omega)]
    by_cases h : S.length ≤ 16 - B.length
    · rw [Nat.min_eq_left h, List.take_of_length_le h, List.take_of_length_le (Nat.le_refl _)]
    · rw [Nat.min_eq_right (by omega)]
  · unfold wrE; rw [if_neg (by omega)]
    cases S with
    | nil => left; simp
    | cons x S =>
      rw [if_neg (by simp)]
      by_cases h : B.length = 16
      · right; rw [if_pos h]; simp [h]
      · left; rw [if_neg h]; refine ⟨rfl, .inr ?_⟩; simp; omega

/-- What a read of n makes, by cases. -/
theorem rd_cases (B : List UInt8) (n : Nat) : (rdE 1 B n = 0) ∨ (rdE 1 B n = 8 ∧ (B.drop n).length = 0 ∧ (B.take n).isEmpty = true) := by
  unfold rdE
  rw [if_neg (by omega)]
  by_cases h0 : (n : Int) = 0
  · rw [if_pos h0]; exact .inl rfl
  · rw [if_neg h0]
    by_cases hB : B = []
    · subst hB; right; simp
    · rw [if_neg (fun e => hB e.1)]; exact .inl rfl
end Go.Proofs.YtcllfedpdcjbcabDoor
