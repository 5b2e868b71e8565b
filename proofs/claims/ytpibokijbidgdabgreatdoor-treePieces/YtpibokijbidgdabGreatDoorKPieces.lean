/- TreePieces: the walk of its Go text. -/
import Derived.Test.YtpibokijbidgdabGreatDoorKNamed
import Derived.Test.YtpibokijbidgdabGreatDoorTell
import Derived.Test.YtpibokijbidgdabGreatDoorPick
namespace Go.Proofs.YtpibokijbidgdabGreatDoor
open Go.RowKit Go.Maps

/-- Texts that came in. -/
def Strs (w : World) (ad : Option Addr) (len : Nat) (q : Nat → List UInt8) : Prop :=
  len = 0 ∨ ∃ blk off, ad = some ⟨blk, off, none⟩ ∧ blk < w.heap.size ∧ ∀ i, i < len → w.cell? ⟨blk, off + i, none⟩ = some (tx (q i))

section
variable {w w0 wr w' : World} {m : Int} {r k : Nat} {T T' : Wd}
theorem KT.base (h : KT w0 m r k T wr) (hb : Below w.heap.size w w0) (hm : w.cell? ⟨2, 0, none⟩ = some (.int .i64 m)) : KT w m r k T wr := by
  obtain ⟨O, h1, h2⟩ := h.st
  exact ⟨⟨O, h1, fun i hi => Nat.le_trans hb.size (h2 i hi)⟩, h.lv, h.sm, hb.trans (h.bel.mono hb.size), hm⟩
end

/-- Two files, side by side. -/
def pAB : Wd := makeN (makeN nullT [47, 97] false 1) [47, 98] false 2
theorem pieces_e1 : makeE nullT 1 [47, 97] = 0 := by decide
theorem pieces_f2 : IsFree (makeN nullT [47, 97] false 1) 2 := ⟨by omega, by decide, fun j h0 h1 => by
  rcases (show j = 0 ∨ j = 1 by omega) with rfl | rfl <;> decide⟩
theorem pieces_e2 : makeE (makeN nullT [47, 97] false 1) 2 [47, 98] = 0 := by decide
theorem pieces_n1 : IsNum (makeN nullT [47, 97] false 1) 2 := null_num.make nullT_lv.toTrOk pieces_e1 null_free false
theorem pAB_1 : pAB 1 = some (.file [] 0) := rfl
theorem pAB_2 : pAB 2 = some (.file [] 0) := rfl

theorem overT_end (b x : List UInt8) : overT b b.length x = b ++ x := by
  unfold overT padT
  rw [List.take_append_of_le_length (Nat.le_refl _), List.take_length, List.drop_of_length_le (by simp)]
  simp
/-- One piece more, behind the others. -/
theorem write_end {T : Wd} {n : Int} {A : List UInt8} {h : Nat} (hn : T n = some (.file A h)) (x : List UInt8) (hl : A.length + x.length ≤ 200) :
    writeE T n (A.length : Int) x = 0 ∧ writeN T n (A.length : Int) x n = some (.file (A ++ x) h) ∧ ∀ k, k ≠ n → writeN T n (A.length : Int) x k = T k := by
  have hf : fileT T n = 0 := by unfold fileT; rw [hn]
  have hE : writeE T n (A.length : Int) x = 0 := by
    unfold writeE
    rw [if_neg (fun e => e hf), if_neg (by omega), if_neg (by omega)]
  refine ⟨hE, ?_, fun k hk => ?_⟩
  · unfold writeN
    by_cases hx : x = []
    · rw [if_pos (.inr hx), hx, List.append_nil]; exact hn
    · rw [if_neg (fun e => e.elim (fun e => e hE) hx), hn]
      simp only
      rw [setT_same, Int.toNat_natCast, overT_end]
  · unfold writeN
    by_cases hx : x = []
    · rw [if_pos (.inr hx)]
    · rw [if_neg (fun e => e.elim (fun e => e hE) hx), hn]
      simp only
      rw [setT_other _ hk]
theorem write_much {T : Wd} {n : Int} {A : List UInt8} {h : Nat} (hn : T n = some (.file A h)) (x : List UInt8) (hl : 200 < A.length + x.length) :
    writeE T n (A.length : Int) x = 4 ∧ writeN T n (A.length : Int) x = T := by
  have hf : fileT T n = 0 := by unfold fileT; rw [hn]
  have hE : writeE T n (A.length : Int) x = 4 := by
    unfold writeE
    rw [if_neg (fun e => e hf), if_neg (by omega), if_pos (by omega)]
  exact ⟨hE, by unfold writeN; rw [if_pos (.inl (by rw [hE]; omega))]⟩
theorem read_at {T : Wd} {n : Int} {A : List UInt8} {h : Nat} (hn : T n = some (.file A h)) (a c : Nat) : readE T n a c = 0 ∧ readS T n a c = (A.drop a).take c := by
  have hf : fileT T n = 0 := by unfold fileT; rw [hn]
  refine ⟨by unfold readE; rw [if_neg (fun e => e hf), if_neg (by omega)], ?_⟩
  unfold readS
  rw [hn]
  simp only
  rw [if_neg (by omega), Int.toNat_natCast, Int.toNat_natCast]
theorem cut_at {T : Wd} {n : Int} {A : List UInt8} {h : Nat} (hn : T n = some (.file A h)) (c : Nat) : cutE T n c = 0 ∧ cutN T n c n = some (.file (A.take c) h) := by
  have hf : fileT T n = 0 := by unfold fileT; rw [hn]
  refine ⟨by unfold cutE; rw [if_neg (fun e => e hf), if_neg (by omega)], ?_⟩
  unfold cutN
  rw [hn]
  simp only
  rw [if_neg (by omega), setT_same, Int.toNat_natCast]

set_option maxRecDepth 100000 in
set_option maxHeartbeats 1000000 in
theorem pieces_long (ad : Option Addr) (len cap : Nat) (n z : Int) (w : World) (h : 20 < len) :
    Calls Tryz.prog 5 #[.slice ad len cap, .int .i64 n, .int .i64 z] w fun e w' => e = .returned (.bool true) ∧ Below w.heap.size w w' := by
  have h1 : (20 : Int) < (len : Int) := by omega
  go_enter Tryz.func5, Tryz.ntmps5
  go_wp2_with fail
  go_ret
  exact ⟨rfl, Below.refl _ _⟩

/-- Behind the pieces. -/
def PcA (w : World) (m : Int) (r k : Nat) (A : List UInt8) (wr : World) : Prop := A.length ≤ 200 ∧ ∃ T, KT w m r k T wr ∧ T 1 = some (.file A 0) ∧ T 2 = some (.file [] 0)
def PcB (w : World) (m : Int) (r k : Nat) (A : List UInt8) (wr : World) : Prop := A.length ≤ 200 ∧ ∃ T, KT w m r k T wr ∧ T 1 = some (.file A 0) ∧ T 2 = some (.file A 0)
section
variable {w wr w' : World} {m : Int} {r k : Nat} {A : List UInt8}
theorem PcA.bel (h : PcA w m r k A wr) : Below w.heap.size w wr := by obtain ⟨_, T, h, _⟩ := h; exact h.bel
theorem PcB.bel (h : PcB w m r k A wr) : Below w.heap.size w wr := by obtain ⟨_, T, h, _⟩ := h; exact h.bel
theorem PcA.below (h : PcA w m r k A wr) (hb : Below wr.heap.size wr w') : PcA w m r k A w' := by obtain ⟨l, T, h, h1, h2⟩ := h; exact ⟨l, T, h.below hb, h1, h2⟩
theorem PcA.more (h : PcA w m r k A wr) {k' : Nat} (hk : k ≤ k') : PcA w m r k' A wr := by obtain ⟨l, T, h, h1, h2⟩ := h; exact ⟨l, T, h.more hk, h1, h2⟩
theorem PcA.write (h : PcA w m r k A wr) (x : List UInt8) (hx : x.length < 100000) (hl : A.length + x.length ≤ 200) :
    Calls Tryz.prog 13 #[wp r, .int .i64 1, .int .i64 (A.length : Int), tx x] wr fun e w' => e = .returned .nilIface ∧ PcA w m r (k + 1) (A ++ x) w' := by
  obtain ⟨l, T, h, h1, h2⟩ := h
  obtain ⟨e1, e2, e3⟩ := write_end h1 x hl
  refine (h.write 1 (A.length : Int) x (wf_few (by omega) (by omega)) hx).mono ?_
  rintro e w' ⟨rfl, k'⟩
  exact ⟨by rw [e1]; rfl, by rw [List.length_append]; exact hl, _, k', e2, (e3 2 (by omega)).trans h2⟩
theorem PcA.much (h : PcA w m r k A wr) (x : List UInt8) (hx : x.length < 100000) (hl : 200 < A.length + x.length) :
    Calls Tryz.prog 13 #[wp r, .int .i64 1, .int .i64 (A.length : Int), tx x] wr fun e w' => e = .returned (uer 4) ∧ PcA w m r (k + 1) A w' := by
  obtain ⟨l, T, h, h1, h2⟩ := h
  obtain ⟨e1, e2⟩ := write_much h1 x hl
  refine (h.write 1 (A.length : Int) x (wf_few (by omega) (by omega)) hx).mono ?_
  rintro e w' ⟨rfl, k'⟩
  rw [e2] at k'
  exact ⟨by rw [e1]; rfl, l, _, k', h1, h2⟩
theorem PcA.other (h : PcA w m r k A wr) :
    Calls Tryz.prog 13 #[wp r, .int .i64 2, .int .i64 0, tx A] wr fun e w' => e = .returned .nilIface ∧ PcB w m r (k + 1) A w' := by
  obtain ⟨l, T, h, h1, h2⟩ := h
  obtain ⟨e1, e2, e3⟩ := write_end h2 A (by simpa using l)
  refine (h.write 2 0 A (wf_few (by omega) (by omega)) (by omega)).mono ?_
  rintro e w' ⟨rfl, k'⟩
  exact ⟨by rw [show writeE T 2 0 A = 0 from e1]; rfl, l, _, k', (e3 1 (by omega)).trans h1, e2⟩
theorem PcB.read1 (h : PcB w m r k A wr) (a c : Nat) :
    Calls Tryz.prog 18 #[wp r, .int .i64 1, .int .i64 (a : Int), .int .i64 (c : Int)] wr fun e w' => e = .returned (.tuple #[tx ((A.drop a).take c), .nilIface]) ∧ PcB w m r k A w' := by
  obtain ⟨l, T, h, h1, h2⟩ := h
  obtain ⟨e1, e2⟩ := read_at h1 a c
  refine (h.read 1 a c (wf_few (by omega) (by omega))).mono ?_
  rintro e w' ⟨rfl, k'⟩
  exact ⟨by rw [e1, e2]; rfl, l, _, k', h1, h2⟩
theorem PcB.read2 (h : PcB w m r k A wr) (a c : Nat) :
    Calls Tryz.prog 18 #[wp r, .int .i64 2, .int .i64 (a : Int), .int .i64 (c : Int)] wr fun e w' => e = .returned (.tuple #[tx ((A.drop a).take c), .nilIface]) ∧ PcB w m r k A w' := by
  obtain ⟨l, T, h, h1, h2⟩ := h
  obtain ⟨e1, e2⟩ := read_at h2 a c
  refine (h.read 2 a c (wf_few (by omega) (by omega))).mono ?_
  rintro e w' ⟨rfl, k'⟩
  exact ⟨by rw [e1, e2]; rfl, l, _, k', h1, h2⟩
/-- Cut, read and measured. -/
theorem PcB.cut (h : PcB w m r k A wr) (c : Nat) :
    Calls Tryz.prog 21 #[wp r, .int .i64 1, .int .i64 (c : Int)] wr fun e w' => e = .returned .nilIface ∧ ∃ T, KT w m r (k + 1) T w' ∧ T 1 = some (.file (A.take c) 0) := by
  obtain ⟨l, T, h, h1, h2⟩ := h
  obtain ⟨e1, e2⟩ := cut_at h1 c
  refine (h.cut 1 c (wf_few (by omega) (by omega))).mono ?_
  rintro e w' ⟨rfl, k'⟩
  exact ⟨by rw [e1]; rfl, _, k', e2⟩
end
end Go.Proofs.YtpibokijbidgdabGreatDoor
