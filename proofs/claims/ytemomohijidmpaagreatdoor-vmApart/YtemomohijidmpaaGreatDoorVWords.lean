/- The statement's own 'words', by its Go text: a text of all that is seen of a space's first pages. -/
import Derived.Test.YtemomohijidmpaaGreatDoorVBuilder
import Derived.Test.YtemomohijidmpaaGreatDoorVSpace2
import Derived.Test.YtemomohijidmpaaGreatDoorVLen
import Derived.Test.YtemomohijidmpaaGreatDoorVFSt
import Derived.Lib.ItoaLen
namespace Go.Proofs.YtemomohijidmpaaGreatDoor
open Go.RowKit Go.Shelf

/-- What is told of a word. -/
def ent (P : PM) (D : Nat → Nat → Int) (i : Nat) : List UInt8 := Lib.itoa (loadV P D ((i / 8 : Nat) : Int) ((i % 8 : Nat) : Int)) ++ [44] ++ Lib.decDigits (useE P ((i / 8 : Nat) : Int) ((i % 8 : Nat) : Int) 1).toNat ++ [59]
def bts (P : PM) (D : Nat → Nat → Int) (n : Nat) : List UInt8 := (List.range n).flatMap (ent P D)
def wds (P : PM) (D : Nat → Nat → Int) : List UInt8 := bts P D 96 ++ Lib.decDigits (lenP P)
theorem bts_next (P : PM) (D : Nat → Nat → Int) (n : Nat) : bts P D (n + 1) = bts P D n ++ ent P D n := by unfold bts; rw [List.range_succ, List.flatMap_append]; simp

/-- All words are numbers of 64 bits. -/
def Wd64 (D : Nat → Nat → Int) : Prop := ∀ f k, -9223372036854775808 ≤ D f k ∧ D f k ≤ 9223372036854775807
theorem Wd64.load {D : Nat → Nat → Int} (h : Wd64 D) (P : PM) (a k : Int) : -9223372036854775808 ≤ loadV P D a k ∧ loadV P D a k ≤ 9223372036854775807 := by
  unfold loadV wd; split
  · split
    · omega
    · exact h _ _
  · omega
theorem useE_small (P : PM) (a k u : Int) : 0 ≤ useE P a k u ∧ useE P a k u < 100 := by
  unfold useE; split
  · omega
  · split
    · split <;> omega
    · omega
theorem dec_len {i : Nat} (hi : i < 100) : (Lib.decDigits i).length ≤ 21 := by
  have := Lib.itoa_length_le (i : Int) (by omega) (by omega)
  have e : Lib.itoa (i : Int) = Lib.decDigits i := by unfold Lib.itoa; rw [if_neg (by omega)]; rfl
  rw [e] at this; exact this
theorem ent_len {D : Nat → Nat → Int} (h : Wd64 D) (P : PM) (i : Nat) : (ent P D i).length ≤ 44 := by
  have h1 := h.load P ((i / 8 : Nat) : Int) ((i % 8 : Nat) : Int)
  have h2 := Lib.itoa_length_le _ h1.1 h1.2
  have h3 := useE_small P ((i / 8 : Nat) : Int) ((i % 8 : Nat) : Int) 1
  have h4 := dec_len (i := (useE P ((i / 8 : Nat) : Int) ((i % 8 : Nat) : Int) 1).toNat) (by omega)
  unfold ent; simp only [List.length_append, List.length_cons, List.length_nil]; omega
theorem bts_len {D : Nat → Nat → Int} (h : Wd64 D) (P : PM) : ∀ n, (bts P D n).length ≤ 44 * n
  | 0 => by simp [bts]
  | n + 1 => by rw [bts_next, List.length_append]; have := bts_len h P n; have := ent_len h P n; omega

section
variable {E : St} {w : World} {c gc : Nat} {D : Nat → Nat → Int} {A : Nat → Prop} {P : PM} {o : Int → Nat}

set_option maxRecDepth 100000 in
set_option maxHeartbeats 8000000 in
theorem VS.words_ok (h : VS E w c gc D A P o) (hD : Wd64 D) (hp : Pow w) (hg : w.cell? ⟨0, 0, none⟩ = some errT) :
    Calls Tryz.prog 10 #[vp c] w fun e w' => e = .returned (.string ⟨(wds P D).toArray⟩) ∧ Below w.heap.size w w' := by
  have hgl : 0 < w.heap.size := World.block_lt_of_cell? w _ hg
  have hgw : ∀ w', Below w.heap.size w w' → w'.cell? ⟨0, 0, none⟩ = some errT := fun w' h => by rw [h.cell (p := ⟨0, 0, none⟩) hgl]; exact hg
  have hI0 := Lib.fresh_isBuilder 66 5 w
  have hB0 : Below w.heap.size w (w.alloc (.cells #[.pointer none, .slice none 0 0] 66)) := (Below.refl _ w).alloc (Nat.le_refl _) _
  go_enter Tryz.func10, Tryz.ntmps10
  go_wp2_with fail
  go_loopg [4] 12 (fun mm s4 wr => ∃ a : Nat, a + mm = 12 ∧ s4 = .int .i64 (a : Int) ∧ Lib.IsBuilder 66 5 w.heap.size w.heap.size (Lib.byteCells (bts P D (a * 8))) wr ∧ Below w.heap.size w wr)
  case atStart => exact ⟨0, by omega, rfl, hI0, hB0⟩
  case round =>
    clear hI0 hB0
    obtain ⟨a, ha, rfl, hI, hB⟩ := hrel
    by_cases hlt : (a : Int) < 12
    · obtain ⟨G, hG⟩ : ∃ G, gk = G := ⟨_, rfl⟩
      rw [hG] at ha
      go_wp2_with fail
      go_loopg [5] 8 (fun mm s5 wi => ∃ k : Nat, k + mm = 8 ∧ s5 = .int .i64 (k : Int) ∧ Lib.IsBuilder 66 5 w.heap.size w.heap.size (Lib.byteCells (bts P D (a * 8 + k))) wi ∧ Below w.heap.size w wi)
      case atStart => exact ⟨0, by omega, rfl, hI, hB⟩
      case round =>
        clear hI hB
        obtain ⟨k, hk, rfl, hI, hB⟩ := hrel
        by_cases hlk : (k : Int) < 8
        · have hld := (h.below hB).load (a : Int) (k : Int) (wf_small (by omega) (by omega))
          have hb1 := hD.load P (a : Int) (k : Int)
          have hb2 := useE_small P (a : Int) (k : Int) 1
          have hnx := bts_next P D (a * 8 + k)
          have hen : ent P D (a * 8 + k) = Lib.itoa (loadV P D (a : Int) (k : Int)) ++ [44] ++ Lib.decDigits (useE P (a : Int) (k : Int) 1).toNat ++ [59] := by
            unfold ent; rw [show (a * 8 + k) / 8 = a by omega, show (a * 8 + k) % 8 = k by omega]
          have hbl := bts_len hD P (a * 8 + k)
          have hel := ent_len hD P (a * 8 + k)
          rw [hen] at hnx hel
          obtain ⟨er, her⟩ : ∃ er : Nat, useE P (a : Int) (k : Int) 1 = (er : Int) := ⟨(useE P (a : Int) (k : Int) 1).toNat, by omega⟩
          rw [her] at hld hb2 hnx hel
          rw [Int.toNat_natCast] at hnx hel
          generalize loadV P D (a : Int) (k : Int) = V at *
          generalize hbs : bts P D (a * 8 + k) = bs at *
          have hF := fun wx (hbx : Below w.heap.size w wx) => format_any V hb1.1 hb1.2 wx (hp.below hbx)
          have hT := fun wx (hbx : Below w.heap.size w wx) => tell_any (er : Int) wx (hgw wx hbx)
          have hIt := itoa_small er (by omega)
          have hstr : ((⟨(Lib.itoa V).toArray⟩ : ByteArray) ++ ⟨#[44]⟩ ++ ⟨(Lib.decDigits er).toArray⟩ ++ ⟨#[59]⟩ : ByteArray) = ⟨(Lib.itoa V ++ [44] ++ Lib.decDigits er ++ [59]).toArray⟩ := by
            apply ByteArray.ext; simp
          have hl1 := Lib.itoa_length_le V hb1.1 hb1.2
          have hl2 := dec_len (i := er) (by omega)
          generalize (Lib.itoa V ++ [44] ++ Lib.decDigits er ++ [59]) = S at *
          have hlenS : bs.length + S.length ≤ 1000000 := by omega
          generalize Lib.itoa V = S1 at *
          generalize Lib.decDigits er = S2 at *
          have hc1 : ¬ 9223372036854775807 < S1.length + 1 := by omega
          have hc2 : ¬ 9223372036854775807 < S1.length + 1 + S2.length := by omega
          have hc3 : ¬ 9223372036854775807 < S1.length + 1 + S2.length + 1 := by omega
          clear h hD hel hbl hb1 hen her
          go_wp2_with fail
          refine hld.mono ?_
          rintro e w1 ⟨rfl, b1⟩
          have hI1 := isBuilder_below hI b1
          have hB1 := hB.trans (b1.mono hB.size)
          go_wp2_with fail
          refine (hF _ hB1).mono ?_
          rintro e w2 ⟨rfl, b2⟩
          have hI2 := isBuilder_below hI1 b2
          have hB2 := hB1.trans (b2.mono hB1.size)
          go_wp2_with fail
          refine (hT _ hB2).mono ?_
          rintro e w3 ⟨rfl, b3⟩
          have hI3 := isBuilder_below hI2 b3
          have hB3 := hB2.trans (b3.mono hB2.size)
          go_wp2_with fail
          refine (hIt _).mono ?_
          rintro e w4 ⟨rfl, h4⟩
          subst w4
          go_wp2_with fail
          refine (write_list _ _ bs S w3 hI3 hlenS hB3.size).mono ?_
          rintro e w5 ⟨u, rfl, hI5, b5⟩
          go_wp2_with fail
          go_roundg (8 - (k + 1))
          case measure => omega
          case rel => exact ⟨k + 1, by omega, by go_num, by rw [show a * 8 + (k + 1) = a * 8 + k + 1 by omega, hnx]; exact hI5, hB3.trans b5⟩
        · have hk8 : k = 8 := by omega
          subst hk8
          go_wp2_with fail
          go_roundg (12 - (a + 1))
          case measure => omega
          case rel => exact ⟨a + 1, by omega, by go_num, by rw [show (a + 1) * 8 = a * 8 + 8 by omega]; exact hI, hB⟩
    · have ha12 : a = 12 := by omega
      subst ha12
      have hne : bts P D (12 * 8) ≠ [] := by
        rw [show 12 * 8 = 95 + 1 from rfl, bts_next]; simp [ent]
      have hTx := text_any w.heap.size w.heap.size (bts P D (12 * 8)) wr hI hne
      have hbl := bts_len hD P (12 * 8)
      have hle := lenP_le P
      have hIt := itoa_small (lenP P) (by omega)
      have hl2 := dec_len (i := lenP P) (by omega)
      have hres : (⟨(bts P D (12 * 8)).toArray⟩ : ByteArray) ++ ⟨(Lib.decDigits (lenP P)).toArray⟩ = ⟨(wds P D).toArray⟩ := by
        apply ByteArray.ext; simp [wds]
      obtain ⟨R, hR⟩ : ∃ R : List UInt8, wds P D = R := ⟨_, rfl⟩
      have HR := hide hR
      rw [hR] at hres
      have hLn : ∀ w', Below w.heap.size w w' → Calls Tryz.prog 11 #[vp c] w' fun e w'' => e = .returned (.int .i64 (lenP P : Nat)) ∧ w'' = w' := fun w' hb => (h.sp.below hb).len
      generalize bts P D (12 * 8) = S1 at *
      generalize lenP P = N at *
      generalize Lib.decDigits N = S2 at *
      have hc1 : ¬ 9223372036854775807 < S1.length + S2.length := by omega
      clear h hD hI hR
      go_wp2_with fail
      refine hTx.mono ?_
      rintro e w2 ⟨rfl, b2⟩
      have hB2 := hB.trans b2
      go_wp2_with fail
      refine (hLn _ hB2).mono ?_
      rintro e w3 ⟨rfl, h3⟩
      subst w3
      go_wp2_with fail
      refine (hIt _).mono ?_
      rintro e w3 ⟨rfl, h3⟩
      subst w3
      go_wp2_with fail
      go_ret
      refine ⟨?_, hB2⟩
      first | (rw [HR.out]; rfl) | (rw [HR.out, ← hres]; rfl)
end
end Go.Proofs.YtemomohijidmpaaGreatDoor
