/- Bytes that are read: their parts, and as a text. -/
import Derived.Test.YtcfhanoekniaaaaGreatDoorUNew
import Derived.Lib.BufferRead
namespace Go.Proofs.YtcfhanoekniaaaaGreatDoor
open Go.RowKit Go.Maps

/-- Bytes, from wherever they begin. -/
def Rdb (w : World) (v : Value) (l : List UInt8) : Prop :=
  ∃ a c, v = .slice a l.length c ∧ l.length ≤ c ∧ ((a = none ∧ l = [] ∧ c = 0) ∨ ∃ g o, a = some ⟨g, o, none⟩ ∧ ∀ j (h : j < l.length), w.cell? ⟨g, o + j, none⟩ = some (.int .u8 (l[j].toNat : Int)))

section
variable {w w' : World} {v : Value} {l : List UInt8}

theorem Dat.rdb (h : Dat w v l) : Rdb w v l := by
  rcases h with ⟨rfl, rfl⟩ | ⟨g, c, rfl, hc, _, hi⟩
  · exact ⟨none, 0, rfl, Nat.le_refl _, .inl ⟨rfl, rfl, rfl⟩⟩
  · exact ⟨_, c, rfl, hc, .inr ⟨g, 0, rfl, fun j hj => by rw [Nat.zero_add]; exact hi j hj⟩⟩

theorem size_u8 (w : World) : (sizeOf 5).run Tryz.prog w = .ok 1 w := by kernel_rfl

theorem elem_u8 : Tryz.prog.elem 300 = 5 := by kernel_rfl
theorem under_u8 : Tryz.prog.underlying 300 = some (.slice (Tryz.prog.elem 300)) := by rw [elem_u8]; exact Tryz.underlying300
theorem Rdb.from (h : Rdb w v l) (k : Nat) (hk : k ≤ l.length) : ∃ v', (∀ W, (Instr.slice 300 v (some (.int .i64 (k : Int))) none none).run Tryz.prog W = .ok v' W) ∧ Rdb w v' (l.drop k) := by
  obtain ⟨a, c, rfl, hc, hx⟩ := h
  refine ⟨sliced a k l.length c 1, fun W => ?_, ?_⟩
  · rw [run_slice_l (P := Tryz.prog) W 300 a l.length c under_u8 .i64 (k : Int) (by omega) (by omega), elem_u8, size_u8]
    simp [Result.andThen]
  · unfold sliced
    rcases hx with ⟨rfl, rfl, rfl⟩ | ⟨g, o, rfl, hi⟩
    · have : k = 0 := by simpa using hk
      subst this
      exact ⟨none, 0, by simp, Nat.le_refl _, .inl ⟨rfl, rfl, rfl⟩⟩
    · by_cases e : c = k
      · have hd : l.drop k = [] := List.drop_eq_nil_of_le (by omega)
        rw [hd, if_pos e]
        exact ⟨some ⟨g, o, none⟩, c - k, by rw [show l.length - k = 0 by omega]; rfl, by simp, .inr ⟨g, o, rfl, fun j hj => by simp at hj⟩⟩
      · rw [if_neg e]
        refine ⟨some ⟨g, o + k, none⟩, c - k, by simp [Addr.add], by simp; omega, .inr ⟨g, o + k, rfl, fun j hj => ?_⟩⟩
        have := hi (k + j) (by simp at hj; omega)
        rw [Nat.add_assoc, this, List.getElem_drop]
theorem Rdb.upto (h : Rdb w v l) (k : Nat) (hk : k ≤ l.length) : ∃ v', (∀ W, (Instr.slice 300 v none (some (.int .i64 (k : Int))) none).run Tryz.prog W = .ok v' W) ∧ Rdb w v' (l.take k) := by
  obtain ⟨a, c, rfl, hc, hx⟩ := h
  refine ⟨sliced a 0 k c 1, fun W => ?_, ?_⟩
  · rw [run_slice_h (P := Tryz.prog) W 300 a l.length c under_u8 .i64 (k : Int) (by omega) (by omega), elem_u8, size_u8]
    simp [Result.andThen]
  · unfold sliced
    have hl : (l.take k).length = k := by simp; omega
    rcases hx with ⟨rfl, rfl, rfl⟩ | ⟨g, o, rfl, hi⟩
    · have : k = 0 := by simpa using hk
      subst this
      exact ⟨none, 0, by simp, Nat.le_refl _, .inl ⟨rfl, rfl, rfl⟩⟩
    · refine ⟨some ⟨g, o, none⟩, c, ?_, by rw [hl]; omega, .inr ⟨g, o, rfl, fun j hj => ?_⟩⟩
      · rw [hl]; split <;> simp [Addr.add]
      · rw [hl] at hj
        rw [hi j (by omega), List.getElem_take]
theorem Rdb.text (h : Rdb w v l) : (convert 300 9 v).run Tryz.prog w = .ok (tx l) w := by
  obtain ⟨a, c, rfl, hc, hx⟩ := h
  rcases hx with ⟨rfl, rfl, rfl⟩ | ⟨g, o, rfl, hi⟩
  · exact Lib.run_convert_nil_bytes w 300 9 5 0 Tryz.underlying300 Tryz.underlying5 Tryz.underlying9
  · exact run_convert_bytes_back (P := Tryz.prog) w 300 9 5 ⟨g, o, none⟩ c l Tryz.underlying300 Tryz.underlying5 Tryz.underlying9 (fun j hj => by rw [Addr.add_lit]; exact hi j hj)
theorem Rdb.len (h : Rdb w v l) : ∃ a c, v = .slice a l.length c := by
  obtain ⟨a, c, rfl, _⟩ := h
  exact ⟨a, c, rfl⟩
end

section
variable {w w' : World} {r gN s : Nat} {T : Wd} {Z : Int → Nat} {B G : Int → Nat} {V : Int → Value} {O : Nat → Prop}

theorem min_run (ts : Array TypeId) (ty : TypeId) (x y : Int) (k : Nat) (h : (k : Int) = min x y) (W : World) : (Builtin.min_ ts ty #[.int .i64 x, .int .i64 y]).run Tryz.prog W = .ok (.int .i64 (k : Int)) W := by
  rw [run_min_int2]
  congr 2
  by_cases e : y < x
  · rw [if_pos e]; omega
  · rw [if_neg e]; omega

set_option maxRecDepth 100000 in
set_option maxHeartbeats 4000000 in
theorem PT.read_ok (h : PT w r T O) (n a mm : Int) (hw : (Lit.int .i64 n).wf = true) :
    Calls Tryz.prog 157 #[wp r, .int .i64 n, .int .i64 a, .int .i64 mm] w fun e w' => e = .returned (.tuple #[tx (readS T n a mm), uev (readE T n a mm)]) ∧ ∃ q, w' = w.drewN q := by
  obtain ⟨gN, s, B, G, V, h⟩ := h
  by_cases hz : fileT T n = 0
  · obtain ⟨b, x, hn⟩ := fileT_zero hz
    have hF := h.file_ok n hw hn
    obtain ⟨_, n1, _⟩ := h.fcell hn
    have hD := (h.data n b x hn).rdb
    generalize V n = v at *
    by_cases ha : a < 0
    · have e1 : readE T n a mm = 2 := by unfold readE; rw [if_neg (fun e => e hz), if_pos (.inl ha)]
      have e2 : readS T n a mm = [] := by unfold readS; rw [hn]; simp only; rw [if_pos (.inl ha)]
      rw [e1, e2]
      clear hn hz e1 e2 hD
      go_enter Tryz.func157, Tryz.ntmps157
      go_wp2_with (go_at_call 242; refine hF.mono ?_; rintro e w' ⟨rfl, hw'⟩; subst w')
      go_ret2
      exact ⟨rfl, 0, rfl⟩
    · by_cases hm : mm < 0
      · have e1 : readE T n a mm = 2 := by unfold readE; rw [if_neg (fun e => e hz), if_pos (.inr hm)]
        have e2 : readS T n a mm = [] := by unfold readS; rw [hn]; simp only; rw [if_pos (.inr hm)]
        rw [e1, e2]
        clear hn hz e1 e2 hD
        go_enter Tryz.func157, Tryz.ntmps157
        go_wp2_with (go_at_call 242; refine hF.mono ?_; rintro e w' ⟨rfl, hw'⟩; subst w')
        go_ret2
        exact ⟨rfl, 0, rfl⟩
      · have e1 : readE T n a mm = 0 := by unfold readE; rw [if_neg (fun e => e hz), if_neg (by omega)]
        obtain ⟨k1, hk1⟩ : ∃ k1, min a.toNat b.length = k1 := ⟨_, rfl⟩
        obtain ⟨k2, hk2⟩ : ∃ k2, min mm.toNat (b.length - k1) = k2 := ⟨_, rfl⟩
        have e2 : readS T n a mm = (b.drop k1).take k2 := by
          unfold readS; rw [hn]; simp only; rw [if_neg (by omega), ← hk2, ← hk1]
          by_cases e : a.toNat ≤ b.length
          · rw [Nat.min_eq_left e]
            by_cases e' : mm.toNat ≤ b.length - a.toNat
            · rw [Nat.min_eq_left e']
            · rw [Nat.min_eq_right (by omega), List.take_of_length_le (by simp; omega), List.take_of_length_le (by simp)]
          · rw [show min a.toNat b.length = b.length by omega, List.drop_eq_nil_of_le (show b.length ≤ a.toNat by omega), List.drop_length]; simp
        rw [e1, e2, uev_zero]
        obtain ⟨v1, r1, d1⟩ := hD.from k1 (by omega)
        obtain ⟨v2, r2, d2⟩ := d1.upto k2 (by simp; omega)
        have m1 := fun ts ty => min_run ts ty a (b.length : Int) k1 (by omega)
        have m2 := fun ts ty => min_run ts ty mm ((b.length - k1 : Nat) : Int) k2 (by omega)
        have tq : (convert 300 9 v2).run Tryz.prog w.drew = .ok (tx ((b.drop k1).take k2)) w.drew := Rdb.text (w := w.drew) d2
        obtain ⟨A, c, rfl⟩ := hD.len
        obtain ⟨A1, c1, e3⟩ := d1.len
        rw [List.length_drop] at e3
        subst e3
        generalize (b.drop k1).take k2 = res at *
        generalize b.length - k1 = L1 at *
        clear hn hz e1 e2 hD d1 d2 hk1 hk2
        go_enter Tryz.func157, Tryz.ntmps157
        go_wp2_with (go_at_call 242; refine hF.mono ?_; rintro e w' ⟨rfl, hw'⟩; subst w')
        go_region
        go_wp2_with fail
        go_ret2
        exact ⟨rfl, 1, rfl⟩
  · have hF := h.file_bad n hw hz
    have e1 : readE T n a mm = fileT T n := by unfold readE; rw [if_pos hz]
    have e2 : readS T n a mm = [] := by
      unfold readS
      cases hn : T n with
      | none => rfl
      | some nd => cases nd with
        | dir C => rfl
        | file b x => exact absurd (by unfold fileT; rw [hn]) hz
    rw [e1, e2, uev_ne hz]
    generalize fileT T n = z at *
    go_enter Tryz.func157, Tryz.ntmps157
    go_wp2_with (go_at_call 242; refine hF.mono ?_; rintro e w' ⟨rfl, hw'⟩; subst w')
    go_ret2
    exact ⟨rfl, 0, rfl⟩
end
end Go.Proofs.YtcfhanoekniaaaaGreatDoor
