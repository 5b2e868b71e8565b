/- The document's cache's Alloc, by its Go text. -/
import Derived.Test.YthknommfnajeiaaDoorRefCN
namespace Go.Proofs.YthknommfnajeiaaDoor
open Go.RowKit Go.Shelf Go.Lib Go.Sort Go.Maps

/-- A frame, or none, as the program has it. -/
def fv (o : Option Int) : Int := o.getD (-1)
/-- Which frames are looked for first, and then. -/
def pf (per : Nat) (C : Int → Option Nat) (i : Nat) : Int → Bool := if i = 0 then begun per C else vac C
def fi (per : Nat) (C : Int → Option Nat) (L : List Int) (i : Nat) : Option Int := if i = 0 then none else if i = 1 then L.find? (begun per C) else room per C L

theorem fi_step (per : Nat) (C : Int → Option Nat) (L : List Int) {i : Nat} (hi : i < 2) : (fi per C L i).or (L.find? (pf per C i)) = fi per C L (i + 1) := by
  match i, hi with
  | 0, _ => rfl
  | 1, _ => rfl
theorem find_take (P : Int → Bool) (L : List Int) {i : Nat} (hi : i < L.length) : (L.take (i + 1)).find? P = ((L.take i).find? P).or (if P L[i] then some L[i] else none) := by
  rw [List.take_succ_eq_append_getElem hi, List.find?_append]
  congr 1
  rw [List.find?_cons]; cases P L[i] <;> rfl

theorem fi_nonneg {per : Nat} {C : Int → Option Nat} {L : List Int} (hk : ∀ x ∈ L, 0 ≤ x ∧ x < 256) {i a : Nat} (hi : i < 2) (y : Int) (h : (fi per C L i).or ((L.take a).find? (pf per C i)) = some y) : 0 ≤ y := by
  rcases Option.or_eq_some_iff.1 h with h | ⟨_, h⟩
  · match i, hi with
    | 0, _ => cases h
    | 1, _ => exact (hk y (List.mem_of_find?_eq_some h)).1
  · exact (hk y (List.mem_of_mem_take (List.mem_of_find?_eq_some h))).1
theorem pf_ones0 {per : Nat} {C : Int → Option Nat} (hp : per ≤ 16) (hM : Most per C) (x : Int) : pf per C 0 x = (decide (0 < ones (val C x)) && decide (ones (val C x) < per)) := by
  have hv : val C x < 65536 := Nat.lt_of_lt_of_le (hM.val x) (Nat.pow_le_pow_right (by omega : 0 < 2) hp)
  have hpf : pf per C 0 x = (!decide (val C x = 0) && decide (ones (val C x) < per)) := rfl
  rw [hpf]
  by_cases e : val C x = 0
  · have h0 : ones (val C x) = 0 := by rw [e]; exact ones_zero
    rw [h0, decide_eq_true e, decide_eq_false (Nat.lt_irrefl 0)]; rfl
  · have : 0 < ones (val C x) := Nat.pos_of_ne_zero (fun h => e ((ones_pos hv).1 h))
    rw [decide_eq_false e, decide_eq_true this]; rfl
theorem pf_ones1 {per : Nat} {C : Int → Option Nat} (hp : per ≤ 16) (hM : Most per C) (x : Int) : pf per C 1 x = !decide (0 < ones (val C x)) := by
  have hv : val C x < 65536 := Nat.lt_of_lt_of_le (hM.val x) (Nat.pow_le_pow_right (by omega : 0 < 2) hp)
  have hpf : pf per C 1 x = decide (val C x = 0) := rfl
  rw [hpf]
  by_cases e : val C x = 0
  · have h0 : ones (val C x) = 0 := by rw [e]; exact ones_zero
    rw [h0, decide_eq_true e, decide_eq_false (Nat.lt_irrefl 0)]; rfl
  · have : 0 < ones (val C x) := Nat.pos_of_ne_zero (fun h => e ((ones_pos hv).1 h))
    rw [decide_eq_false e, decide_eq_true this]; rfl

set_option maxRecDepth 100000 in
set_option maxHeartbeats 8000000 in
/-- Its search: up to where a frame is found, or none. -/
theorem rcalloc_ok {w : World} {B rc r f g gt per n m : Nat} {vs : Value} {L : List Int} {C : Int → Option Nat} {U : Nat → Bool} {T : Int → Option Nat} (h : RS w B rc r f g gt per n vs L C U T m) (hm : m < 10000) (hB : B ≤ w.heap.size) :
    Calls Tryd.prog 34 #[pp rc] w fun e w' =>
      ((∃ F, room per C L = some F ∧ e = .returned (.tuple #[.int .i64 (F * per + low (val C F)), .int .i64 0]) ∧ RTurns w B rc r f g gt per n vs w' (putC C F (val C F ||| 2 ^ low (val C F))) U T m) ∨
       (room per C L = none ∧ (∀ j r, mxb U j r → j < 0) ∧ e = .returned (.tuple #[.int .i64 0, .int .i64 12]) ∧ Below w.heap.size w w') ∨
       (room per C L = none ∧ ∃ k q, Best U 0 (q * 2 ^ k) k ∧ e = .returned (.tuple #[.int .i64 (((q * 2 ^ k : Nat) : Int) * per), .int .i64 0]) ∧ RTurns w B rc r f g gt per n vs w' (putC C ((q * 2 ^ k : Nat) : Int) 1) (cut U 0 (q * 2 ^ k)) (fun z => if z = ((q * 2 ^ k : Nat) : Int) then some 0 else T z) (m + 1))) := by
  have hp1 := h.per1
  have hp16 := h.per16
  have c0 := h.c0
  have c1 := h.c1
  have c2 := h.c2
  have c3 := h.c3
  obtain ⟨hk1, hk2⟩ := h.keysIn
  obtain ⟨av, kv, rfl⟩ : ∃ a k, vs = .slice a L.length k := by
    rcases zrow_read h.row with ⟨h', rfl⟩ | ⟨gb, cap, h', _⟩
    · exact ⟨_, _, h'⟩
    · exact ⟨_, _, h'⟩
  have hread : ∀ i, (hi : i < L.length) → ∃ gb, av = some ⟨gb, 0, none⟩ ∧ w.cell? ⟨gb, i, none⟩ = some (.int .i64 L[i]) := by
    intro i hi
    rcases zrow_read h.row with ⟨_, rfl⟩ | ⟨gb, cap, h', _, _, _, _, hz⟩
    · cases hi
    · cases h'; exact ⟨gb, rfl, hz i hi⟩
  have hi0 : ∀ W, (Instr.index 112 (.agg #[.bool true, .bool false]) (.int .i64 0)).run Tryd.prog W = .ok (.bool true) W := fun W => by kernel_rfl
  have hi1 : ∀ W, (Instr.index 112 (.agg #[.bool true, .bool false]) (.int .i64 1)).run Tryd.prog W = .ok (.bool false) W := fun W => by kernel_rfl
  go_enter Tryd.func34, Tryd.ntmps34
  go_wp2_with fail
  go_loopg [4, 13] 2 (fun mm s4 s13 wr => ∃ i q : Nat, i + mm = 2 ∧ s13 = .int .i64 i ∧ s4 = .int .i64 (fv (fi per C L i)) ∧ wr = w.drewN q)
  case atStart => exact ⟨0, 0, by omega, rfl, rfl, rfl⟩
  case round =>
    obtain ⟨i, q, hi, rfl, rfl, hwr⟩ := hrel
    subst wr
    by_cases hlt : (i : Int) < 2
    · rcases (show i = 0 ∨ i = 1 by omega) with rfl | rfl
      · skip
        go_wp2_with fail
        go_loopg [4, 21] L.length (fun mm s4 s21 wr => ∃ a q : Nat, a + mm = L.length ∧ s21 = .int .i64 a ∧ s4 = .int .i64 (fv ((fi per C L 0).or ((L.take a).find? (pf per C 0)))) ∧ wr = w.drewN q)
        case atStart => exact ⟨0, q, by omega, rfl, by simp, rfl⟩
        case round =>
          obtain ⟨a, q2, ha, rfl, rfl, hwr⟩ := hrel
          subst wr
          by_cases hlt2 : (a : Int) < (L.length : Int)
          · have ha' : a < L.length := by omega
            obtain ⟨gb, hgb, hc⟩ := hread a ha'
            subst hgb
            as_aux_lemma =>
              have hx := hk1 L[a] (List.getElem_mem ha')
              have hft := find_take (pf per C 0) L ha'
              have hsub : ∀ y, (fi per C L 0).or ((L.take a).find? (pf per C 0)) = some y → 0 ≤ y := fi_nonneg hk1 (by omega)
              obtain ⟨F, hF⟩ : ∃ F : Nat, L[a] = (F : Int) := ⟨L[a].toNat, by omega⟩
              rw [hF] at hft hc hx
              have hH := fun q => rhas_ok (h.keep (w' := w.drewN q) (fun _ _ => rfl)) F (by omega)
              have hpf := pf_ones0 (per := per) (C := C) h.per16 h.most (F : Int)
              rw [hpf] at hft
              obtain ⟨o, hO⟩ : ∃ o, (fi per C L 0).or ((L.take a).find? (pf per C 0)) = o := ⟨_, rfl⟩
              rw [hO] at hsub
              have hnew : (fi per C L 0).or ((L.take (a + 1)).find? (pf per C 0)) = o.or (if (decide (0 < ones (val C (F : Int))) && decide (ones (val C (F : Int)) < per)) then some (F : Int) else none) := by rw [hft, ← Option.or_assoc, hO]
              rw [hO]
              clear hft hpf hO hF hread
              generalize ones (val C (F : Int)) = k at *
              cases o with
              | some y =>
                have hy0 : ¬ fv (some y) < 0 := by have := hsub y rfl; show ¬ y < 0; omega
                have hnew' : fv ((fi per C L 0).or ((L.take (a + 1)).find? (pf per C 0))) = fv (some y) := by rw [hnew]; rfl
                clear hsub hnew
                generalize fv (some y) = fy at *
                go_wp2_with (go_at_call 60; refine (hH _).mono ?_; rintro e w' ⟨rfl, q', rfl⟩)
                go_roundg (L.length - (a + 1))
                case measure => omega
                case rel => exact ⟨a + 1, q2 + q', by omega, by go_num, by rw [hnew'], rfl⟩
              | none =>
                have hfn : fv none = -1 := rfl
                clear hsub
                rw [hfn]
                by_cases h1 : k < per
                · have h1' : (k : Int) < (per : Int) := by omega
                  by_cases h2 : 0 < k
                  · have h2' : (0 : Int) < (k : Int) := by omega
                    simp only [h1, h2, decide_true, Bool.and_true, if_true, Option.none_or] at hnew
                    go_wp2_with (go_at_call 60; refine (hH _).mono ?_; rintro e w' ⟨rfl, q', rfl⟩)
                    go_roundg (L.length - (a + 1))
                    case measure => omega
                    case rel => exact ⟨a + 1, q2 + q', by omega, by go_num, by rw [hnew]; rfl, rfl⟩
                  · obtain rfl : k = 0 := by omega
                    simp only [Nat.lt_irrefl, h1, decide_false, Bool.false_and, Bool.false_eq_true, if_false, Option.none_or] at hnew
                    go_wp2_with (go_at_call 60; refine (hH _).mono ?_; rintro e w' ⟨rfl, q', rfl⟩)
                    go_roundg (L.length - (a + 1))
                    case measure => omega
                    case rel => exact ⟨a + 1, q2 + q', by omega, by go_num, by rw [hnew]; rfl, rfl⟩
                · have h1' : ¬ (k : Int) < (per : Int) := by omega
                  have h2 : 0 < k := by omega
                  have h2' : (0 : Int) < (k : Int) := by omega
                  simp only [h1, h2, decide_true, decide_false, Bool.and_false, Bool.false_eq_true, if_false, Option.none_or] at hnew
                  go_wp2_with (go_at_call 60; refine (hH _).mono ?_; rintro e w' ⟨rfl, q', rfl⟩)
                  go_roundg (L.length - (a + 1))
                  case measure => omega
                  case rel => exact ⟨a + 1, q2 + q', by omega, by go_num, by rw [hnew]; rfl, rfl⟩
          · as_aux_lemma =>
              have hst := fi_step per C L (i := 0) (by omega)
              rw [List.take_of_length_le (by omega), hst]
              go_wp2_with fail
              go_roundg (2 - (0 + 1))
              case measure => omega
              case rel => exact ⟨0 + 1, q2, by omega, by go_num, rfl, rfl⟩
      · skip
        go_wp2_with fail
        go_loopg [4, 21] L.length (fun mm s4 s21 wr => ∃ a q : Nat, a + mm = L.length ∧ s21 = .int .i64 a ∧ s4 = .int .i64 (fv ((fi per C L 1).or ((L.take a).find? (pf per C 1)))) ∧ wr = w.drewN q)
        case atStart => exact ⟨0, q, by omega, rfl, by simp, rfl⟩
        case round =>
          obtain ⟨a, q2, ha, rfl, rfl, hwr⟩ := hrel
          subst wr
          by_cases hlt2 : (a : Int) < (L.length : Int)
          · have ha' : a < L.length := by omega
            obtain ⟨gb, hgb, hc⟩ := hread a ha'
            subst hgb
            as_aux_lemma =>
              have hx := hk1 L[a] (List.getElem_mem ha')
              have hft := find_take (pf per C 1) L ha'
              have hsub : ∀ y, (fi per C L 1).or ((L.take a).find? (pf per C 1)) = some y → 0 ≤ y := fi_nonneg hk1 (by omega)
              obtain ⟨F, hF⟩ : ∃ F : Nat, L[a] = (F : Int) := ⟨L[a].toNat, by omega⟩
              rw [hF] at hft hc hx
              have hH := fun q => rhas_ok (h.keep (w' := w.drewN q) (fun _ _ => rfl)) F (by omega)
              have hpf := pf_ones1 (per := per) (C := C) h.per16 h.most (F : Int)
              rw [hpf] at hft
              obtain ⟨o, hO⟩ : ∃ o, (fi per C L 1).or ((L.take a).find? (pf per C 1)) = o := ⟨_, rfl⟩
              rw [hO] at hsub
              have hnew : (fi per C L 1).or ((L.take (a + 1)).find? (pf per C 1)) = o.or (if (!decide (0 < ones (val C (F : Int)))) then some (F : Int) else none) := by rw [hft, ← Option.or_assoc, hO]
              rw [hO]
              clear hft hpf hO hF hread
              generalize ones (val C (F : Int)) = k at *
              cases o with
              | some y =>
                have hy0 : ¬ fv (some y) < 0 := by have := hsub y rfl; show ¬ y < 0; omega
                have hnew' : fv ((fi per C L 1).or ((L.take (a + 1)).find? (pf per C 1))) = fv (some y) := by rw [hnew]; rfl
                clear hsub hnew
                generalize fv (some y) = fy at *
                go_wp2_with (go_at_call 60; refine (hH _).mono ?_; rintro e w' ⟨rfl, q', rfl⟩)
                go_roundg (L.length - (a + 1))
                case measure => omega
                case rel => exact ⟨a + 1, q2 + q', by omega, by go_num, by rw [hnew'], rfl⟩
              | none =>
                have hfn : fv none = -1 := rfl
                clear hsub
                rw [hfn]
                by_cases h1 : k < per
                · have h1' : (k : Int) < (per : Int) := by omega
                  by_cases h2 : 0 < k
                  · have h2' : (0 : Int) < (k : Int) := by omega
                    simp only [h2, decide_true, Bool.not_true, Bool.false_eq_true, if_false, Option.none_or] at hnew
                    go_wp2_with (go_at_call 60; refine (hH _).mono ?_; rintro e w' ⟨rfl, q', rfl⟩)
                    go_roundg (L.length - (a + 1))
                    case measure => omega
                    case rel => exact ⟨a + 1, q2 + q', by omega, by go_num, by rw [hnew]; rfl, rfl⟩
                  · obtain rfl : k = 0 := by omega
                    simp only [Nat.lt_irrefl, decide_false, Bool.not_false, if_true, Option.none_or] at hnew
                    go_wp2_with (go_at_call 60; refine (hH _).mono ?_; rintro e w' ⟨rfl, q', rfl⟩)
                    go_roundg (L.length - (a + 1))
                    case measure => omega
                    case rel => exact ⟨a + 1, q2 + q', by omega, by go_num, by rw [hnew]; rfl, rfl⟩
                · have h1' : ¬ (k : Int) < (per : Int) := by omega
                  have h2 : 0 < k := by omega
                  have h2' : (0 : Int) < (k : Int) := by omega
                  simp only [h2, decide_true, Bool.not_true, Bool.false_eq_true, if_false, Option.none_or] at hnew
                  go_wp2_with (go_at_call 60; refine (hH _).mono ?_; rintro e w' ⟨rfl, q', rfl⟩)
                  go_roundg (L.length - (a + 1))
                  case measure => omega
                  case rel => exact ⟨a + 1, q2 + q', by omega, by go_num, by rw [hnew]; rfl, rfl⟩
          · as_aux_lemma =>
              have hst := fi_step per C L (i := 1) (by omega)
              rw [List.take_of_length_le (by omega), hst]
              go_wp2_with fail
              go_roundg (2 - (1 + 1))
              case measure => omega
              case rel => exact ⟨1 + 1, q2, by omega, by go_num, rfl, rfl⟩
    · obtain rfl : i = 2 := by omega
      have hfi : fi per C L 2 = room per C L := rfl
      rw [hfi]
      go_upto_if 48 with fail
      go_cut [4] (fun s4 wc => ∃ (F : Nat) (vs' : Value) (L' : List Int) (C1 : Int → Option Nat) (U1 : Nat → Bool) (T1 : Int → Option Nat) (m1 : Nat), s4 = .int .i64 (F : Int) ∧ F < n ∧ (C1 (F : Int)).isSome = true ∧ ones (val C1 (F : Int)) < per ∧ RS wc B rc r f g gt per n vs' L' C1 U1 T1 m1 ∧ ∀ w', RTurns wc B rc r f g gt per n vs' w' (putC C1 (F : Int) (val C1 (F : Int) ||| 2 ^ low (val C1 (F : Int)))) U1 T1 m1 →
        ((∃ F', room per C L = some F' ∧ Ending.returned (.tuple #[.int .i64 ((F : Int) * per + low (val C1 (F : Int))), .int .i64 0]) = .returned (.tuple #[.int .i64 (F' * per + low (val C F')), .int .i64 0]) ∧ RTurns w B rc r f g gt per n (.slice av L.length kv) w' (putC C F' (val C F' ||| 2 ^ low (val C F'))) U T m) ∨
         (room per C L = none ∧ ∃ k q, Best U 0 (q * 2 ^ k) k ∧ Ending.returned (.tuple #[.int .i64 ((F : Int) * per + low (val C1 (F : Int))), .int .i64 0]) = .returned (.tuple #[.int .i64 (((q * 2 ^ k : Nat) : Int) * per), .int .i64 0]) ∧ RTurns w B rc r f g gt per n (.slice av L.length kv) w' (putC C ((q * 2 ^ k : Nat) : Int) 1) (cut U 0 (q * 2 ^ k)) (fun z => if z = ((q * 2 ^ k : Nat) : Int) then some 0 else T z) (m + 1))))
      case first =>
        cases hr : room per C L with
        | some F0 =>
          as_aux_lemma =>
            obtain ⟨hf, ho⟩ := room_in hp1 hr
            have hfs := (h.keys.2 F0).1 hf
            have hfn := h.within F0 hfs
            obtain ⟨F, rfl⟩ : ∃ F : Nat, F0 = (F : Int) := ⟨F0.toNat, by omega⟩
            have hf0 : fv (some (F : Int)) = (F : Int) := rfl
            have hf1 : ¬ (F : Int) < 0 := by omega
            rw [hf0]
            go_wp2_with fail
            go_meet
            case rel =>
              refine ⟨F, _, L, C, U, T, m, rfl, by omega, hfs, ho, h.keep (fun _ _ => rfl), fun w' t => .inl ⟨(F : Int), hr, rfl, ?_⟩⟩
              obtain ⟨vs', L', s', fr', sub'⟩ := t
              exact ⟨vs', L', s', (Fr.drewN _ w q).trans fr' (fun _ _ h => h), sub'⟩
        | none =>
          have hf0 : fv none = -1 := rfl
          rw [hf0]
          have hpool := h.pool.keep (w' := w.drewN q) (fun _ _ => rfl)
          as_aux_lemma =>
            go_wp2_with fail
            refine (ralloc_ok hpool hm 0 (by omega)).mono ?_
            rintro e w5 (⟨hno, rfl, hb⟩ | ⟨k, q0, hBest, rfl, R5, F5⟩)
            · go_wp2_with fail
              go_ret2
              exact .inr (.inl ⟨hr, hno, rfl, ⟨hb.os, hb.tape, hb.output, hb.size, hb.block⟩⟩)
            · obtain ⟨z, hz⟩ : ∃ z, q0 * 2 ^ k = z := ⟨_, rfl⟩
              rw [Nat.sub_zero] at R5
              have hbz : blk U 0 z := by
                obtain ⟨⟨q', hq', hx⟩, _, _⟩ := hBest
                have hb := (blk_part hx.2.1 (Nat.zero_le k)).1
                rw [Nat.sub_zero, ← hq', hz] at hb; exact hb
              rw [hz] at R5
              simp only [hz]
              have F5' : Fr (rown r f g) w w5 := (Fr.drewN _ w q).trans F5 (fun _ _ h => h)
              have row5 : w5.ownsRow B 3 1 (.slice av L.length kv) L.length (L.map encZ) := by
                refine ⟨h.row.1, ?_⟩
                rcases h.row.2 with h' | ⟨gb, cap, cur, e, hN, hg, rest⟩
                · exact .inl h'
                · cases e; exact .inr ⟨gb, _, cur, rfl, hN, (F5'.block gb (lt_of_heap hg) (h.vsr gb rfl).1).trans hg, rest⟩
              have c35 : w5.cell? ⟨rc, 3, none⟩ = some (.slice av L.length kv) := by rw [World.cell?_of_block (w := w) (a := ⟨rc, 3, none⟩) (F5'.block rc (h.lt (.inl rfl)) h.rcr)]; exact h.c3
              have hnews := new_one w5 (.int .i64 (z : Int)) 3
              have h63 : L.length + 1 ≤ maxLen := by unfold maxLen; omega
              have hby : (L.length + 1) * 8 ≤ 140737488355328 := by omega
              have hbase : B ≤ (w5.alloc (.cells #[.int .i64 (z : Int)] 3)).heap.size := by have := F5'.size; simp; omega
              have h1c : ∀ u ∈ ([.int .i64 (z : Int)] : List Value), u.oneCell' = true := by intro u hu; rw [List.mem_singleton] at hu; rw [hu]; rfl
              have hGrow := fun (w7 : World) (v7 : Value) hg7 ho7 hv7 => h.grow (w7 := w7) (v7 := v7) (o := .cells #[.int .i64 (z : Int)] 3) hbz R5 F5' hg7 ho7 hv7
              have hlz : (L ++ [(z : Int)]).length < 4611686018427387904 := by simp; omega
              generalize L ++ [(z : Int)] = Lz at hGrow hlz
              obtain ⟨i0, hi, hz0, hz1, hz2⟩ := info_parts (P := Tryd.prog) (e := 3) (z := .int .i64 0) (size := 1) (bytes := 8) (by kernel_rfl)
              have row6 := World.ownsRow.alloc row5 (.cells #[.int .i64 (z : Int)] 3)
              clear hread hi0 hi1
              go_wp2_with (at_builtin; refine wpList_append_own_at _ rfl _ _ 56 rfl B 3 i0 (.int .i64 0) 1 8 Tryd.underlying56 hi hz0 hz1 hz2 rfl (by decide) _ _ _ rfl row6 ⟨w5.heap.size, 0, none⟩ 1 1 [.int .i64 (z : Int)] rfl rfl hnews h1c h63 hby hbase ?_; intro v7 w7 ho7 hg7 hnil7 hv7; obtain ⟨g7, cap7, rfl, d3, f3, hCz, hzn, hset, hH, hlt7, hfin⟩ := hGrow w7 v7 hg7 ho7 hv7; have hset' := hset (.slice (some ⟨g7, 0, none⟩) Lz.length cap7))
              refine (Any.sort_Ints Tryd.intsL g7 0 cap7 Lz _ hH hlt7 hlz).mono ?_
              rintro e w9 ⟨rfl, nn, os, rfl⟩
              obtain ⟨RS9, F9, sub9⟩ := hfin nn os
              have hv9 : val (putC C (z : Int) 0) (z : Int) = 0 := by rw [val_put, if_pos rfl]
              have hl0 : low 0 = 0 := by decide +kernel
              go_wp2_with fail
              go_meet
              case rel =>
                refine ⟨z, _, _, _, _, _, _, rfl, hzn, by simp [putC], by rw [hv9, ones_zero]; exact hp1, RS9, fun w' t => .inr ⟨hr, k, q0, hBest, by simp only [hz, hv9, hl0]; simp, ?_⟩⟩
                obtain ⟨vs', L', s', fr', sub'⟩ := t
                simp only [hv9, hl0, put_twice] at s'
                simp only [hz]
                refine ⟨vs', L', s', F9.trans fr' (fun i hi h' => sub9 i hi h'), fun i hi h' => sub9 i hi (sub' i (Nat.lt_of_lt_of_le hi F9.size) h')⟩
      case rest =>
        as_aux_lemma =>
          clear hread hi0 hi1 c0 c1 c2 c3 hk1 hk2 hfi
          obtain ⟨F, vs', L', C1, U1, T1, m1, rfl, hFn, hFs, hFo, h', hfin⟩ := hcut
          have hn := h'.n256
          have hv : val C1 (F : Int) < 65536 := Nat.lt_of_lt_of_le (h'.most.val _) (Nat.pow_le_pow_right (by omega : 0 < 2) hp16)
          have hll := low_lt hp16 (h'.most.val (F : Int)) hFo
          obtain ⟨_, hlb, hla⟩ := low_spec hv
          obtain ⟨y, hy⟩ : ∃ y, F * per = y := ⟨_, rfl⟩
          have hyI : (F : Int) * (per : Int) = (y : Int) := by rw [← hy]; simp
          have hy4 : y ≤ 4096 := by
            have := Nat.mul_le_mul (show F ≤ 256 by omega) hp16; omega
          have hbit : ∀ k : Nat, k < per → isT per C1 ((y : Int) + (k : Int)) = (val C1 (F : Int)).testBit k := fun k hk => by rw [← hyI]; exact isT_at hk
          have hadd : (fun i => if i = (y : Int) + (low (val C1 (F : Int)) : Nat) then some (.int .i64 1) else th per C1 i) = th per (putC C1 (F : Int) (val C1 (F : Int) ||| 2 ^ low (val C1 (F : Int)))) := by
            funext i
            have h1 := isT_add (per := per) (C := C1) (f := (F : Int)) (l := low (val C1 (F : Int))) (by omega) hll i
            rw [hyI] at h1
            unfold th
            by_cases e : i = (y : Int) + (low (val C1 (F : Int)) : Nat)
            · rw [if_pos e, h1.2 (.inr e)]; rfl
            · rw [if_neg e]
              have : isT per (putC C1 (F : Int) (val C1 (F : Int) ||| 2 ^ low (val C1 (F : Int)))) i = isT per C1 i := by
                apply Bool.eq_iff_iff.2; rw [h1]; exact ⟨fun h => h.resolve_right e, fun h => .inl h⟩
              rw [this]
          have hno : (th per C1 ((y : Int) + (low (val C1 (F : Int)) : Nat))).isSome = false := by unfold th; rw [hbit _ hll, hlb]; rfl
          have htot := tot_put (n := n) hFn (ones_put (show low (val C1 (F : Int)) < 16 by omega) hlb)
          have hmx : tot C1 n < maxLen := by
            have h1 := tot_le (n := n) hp16 h'.most
            have h2 := num_le C1 n
            have h3 := Nat.mul_le_mul (show num C1 n ≤ 256 by omega) hp16
            unfold maxLen; omega
          have hmost := h'.most.put (f := (F : Int)) (put_lt (h'.most.val (F : Int)) hll)
          have d1 := h'.c1
          have d2 := h'.c2
          have hmap := h'.map
          rw [hyI] at hfin
          clear hy h
          generalize hC2 : putC C1 (F : Int) (val C1 (F : Int) ||| 2 ^ low (val C1 (F : Int))) = C2 at *
          generalize hlw : low (val C1 (F : Int)) = l at *
          go_wp2_with fail
          obtain ⟨W, rfl⟩ : ∃ W, W = wc := ⟨_, rfl⟩
          go_loopg [11] (l + 1) (fun mm s11 wr => ∃ j : Nat, j + mm = l + 1 ∧ j ≤ l ∧ s11 = .int .i64 ((y : Int) + (j : Int)) ∧ wr = W)
          case atStart => exact ⟨0, by omega, by omega, by simp, rfl⟩
          case round =>
            obtain ⟨j, hj, hjl, rfl, hwr⟩ := hrel
            subst wr
            have hwf : (Lit.int .i64 ((y : Int) + (j : Int))).wf = true := wf_small (by omega) (by omega)
            have hth := th_val per C1 ((y : Int) + (j : Int))
            rw [hbit j (by omega)] at hth
            by_cases hlt3 : j < l
            · rw [hla j hlt3] at hth
              simp only [if_true] at hth
              go_wp2_with (at_lookup; refine wpList_klook rfl _ _ 65 rfl 3 Tryd.underlying65 _ (zero_int _) gt (tot C1 n) (th per C1) rfl hmap ((y : Int) + (j : Int)) rfl hwf ?_; rw [hth])
              go_roundg (l + 1 - (j + 1))
              case measure => omega
              case rel => exact ⟨j + 1, by omega, by omega, by go_num, rfl⟩
            · obtain rfl : j = l := by omega
              rw [hlb] at hth
              simp only [Bool.false_eq_true, if_false] at hth
              clear hbit hla hjl
              go_wp2_with (first
                | (at_lookup; refine wpList_klook rfl _ _ 65 rfl 3 Tryd.underlying65 _ (zero_int _) gt (tot C1 n) (th per C1) rfl hmap ((y : Int) + (j : Int)) rfl hwf ?_; rw [hth])
                | (at_mapUpdate; refine wpList_kput rfl _ _ _ 65 rfl 3 Tryd.underlying65 gt (tot C1 n) (th per C1) rfl hmap hmx ((y : Int) + (j : Int)) rfl hwf (.int .i64 1) rfl ?_; intro w5 pm5 g5; rw [hno, hadd] at pm5))
              go_ret2
              have t : RTurns W B rc r f g gt per n vs' w5 C2 U1 T1 m1 := by
                refine ⟨vs', L', ⟨?_, ?_, ⟨h'.row.1, ?_⟩, ?_, ⟨h'.keys.1, fun x => ?_⟩, h'.inv, fun x hx => ?_, h'.per1, h'.per16, hmost, h'.rcr, h'.gtr, h'.vsr⟩, (Fr.grown g5).mono (fun i _ e => .inr (.inr (.inl e))), fun _ _ hi => hi⟩
                · exact (g5.block rc (h'.lt (.inl rfl)) (fun e => h'.rcgt (Option.some.inj e))).trans h'.head
                · rw [htot]; simpa using pm5
                · rcases h'.row.2 with h0 | ⟨gb, cap, cur, rfl, hN, hg, rest⟩
                  · exact .inl h0
                  · exact .inr ⟨gb, cap, cur, rfl, hN, (g5.block gb (lt_of_heap hg) (fun e => (h'.vsr gb rfl).2.2 (Option.some.inj e))).trans hg, rest⟩
                · exact h'.pool.keep (fun i hi => g5.block i (h'.pool.lt hi) (fun e => h'.gtr (by cases e; exact hi)))
                · rw [h'.keys.2 x, ← hC2]; unfold putC; split
                  · rename_i e; rw [e, hFs]; simp
                  · exact Iff.rfl
                · refine h'.tk x ?_
                  rw [← hC2] at hx
                  unfold putC at hx; split at hx
                  · rename_i e; rw [e]; exact hFs
                  · exact hx
              rcases hfin w5 t with hx | hx
              · exact .inl hx
              · exact .inr (.inr hx)
end Go.Proofs.YthknommfnajeiaaDoor
