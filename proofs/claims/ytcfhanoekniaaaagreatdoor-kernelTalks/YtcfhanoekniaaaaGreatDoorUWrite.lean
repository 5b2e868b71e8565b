/- Package tree: Write, by its Go text. -/
import Derived.Test.YtcfhanoekniaaaaGreatDoorUBytes
import Derived.Laws.IdiomCopy
import Derived.Laws.MakeOwn
namespace Go.Proofs.YtcfhanoekniaaaaGreatDoor
open Go.RowKit Go.Maps

section
variable {w w' : World} {v : Value} {l : List UInt8}

/-- Bytes that are made: all 0. -/
theorem bfr_zero (w : World) (N : Nat) (hN : N ≤ 1000) : ∃ w', (Instr.makeSlice 300 (.int .i64 (N : Int)) (.int .i64 (N : Int))).run Tryz.prog w = .ok (.slice (some ⟨w.heap.size, 0, none⟩) N N) w' ∧ Bfr w' w.heap.size (.slice (some ⟨w.heap.size, 0, none⟩) N N) (List.replicate N 0) ∧ Below w.heap.size w w' := by
  obtain ⟨i, hi, hz, hs, hb⟩ := info_parts (P := Tryz.prog) (e := 5) (z := .int .u8 0) (size := 1) (bytes := 1) (by kernel_rfl)
  have hr := run_make (P := Tryz.prog) w 300 5 i _ Tryz.underlying300 hi hz .i64 .i64 (N : Int) (N : Int) (by omega) (by omega) (by rw [hb]; omega) (by omega)
  rw [hs, Int.toNat_natCast, Nat.mul_one] at hr
  refine ⟨_, hr, ?_, (Below.refl _ _).alloc (Nat.le_refl _) _⟩
  have hnew : (w.alloc (.cells (madeCells (Value.int .u8 0).cells N) 5)).heap[w.heap.size]? = some (.cells (madeCells (Value.int .u8 0).cells N) 5) := World.alloc_heap_new _ _
  have hsz : (madeCells (Value.int .u8 0).cells N).size = N := size_madeCells _ _
  have hel : ∀ j (hj : j < N), (madeCells (Value.int .u8 0).cells N)[j]? = some (.int .u8 0) := fun j hj => by
    simp [madeCells, Value.cells, hj, Nat.mod_one]
  refine ⟨w.heap.size, N, by simp, Nat.le_refl _, by simp, by simp, fun j hj => ?_, fun j hj => ⟨?_, ?_⟩⟩
  · rw [cell_of_row _ _ j _ _ _ hnew, hel j (by simpa using hj)]; simp
  · rw [cell_of_row _ _ j _ _ _ hnew, hel j hj]; rfl
  · unfold World.frozen?
    simp only [hnew]
    simp

/-- Bytes copied in, at their beginning. -/
theorem Bfr.copyB {g cap B : Nat} {b : List UInt8} {u : Value} (h : Bfr w B (.slice (some ⟨g, 0, none⟩) l.length cap) l) (hr : Rdb w u b) (hb : b.length ≤ l.length) (ty : TypeId) :
    (Builtin.copy_ #[300, 300] ty #[.slice (some ⟨g, 0, none⟩) l.length cap, u]).run Tryz.prog w = .ok (.int .i64 (b.length : Int)) (w.setCells g 0 (u8s b)) := by
  obtain ⟨g', cap', e, hB, hlt, hcap, h1, h2⟩ := h
  cases e
  obtain ⟨a, c, rfl, hc, hx⟩ := hr
  have hu : (u8s b).length = b.length := by unfold u8s; rw [List.length_map]
  have hsz : (Tryz.prog.info? 5).map (·.size) = some 1 := by kernel_rfl
  rcases hx with ⟨rfl, rfl, rfl⟩ | ⟨g2, o, rfl, hi⟩
  · exact run_copy_none (P := Tryz.prog) w 300 300 ty 5 _ none l.length cap 0 0 Tryz.underlying300 hsz (Nat.zero_min _)
  · have := run_copy_cells (P := Tryz.prog) w 300 300 ty 5 g 0 l.length cap ⟨g2, o, none⟩ b.length c (u8s b) Tryz.underlying300 hsz (by rw [hu]; exact (Nat.min_eq_left hb).symm) (fun j x hj => by
      obtain ⟨hjl, rfl⟩ := u8s_get hj
      rw [Addr.add_lit]; exact hi j hjl) (fun j hj => (h2 _ (by rw [hu] at hj; omega)).1) (fun j hj => (h2 _ (by rw [hu] at hj; omega)).2) (fun x hx => by
      unfold u8s at hx
      obtain ⟨y, _, rfl⟩ := List.mem_map.1 hx
      rfl)
    rw [hu] at this
    exact this
theorem Bfr.dat {B : Nat} (h : Bfr w B v l) : Dat w v l := by
  obtain ⟨g, cap, rfl, _, hlt, hc, h1, _⟩ := h
  exact .inr ⟨g, cap, rfl, hc, hlt, h1⟩
end

theorem max_run (ts : Array TypeId) (ty : TypeId) (x y : Int) (k : Nat) (h : (k : Int) = max x y) (W : World) : (Builtin.max_ ts ty #[.int .i64 x, .int .i64 y]).run Tryz.prog W = .ok (.int .i64 (k : Int)) W := by
  rw [run_max_int2]
  congr 2
  by_cases e : y > x
  · rw [if_pos e]; omega
  · rw [if_neg e]; omega

/-- All that Write does with bytes, ahead of its walk. -/
theorem write_bytes {w : World} {u : Value} {b x : List UInt8} (hd : Rdb w u b) (hul : ∀ g o l c, u = .slice (some ⟨g, o, none⟩) l c → g < w.heap.size) (a : Nat) (hx : x ≠ []) (hb : b.length ≤ 256) (hax : a + x.length ≤ 200) :
    ∃ N w1 w2 w3, max b.length (a + x.length) = N ∧ (Instr.makeSlice 300 (.int .i64 (N : Int)) (.int .i64 (N : Int))).run Tryz.prog w = .ok (.slice (some ⟨w.heap.size, 0, none⟩) N N) w1 ∧
      (∀ ty, (Builtin.copy_ #[300, 300] ty #[.slice (some ⟨w.heap.size, 0, none⟩) N N, u]).run Tryz.prog w1 = .ok (.int .i64 (b.length : Int)) w2) ∧
      (∀ W, (Instr.slice 300 (.slice (some ⟨w.heap.size, 0, none⟩) N N) (some (.int .i64 (a : Int))) none none).run Tryz.prog W = .ok (.slice (some ⟨w.heap.size, a, none⟩) (N - a) (N - a)) W) ∧
      (∀ ty, (Builtin.copy_ #[300, 9] ty #[.slice (some ⟨w.heap.size, a, none⟩) (N - a) (N - a), tx x]).run Tryz.prog w2 = .ok (.int .i64 (x.length : Int)) w3) ∧
      Dat w3 (.slice (some ⟨w.heap.size, 0, none⟩) N N) (overT b a x) ∧ Below w.heap.size w w1 ∧ Below w.heap.size w w2 ∧ Below w.heap.size w w3 := by
  have hxl : 1 ≤ x.length := List.length_pos_iff.2 hx
  obtain ⟨N, hN⟩ : ∃ N, max b.length (a + x.length) = N := ⟨_, rfl⟩
  obtain ⟨w1, hmk, hz, b1⟩ := bfr_zero w N (by omega)
  have hlen : (List.replicate N (0 : UInt8)).length = N := List.length_replicate
  have hz' : Bfr w1 w.heap.size (.slice (some ⟨w.heap.size, 0, none⟩) (List.replicate N (0 : UInt8)).length N) (List.replicate N 0) := by rw [hlen]; exact hz
  have hr1 : Rdb w1 u b := by
    obtain ⟨aa, c, rfl, hc, hx⟩ := hd
    refine ⟨aa, c, rfl, hc, ?_⟩
    rcases hx with h | ⟨g, o, rfl, hi⟩
    · exact .inl h
    · exact .inr ⟨g, o, rfl, fun j hj => by rw [b1.cell (p := ⟨g, o + j, none⟩) (hul _ _ _ _ rfl)]; exact hi j hj⟩
  have hc1 := fun ty => hz'.copyB hr1 (by rw [hlen]; omega) ty
  rw [hlen] at hc1
  have k1 := (hz'.copy rfl 0 b (by rw [hlen]; omega) 3).2.1
  have hpad : (List.replicate N (0 : UInt8)).take 0 ++ b ++ (List.replicate N (0 : UInt8)).drop (0 + b.length) = padT b (a + x.length) := by
    unfold padT
    simp only [List.take_zero, List.nil_append, Nat.zero_add, List.drop_replicate]
    rw [show N - b.length = a + x.length - b.length by omega]
  rw [hpad, hlen] at k1
  have hpl : (padT b (a + x.length)).length = N := by rw [padT_len]; exact hN
  have k1' : Bfr (w1.setCells w.heap.size 0 (u8s b)) w.heap.size (.slice (some ⟨w.heap.size, 0, none⟩) (padT b (a + x.length)).length N) (padT b (a + x.length)) := by rw [hpl]; exact k1
  have k2 := fun ty => k1'.copy rfl a x (by rw [hpl]; omega) ty
  rw [hpl] at k2
  refine ⟨N, w1, _, _, hN, hmk, hc1, fun W => ?_, fun ty => (k2 ty).1, (k2 3).2.1.dat, b1, below_setCells' (Nat.le_refl _) _ _ _ b1, below_setCells' (Nat.le_refl _) _ _ _ (below_setCells' (Nat.le_refl _) _ _ _ b1)⟩
  rw [run_slice_l (P := Tryz.prog) W 300 _ N N under_u8 .i64 (a : Int) (by omega) (by omega), elem_u8, size_u8]
  have hne : ¬ N = a := by omega
  simp [Result.andThen, sliced, hne, Addr.add]
  omega

section
variable {w w' : World} {r gN s : Nat} {T : Wd} {Z : Int → Nat} {B G : Int → Nat} {V : Int → Value} {O : Nat → Prop}

set_option maxRecDepth 100000 in
set_option maxHeartbeats 4000000 in
theorem PT.write_ok (h : PT w r T O) (hT : TrLv T) (n a : Int) (x : List UInt8) (hw : (Lit.int .i64 n).wf = true) (hxl : x.length < 100000) :
    Calls Tryz.prog 147 #[wp r, .int .i64 n, .int .i64 a, tx x] w fun e w' => e = .returned (uev (writeE T n a x)) ∧ ∃ O', PT w' r (writeN T n a x) O' ∧ Stp w w' O O' := by
  have hfin : writeE T n a x ≠ 0 ∨ x = [] → ∃ O', PT w r (writeN T n a x) O' ∧ Stp w w O O' := fun hh => ⟨O, by unfold writeN; rw [if_pos hh]; exact h, .refl _ _⟩
  obtain ⟨gN, s, B, G, V, h⟩ := h
  by_cases hz : fileT T n = 0
  · obtain ⟨b, y, hn⟩ := fileT_zero hz
    have hF := h.file_ok n hw hn
    obtain ⟨_, n1, _⟩ := h.fcell hn
    have nf := h.nfrozen hn 1
    have hEq : writeE T n a x = if a < 0 then 2 else if 200 - (x.length : Int) < a then 4 else 0 := by
      unfold writeE; rw [if_neg (fun e => e hz)]
      by_cases ha : a < 0
      · rw [if_pos ha, if_pos ha]
      · rw [if_neg ha, if_neg ha]
        by_cases hl : 200 - (x.length : Int) < a
        · rw [if_pos (.inr hl), if_pos hl]
        · rw [if_neg hl, if_neg (fun e => by rcases e with e | e <;> omega)]
    have hwr : wrap64 (200 - (x.length : Int)) = 200 - (x.length : Int) := by unfold wrap64; omega
    by_cases ha : a < 0
    · rw [if_pos ha] at hEq
      rw [hEq]
      have hf := hfin (.inl (by rw [hEq]; decide))
      clear hn hz hEq hT
      go_enter Tryz.func147, Tryz.ntmps147
      go_wp2_with (go_at_call 242; refine hF.mono ?_; rintro e w' ⟨rfl, hw'⟩; subst w')
      go_ret
      exact ⟨rfl, hf⟩
    · rw [if_neg ha] at hEq
      by_cases hl : 200 - (x.length : Int) < a
      · rw [if_pos hl] at hEq
        rw [hEq]
        have hf := hfin (.inl (by rw [hEq]; decide))
        clear hn hz hEq hT
        go_enter Tryz.func147, Tryz.ntmps147
        go_wp2_with (go_at_call 242; refine hF.mono ?_; rintro e w' ⟨rfl, hw'⟩; subst w')
        go_ret
        exact ⟨rfl, hf⟩
      · rw [if_neg hl] at hEq
        rw [hEq, uev_zero]
        by_cases hx : x = []
        · have hf := hfin (.inr hx)
          subst hx
          clear hn hz hEq hT
          go_enter Tryz.func147, Tryz.ntmps147
          go_wp2_with (go_at_call 242; refine hF.mono ?_; rintro e w' ⟨rfl, hw'⟩; subst w')
          go_ret
          exact ⟨rfl, hf⟩
        · have hxe : (x == []) = false := by simp [hx]
          obtain ⟨A, rfl⟩ : ∃ A : Nat, a = A := ⟨a.toNat, by omega⟩
          have hsm := hT.small n b y hn
          have hdat := h.data n b y hn
          obtain ⟨N, w1, w2, w3, hN, hmk, hc1, hsl, hc2, hd3, b1, b2, b3⟩ := write_bytes hdat.rdb (fun g o l c e => hdat.lt (i := g) (by rw [e]; rfl)) A hx hsm.1 (by omega)
          obtain ⟨u0, c0, hv⟩ := hdat.len
          have m1 := fun ts ty => max_run ts ty (b.length : Int) ((A : Int) + (x.length : Int)) N (by omega)
          have hwr2 : wrap64 ((A : Int) + (x.length : Int)) = (A : Int) + (x.length : Int) := by unfold wrap64; omega
          have h3 := h.below b3
          obtain ⟨V', O', h4, hO'⟩ := h3.bytes hn hd3
          have hU : writeN T n (A : Int) x = setT T n (.file (overT b A x) y) := by
            unfold writeN; rw [if_neg (fun e => e.elim (fun e => e hEq) hx), hn]
            simp
          have hfin4 : ∃ O', PT (w3.setCell ⟨B n, 1, none⟩ (.slice (some ⟨w.heap.size, 0, none⟩) N N)) r (writeN T n (A : Int) x) O' ∧ Stp w (w3.setCell ⟨B n, 1, none⟩ (.slice (some ⟨w.heap.size, 0, none⟩) N N)) O O' := by
            rw [hU]
            refine ⟨O', ⟨gN, s, B, G, V', h4.as rfl (fun k _ => cnt_setF hn k)⟩, ((Stp.below b3).trans (.cell _ (h.ownB n (by rw [hn]; rfl)))).wt, fun i hi => ?_⟩
            rcases (hO' i).1 hi with e | e
            · exact .inl e
            · right; cases e; exact Nat.le_refl _
          have c1 : w1.cell? ⟨B n, 1, none⟩ = some (.slice u0 b.length c0) := by rw [b1.cell (p := ⟨B n, 1, none⟩) (h.lt _ (h.ownB n (by rw [hn]; rfl)))]; rw [n1, hv]
          have f3 := h3.nfrozen hn 1
          have c3 := (h3.fcell hn).2.1
          rw [hv] at n1 hc1 c3
          clear h4 hU h3 hn hz hEq hT hdat hd3 hfin h hv
          go_enter Tryz.func147, Tryz.ntmps147
          go_wp2_with (go_at_call 242; refine hF.mono ?_; rintro e w' ⟨rfl, hw'⟩; subst w')
          go_ret
          exact ⟨rfl, hfin4⟩
  · have hF := h.file_bad n hw hz
    have hEq : writeE T n a x = fileT T n := by unfold writeE; rw [if_pos hz]
    have hf := hfin (.inl (by rw [hEq]; exact hz))
    rw [hEq, uev_ne hz]
    generalize fileT T n = z at *
    go_enter Tryz.func147, Tryz.ntmps147
    go_wp2_with (go_at_call 242; refine hF.mono ?_; rintro e w' ⟨rfl, hw'⟩; subst w')
    go_ret
    exact ⟨rfl, hf⟩
end
end Go.Proofs.YtcfhanoekniaaaaGreatDoor
