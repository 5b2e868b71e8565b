/- AcctPlays: the walk of its Go text. -/
import Derived.Test.YtfejiehkpikieaaDoorAppends
import Derived.Deep.RegionHeld3
import Derived.WalkSmall
import Derived.Deep.CutBlock
namespace Go.Proofs.YtfejiehkpikieaaDoor
open Go.RowKit

/-- One item of the script. -/
structure Item where
  what : Int
  a : Int
  b : Int
  v : Int

/-- The items lie in the argument's array. -/
def Script (w : World) (ad : Option Addr) (len : Nat) (q : Nat → Item) : Prop :=
  len = 0 ∨ ∃ blk off, ad = some ⟨blk, off, none⟩ ∧ blk < w.heap.size ∧ ∀ i, i < len →
    w.cell? ⟨blk, off + i * 4, none⟩ = some (.int .i64 (q i).what) ∧ w.cell? ⟨blk, off + i * 4 + 1, none⟩ = some (.int .i64 (q i).a) ∧
    w.cell? ⟨blk, off + i * 4 + 2, none⟩ = some (.int .i64 (q i).b) ∧ w.cell? ⟨blk, off + i * 4 + 3, none⟩ = some (.int .i64 (q i).v)

theorem new_pair (w : World) (x : Want) (t : TypeId) : ∀ j u, (pe x)[j]? = some u → (w.alloc (.cells #[.int .i64 x.kind, .int .i64 x.n] t)).cell? ((⟨w.heap.size, 0, none⟩ : Addr).add j) = some u := by
  intro j u hu
  have hj : j < 2 := (List.getElem?_eq_some_iff.1 hu).1
  have hh : (w.alloc (.cells #[.int .i64 x.kind, .int .i64 x.n] t)).heap[w.heap.size]? = some (.cells #[.int .i64 x.kind, .int .i64 x.n] t) := by
    show (w.heap.push _)[w.heap.size]? = _
    rw [Array.getElem?_push, if_pos rfl]
  rw [Addr.add_lit, Nat.zero_add]
  match j, hj with
  | 0, _ => simp [pe] at hu; subst hu; simp only [World.cell?, hh]; rfl
  | 1, _ => simp [pe] at hu; subst hu; simp only [World.cell?, hh]; rfl

set_option maxRecDepth 100000 in
set_option maxHeartbeats 1000000 in
theorem aplays_long (ad : Option Addr) (len cap : Nat) (a2 : Option Addr) (len2 cap2 : Nat) (w : World) (h : 40 < len ∨ 20 < len2) :
    Calls Tryd.prog 9 #[.slice ad len cap, .slice a2 len2 cap2] w fun e w' => e = .returned (.bool true) ∧ Below w.heap.size w w' := by
  by_cases h1 : (40 : Int) < (len : Int)
  · go_enter Tryd.func9, Tryd.ntmps9
    go_wp2_with fail
    go_ret
    exact ⟨rfl, Below.refl _ _⟩
  · have h2 : (20 : Int) < (len2 : Int) := by omega
    go_enter Tryd.func9, Tryd.ntmps9
    go_wp2_with fail
    go_ret
    exact ⟨rfl, Below.refl _ _⟩

set_option maxRecDepth 100000 in
set_option maxHeartbeats 16000000 in
theorem aplays_short (ad : Option Addr) (len cap : Nat) (s : Nat → Item) (a2 : Option Addr) (len2 cap2 : Nat) (q : Nat → Want) (w : World) (h1 : len ≤ 40) (h2 : len2 ≤ 20) (hc2 : len2 ≤ cap2) (hn2 : a2 = none → cap2 = 0)
    (hsc : Script w ad len s) (hq : Asks w a2 len2 q) (hg : w.cell? ⟨1, 0, none⟩ = some errT) (hWl : Well w) :
    Calls Tryd.prog 9 #[.slice ad len cap, .slice a2 len2 cap2] w fun e w' => e = .returned (.bool true) ∧ Below w.heap.size w w' := by
  have h1' : ¬ (40 : Int) < (len : Int) := by omega
  have h2' : ¬ (20 : Int) < (len2 : Int) := by omega
  have hgl : 1 < w.heap.size := World.block_lt_of_cell? w _ hg
  have hgw : ∀ w', Below w.heap.size w w' → w'.cell? ⟨1, 0, none⟩ = some errT := fun w' h => by rw [h.cell (p := ⟨1, 0, none⟩) hgl]; exact hg
  have hWw : ∀ w', Below w.heap.size w w' → Well w' := fun w' h => hWl.below h (Nat.le_refl _)
  have LA : Led ((w.alloc (.cells #[.int .i64 0, .int .i64 0, .int .i64 0, .int .i64 0, .int .i64 0, .int .i64 0] 87)).alloc (.cells #[.int .i64 0, .int .i64 0, .int .i64 0, .int .i64 0, .int .i64 0, .int .i64 0] 89)) w.heap.size (fun _ => 0) (fun _ => 0) := (led_zero w 87).more _
  have LD : Led ((w.alloc (.cells #[.int .i64 0, .int .i64 0, .int .i64 0, .int .i64 0, .int .i64 0, .int .i64 0] 87)).alloc (.cells #[.int .i64 0, .int .i64 0, .int .i64 0, .int .i64 0, .int .i64 0, .int .i64 0] 89)) (w.heap.size + 1) (fun _ => 0) (fun _ => 0) := by
    have := led_zero (w.alloc (.cells #[.int .i64 0, .int .i64 0, .int .i64 0, .int .i64 0, .int .i64 0, .int .i64 0] 87)) 89
    simpa using this
  have B0 : Below w.heap.size w ((w.alloc (.cells #[.int .i64 0, .int .i64 0, .int .i64 0, .int .i64 0, .int .i64 0, .int .i64 0] 87)).alloc (.cells #[.int .i64 0, .int .i64 0, .int .i64 0, .int .i64 0, .int .i64 0, .int .i64 0] 89)) := ((Below.refl _ _).alloc (Nat.le_refl _) _).alloc (by simp) _
  go_enter Tryd.func9, Tryd.ntmps9
  go_wp2_with fail
  go_loopg [7] len (fun k s7 wr => ∃ (j : Nat) (U M : Nat → Int), j + k = len ∧ s7 = .int .i64 j ∧ Fit U ∧ Fit M ∧ Led wr w.heap.size U M ∧ Led wr (w.heap.size + 1) U M ∧ Below w.heap.size w wr)
  case atStart => exact ⟨0, _, _, by omega, rfl, fit_zero, fit_zero, LA, LD, B0⟩
  case round =>
    clear LA LD B0
    obtain ⟨j, U, M, hj, rfl, fU, fM, LA, LD, B⟩ := hrel
    by_cases hlt : (j : Int) < (len : Int)
    · rcases hsc with h0 | ⟨blk, off, rfl, hbl, hss⟩
      · exfalso; omega
      obtain ⟨c0, c1, c2, c3⟩ := hss j (by omega)
      have d0 : wr.cell? ⟨blk, off + j * 4, none⟩ = some (.int .i64 (s j).what) := by rw [B.cell (p := ⟨blk, off + j * 4, none⟩) hbl]; exact c0
      have d1 : wr.cell? ⟨blk, off + j * 4 + 1, none⟩ = some (.int .i64 (s j).a) := by rw [B.cell (p := ⟨blk, off + j * 4 + 1, none⟩) hbl]; exact c1
      have d2 : wr.cell? ⟨blk, off + j * 4 + 2, none⟩ = some (.int .i64 (s j).b) := by rw [B.cell (p := ⟨blk, off + j * 4 + 2, none⟩) hbl]; exact c2
      have d3 : wr.cell? ⟨blk, off + j * 4 + 3, none⟩ = some (.int .i64 (s j).v) := by rw [B.cell (p := ⟨blk, off + j * 4 + 3, none⟩) hbl]; exact c3
      clear c0 c1 c2 c3 hss
      generalize (s j).what = W at *
      generalize (s j).a = X at *
      generalize (s j).b = Y at *
      generalize (s j).v = Z at *
      have S0 : AA w wr.heap.size #[.int .i64 W, .int .i64 X, .int .i64 Y, .int .i64 Z] (wr.alloc (.cells #[.int .i64 W, .int .i64 X, .int .i64 Y, .int .i64 Z] 33)) U M U M := by
        refine ⟨LA.more _, LD.more _, B.alloc B.size _, ?_, LD.lt⟩
        show (wr.heap.push _)[wr.heap.size]? = _
        rw [Array.getElem?_push, if_pos rfl]
      go_upto_if 35 with fail
      clear d0 d1 d2 d3 LA LD B
      obtain ⟨x, hx⟩ : ∃ x, wr.heap.size = x := ⟨_, rfl⟩
      obtain ⟨w2, hw2⟩ : ∃ w2, wr.alloc (.cells #[.int .i64 W, .int .i64 X, .int .i64 Y, .int .i64 Z] 33) = w2 := ⟨_, rfl⟩
      rw [hw2, hx] at S0
      rw [hw2, hx]
      clear hw2 hx
      go_cut [9, 10, 11] (fun _ _ _ wc => ∃ U M, Fit U ∧ Fit M ∧ AA w x #[.int .i64 W, .int .i64 X, .int .i64 Y, .int .i64 Z] wc U M U M)
      case first =>
        have z1 := (S0.cell 1).trans (show (#[.int .i64 W, .int .i64 X, .int .i64 Y, .int .i64 Z] : Array Value)[1]? = some (.int .i64 X) from rfl)
        have z2 := (S0.cell 2).trans (show (#[.int .i64 W, .int .i64 X, .int .i64 Y, .int .i64 Z] : Array Value)[2]? = some (.int .i64 Y) from rfl)
        by_cases hK : (IntKind.u64.wrap W).tmod 3 = 0
        · as_aux_lemma =>
            obtain ⟨c, hc⟩ : ∃ c, lim X Y = c := ⟨_, rfl⟩
            have hA : ∀ V : World, AA w x #[.int .i64 W, .int .i64 X, .int .i64 Y, .int .i64 Z] V U M U M → Calls Tryd.prog 48 #[lp w.heap.size, .int .i64 X, .int .i64 Y] V fun e w' => e = .returned (errA c) ∧ AA w x #[.int .i64 W, .int .i64 X, .int .i64 Y, .int .i64 Z] w' U (limM M X Y) U M ∧ w'.cell? ⟨x, 1, none⟩ = some (.int .i64 X) ∧ w'.cell? ⟨x, 2, none⟩ = some (.int .i64 Y) := fun V S => by
              rw [← hc]
              refine (limit_any S.a X Y).mono ?_
              rintro e w' ⟨rfl, l, g⟩
              have S' := S.turnA l g
              exact ⟨rfl, S', (S'.cell 1).trans rfl, (S'.cell 2).trans rfl⟩
            have hD : ∀ V : World, AA w x #[.int .i64 W, .int .i64 X, .int .i64 Y, .int .i64 Z] V U (limM M X Y) U M → Calls Tryd.prog 49 #[lp (w.heap.size + 1), .int .i64 X, .int .i64 Y] V fun e w' => e = .returned (.int .i64 c) ∧ AA w x #[.int .i64 W, .int .i64 X, .int .i64 Y, .int .i64 Z] w' U (limM M X Y) U (limM M X Y) ∧ w'.cell? ⟨x, 1, none⟩ = some (.int .i64 X) ∧ w'.cell? ⟨x, 2, none⟩ = some (.int .i64 Y) := fun V S => by
              rw [← hc]
              refine (rlimit_any S.d X Y).mono ?_
              rintro e w' ⟨rfl, l, g⟩
              have S' := S.turnD l g
              exact ⟨rfl, S', (S'.cell 1).trans rfl, (S'.cell 2).trans rfl⟩
            clear hc
            have fM1 := fM.limM X Y
            go_upto_region 10 with fail
            clear hK
            go_cut [47] (fun t wc => t = .bool false ∧ AA w x #[.int .i64 W, .int .i64 X, .int .i64 Y, .int .i64 Z] wc U (limM M X Y) U (limM M X Y))
            case first =>
              go_region_held3 (fun w' => w'.cell? ⟨x, 1, none⟩ = some (.int .i64 X) ∧ w'.cell? ⟨x, 2, none⟩ = some (.int .i64 Y)) (first | exact ⟨y1, y2⟩ | exact ⟨z1, z2⟩) (first
                | (go_at_call 48; refine (hA _ (by exact S0.stay ⟨rfl, rfl, rfl, Nat.le_refl _, fun _ _ => rfl⟩)).mono ?_; rintro e w5 ⟨rfl, S1, y1, y2⟩)
                | (go_at_call 49; refine (hD _ S1).mono ?_; rintro e w6 ⟨rfl, S2, y1, y2⟩)
                | (go_at_call 12; refine (bare_err _ _ (hgw _ S2.bel)).mono ?_; rintro e w7 ⟨rfl, b7⟩; have S3 := S2.stay b7; have y1 : w7.cell? ⟨x, 1, none⟩ = some (.int .i64 X) := (S3.cell 1).trans rfl; have y2 : w7.cell? ⟨x, 2, none⟩ = some (.int .i64 Y) := (S3.cell 2).trans rfl))
              all_goals
                go_wp2_with fail
                go_meet
                case rel => exact ⟨rfl, S3⟩
            case rest =>
              obtain ⟨rfl, S3⟩ := hcut
              clear hA hD
              go_wp2_with fail
              go_meet
              case rel => exact ⟨_, _, fU, fM1, S3⟩
        · as_aux_lemma =>
            have z0 := (S0.cell 0).trans (show (#[.int .i64 W, .int .i64 X, .int .i64 Y, .int .i64 Z] : Array Value)[0]? = some (.int .i64 W) from rfl)
            go_upto_region 12 with fail
            go_cut [9] (fun s9 wc => ∃ m : Nat, m ≤ len2 ∧ s9 = .slice a2 m cap2 ∧ wc = w2)
            case first =>
              obtain ⟨r, hr, hr5⟩ : ∃ r : Nat, wrap64 ((IntKind.u64.wrap ((IntKind.u64.wrap W).tdiv 3)).tmod 5) = r ∧ r < 5 := by
                have h0 : 0 ≤ IntKind.u64.wrap ((IntKind.u64.wrap W).tdiv 3) := by rw [IntKind.wrap_u64]; omega
                have ht := Int.tmod_eq_emod_of_nonneg (a := IntKind.u64.wrap ((IntKind.u64.wrap W).tdiv 3)) (b := 5) h0
                have l := Int.emod_nonneg (IntKind.u64.wrap ((IntKind.u64.wrap W).tdiv 3)) (b := 5) (by omega)
                have u := Int.emod_lt_of_pos (IntKind.u64.wrap ((IntKind.u64.wrap W).tdiv 3)) (b := 5) (by omega)
                refine ⟨(IntKind.u64.wrap ((IntKind.u64.wrap W).tdiv 3) % 5).toNat, ?_, by omega⟩
                rw [ht]
                unfold wrap64; omega
              by_cases hrl : (r : Int) < (len2 : Int)
              · go_wp2_with fail
                go_meet
                case rel => exact ⟨r, by omega, rfl, rfl⟩
              · go_wp2_with fail
                go_meet
                case rel => exact ⟨len2, by omega, rfl, rfl⟩
            case rest =>
              obtain ⟨m, hm, rfl, e2⟩ := hcut
              have e3 := e2.symm
              subst e3
              obtain ⟨i0, hi, hz0, hz1, hz2⟩ := info_parts (P := Tryd.prog) (e := 92) (z := .agg #[.int .i64 0, .int .i64 0]) (size := 2) (bytes := 16) (by kernel_rfl)
              have hxl := S0.lt
              clear hK z0
              go_upto_block 2 with fail
              go_cut [10, 11] (fun s10 _ wd => PL wd w2.heap.size 92 s10 (upto q m) ∧ w2.grownBy wd none)
              case first =>
                as_aux_lemma =>
                  go_wp2_with fail
                  go_loopg [10, 11] m (fun n s10 s11 wx => ∃ k : Nat, k + n = m ∧ s11 = .int .i64 k ∧ PL wx w2.heap.size 92 s10 (upto q k) ∧ w2.grownBy wx none)
                  case atStart => exact ⟨0, by omega, rfl, World.ownsRow_nil _ _ _ _, grown_same _ _⟩
                  case round =>
                    obtain ⟨k, hk, rfl, R, g⟩ := hrel
                    by_cases hk3 : (k : Int) < (m : Int)
                    · have S1 := S0.grow g (fun j h => by cases h)
                      rcases hq with h0 | ⟨blk2, off2, rfl, hbl2, hqq⟩
                      · exfalso; omega
                      have e0 : wr.cell? ⟨blk2, off2 + k * 2, none⟩ = some (.int .i64 (q k).kind) := by rw [S1.bel.cell (p := ⟨blk2, off2 + k * 2, none⟩) hbl2]; exact (hqq k (by omega)).1
                      have e1 : wr.cell? ⟨blk2, off2 + k * 2 + 1, none⟩ = some (.int .i64 (q k).n) := by rw [S1.bel.cell (p := ⟨blk2, off2 + k * 2 + 1, none⟩) hbl2]; exact (hqq k (by omega)).2
                      clear hqq S1 S0 z1 z2
                      have hnews := new_pair wr (q k) 92
                      have h63 : (upto q k).length + 1 ≤ maxLen := by rw [upto_len]; unfold maxLen; omega
                      have hby : ((upto q k).length + 1) * 16 ≤ 140737488355328 := by rw [upto_len]; omega
                      have hbase : ∀ o, w2.heap.size ≤ (wr.alloc o).heap.size := fun o => by have := g.size; simp; omega
                      go_wp2_with (at_builtin; refine wpList_append_own_at _ rfl _ _ 90 rfl w2.heap.size 92 i0 (.agg #[.int .i64 0, .int .i64 0]) 2 16 Tryd.underlying90 hi hz0 hz1 hz2 rfl (by decide) _ _ _ rfl (World.ownsRow.alloc R _) ⟨wr.heap.size, 0, none⟩ 1 1 (pe (q k)) rfl rfl hnews (pe_one _) h63 hby (hbase _) ?_; intro v3 w3 ho3 hg3 hnil3 hv3)
                      go_roundg (gk - 1)
                      case measure => omega
                      case rel =>
                        have hR : PL w3 w2.heap.size 92 v3 (upto q (k + 1)) := by
                          unfold PL
                          rw [← upto_next, pcl_app, List.length_append]; exact ho3
                        exact ⟨k + 1, by omega, by go_num, hR, (g.andThen (lgrown_alloc wr _ none) (fun j h => by cases h)).andThen hg3 (fun j hj => .inl (R.lt j hj).1)⟩
                    · obtain rfl : k = m := by omega
                      go_wp2_with fail
                      go_meet
                      case rel => exact ⟨R, g⟩
              case rest =>
                obtain ⟨R, g⟩ := hcut
                have S1 := S0.grow g (fun j h => by cases h)
                have y1 := (S1.cell 1).trans (show (#[.int .i64 W, .int .i64 X, .int .i64 Y, .int .i64 Z] : Array Value)[1]? = some (.int .i64 X) from rfl)
                have y2 := (S1.cell 2).trans (show (#[.int .i64 W, .int .i64 X, .int .i64 Y, .int .i64 Z] : Array Value)[2]? = some (.int .i64 Y) from rfl)
                have hnews := new_pair wc ⟨X, Y⟩ 92
                have h63 : (upto q m).length + 1 ≤ maxLen := by rw [upto_len]; unfold maxLen; omega
                have hby : ((upto q m).length + 1) * 16 ≤ 140737488355328 := by rw [upto_len]; omega
                have hbase : ∀ o, w2.heap.size ≤ (wc.alloc o).heap.size := fun o => by have := g.size; simp; omega
                clear z1 z2
                go_upto_region 19 with (at_builtin; refine wpList_append_own_at _ rfl _ _ 90 rfl w2.heap.size 92 i0 (.agg #[.int .i64 0, .int .i64 0]) 2 16 Tryd.underlying90 hi hz0 hz1 hz2 rfl (by decide) _ _ _ rfl (World.ownsRow.alloc R _) ⟨wc.heap.size, 0, none⟩ 1 1 (pe ⟨X, Y⟩) rfl rfl hnews (pe_one _) h63 hby (hbase _) ?_; intro v5 w5 ho5 hg5 hnil5 hv5)
                have R5 : PL w5 w2.heap.size 92 v5 (upto q m ++ [⟨X, Y⟩]) := by
                  unfold PL
                  rw [pcl_app, List.length_append]; exact ho5
                have g5 : w2.grownBy w5 none := (g.andThen (lgrown_alloc wc _ none) (fun j h => by cases h)).andThen hg5 (fun j hj => .inl (R.lt j hj).1)
                have S5 := S0.grow g5 (fun j h => by cases h)
                obtain ⟨ad5, cap5, hv, K5⟩ := R5.asks
                subst hv
                have hsrc : ∀ V : World, Below w.heap.size w V → Source V a2 m (pcl (upto q m)) := by
                  intro V hV
                  cases ha2 : a2 with
                  | none =>
                    have := hn2 ha2
                    obtain rfl : m = 0 := by omega
                    exact .inl ⟨rfl, rfl, rfl⟩
                  | some ad2 =>
                    refine .inr ⟨ad2, rfl, ?_⟩
                    rcases hq with h0 | ⟨blk2, off2, e, hbl2, hqq⟩
                    · obtain rfl : m = 0 := by omega
                      intro j u hu
                      simp [upto, pcl] at hu
                    · rw [ha2] at e
                      cases e
                      exact Asks.cells (fun i hi => ⟨by rw [hV.cell (p := ⟨blk2, off2 + i * 2, none⟩) hbl2]; exact (hqq i hi).1, by rw [hV.cell (p := ⟨blk2, off2 + i * 2 + 1, none⟩) hbl2]; exact (hqq i hi).2⟩) hm
                have hlL : (upto q m ++ [⟨X, Y⟩] : List Want).length ≤ 1000 := by rw [List.length_append, upto_len]; simp; omega
                have hlm : (upto q m).length = m := upto_len q m
                have hm1 : m ≤ 1000 := by omega
                clear R R5 ho5 hg5 hnil5 hv5 g g5 S1 y1 y2 hnews h63 hby hbase S0 hi hz0 hz1 hz2
                obtain ⟨L0, hL0⟩ : ∃ L0, upto q m = L0 := ⟨_, rfl⟩
                rw [hL0] at hlL hlm hsrc K5
                rw [hL0]
                clear hL0
                obtain ⟨L, hL⟩ : ∃ L : List Want, L0 ++ [⟨X, Y⟩] = L := ⟨_, rfl⟩
                rw [hL] at hlL K5
                rw [hL]
                have HL := lhide hL
                clear hL
                have x5 := S5.lt
                have far := S5.far
                have S5' : ∀ V : World, V.heap = w5.heap → V.os = w5.os → V.tape = w5.tape → V.output = w5.output → AA w x #[.int .i64 W, .int .i64 X, .int .i64 Y, .int .i64 Z] V U M U M := fun V e1 e2 e3 e4 => S5.grow (lgrown_like (grown_same w5 none) e1 e2 e3 e4) (fun j h => by cases h)
                have K5' : ∀ V : World, V.heap = w5.heap → Asks V ad5 L.length (nth L) := fun V e => by
                  rcases K5 with h0 | ⟨b5, o5, e', h5, hh⟩
                  · exact .inl h0
                  · exact .inr ⟨b5, o5, e', by rw [e]; exact h5, fun i hi => ⟨by rw [World.cell?_of_block (w := w5) (a := ⟨b5, o5 + i * 2, none⟩) (by rw [e])]; exact (hh i hi).1, by rw [World.cell?_of_block (w := w5) (a := ⟨b5, o5 + i * 2 + 1, none⟩) (by rw [e])]; exact (hh i hi).2⟩⟩
                have y1 := (S5.cell 1).trans (show (#[.int .i64 W, .int .i64 X, .int .i64 Y, .int .i64 Z] : Array Value)[1]? = some (.int .i64 X) from rfl)
                have y2 := (S5.cell 2).trans (show (#[.int .i64 W, .int .i64 X, .int .i64 Y, .int .i64 Z] : Array Value)[2]? = some (.int .i64 Y) from rfl)
                go_cut [94] (fun t wd => t = .bool false ∧ ∃ U1, Fit U1 ∧ AA w x #[.int .i64 W, .int .i64 X, .int .i64 Y, .int .i64 Z] wd U1 M U1 M)
                case first =>
                  rcases fine_or U M (nth L) L.length with hF | ⟨p, hp, hF, hn⟩
                  · as_aux_lemma =>
                      have hCA : ∀ V : World, AA w x #[.int .i64 W, .int .i64 X, .int .i64 Y, .int .i64 Z] V U M U M → Asks V ad5 L.length (nth L) → Calls Tryd.prog 51 #[lp w.heap.size, .slice ad5 L.length cap5] V fun e w' => e = .returned .nilIface ∧ AA w x #[.int .i64 W, .int .i64 X, .int .i64 Y, .int .i64 Z] w' (upon U (nth L) L.length) M U M ∧ V.grownBy w' (some w.heap.size) ∧ x < w'.heap.size := fun V S K => by
                        refine (charge_ok S.a fU fM ad5 L.length cap5 (nth L) K hlL hF).mono ?_
                        rintro e w' ⟨rfl, l, g⟩
                        have S' := S.turnA l g
                        exact ⟨rfl, S', g, S'.lt⟩
                      have hsrc6 : ∀ V : World, AA w x #[.int .i64 W, .int .i64 X, .int .i64 Y, .int .i64 Z] V (upon U (nth L) L.length) M U M → Source V a2 m (pcl L0) := fun V S => hsrc V S.bel
                      have kS5 : ∀ V : World, AA w x #[.int .i64 W, .int .i64 X, .int .i64 Y, .int .i64 Z] V U M U M → V.cell? ⟨x, 1, none⟩ = some (.int .i64 X) ∧ V.cell? ⟨x, 2, none⟩ = some (.int .i64 Y) := fun V S => S.two
                      have kS6 : ∀ V : World, AA w x #[.int .i64 W, .int .i64 X, .int .i64 Y, .int .i64 Z] V (upon U (nth L) L.length) M U M → V.cell? ⟨x, 1, none⟩ = some (.int .i64 X) ∧ V.cell? ⟨x, 2, none⟩ = some (.int .i64 Y) := fun V S => S.two
                      have kS9 : ∀ V : World, AA w x #[.int .i64 W, .int .i64 X, .int .i64 Y, .int .i64 Z] V (upon U (nth L) L.length) M (upon U (nth L) L.length) M → V.cell? ⟨x, 1, none⟩ = some (.int .i64 X) ∧ V.cell? ⟨x, 2, none⟩ = some (.int .i64 Y) := fun V S => S.two
                      have fU6 := Fine.fit fU fM hF
                      have hneA : ∀ g, w5.heap.size ≤ g → some w.heap.size ≠ some g := fun g hg h => by injection h with h; omega
                      have hDf : w.heap.size + 1 ≠ 0 := by have := World.block_lt_of_cell? w _ hWl.1; simp at this; omega
                      go_region_held3 (fun w' => w'.cell? ⟨x, 1, none⟩ = some (.int .i64 X) ∧ w'.cell? ⟨x, 2, none⟩ = some (.int .i64 Y)) (first | (with_reducible exact ⟨y1, y2⟩) | (refine kS9 _ ?_; with_reducible first | exact S10 | exact S9) | (refine kS6 _ ?_; (repeat (with_reducible first | exact S8 | exact S7 | exact S6 | refine AA.more ?_ _ | refine AA.drew ?_)); done) | (refine kS5 _ ?_; (repeat (with_reducible first | exact S5 | refine AA.more ?_ _ | refine AA.drew ?_)); done)) (first
                        | (go_at_call 51; refine (hCA _ (by repeat (with_reducible first | exact S5 | refine AA.more ?_ _ | refine AA.drew ?_)) (by repeat (with_reducible first | exact K5 | refine Asks.more ?_ _ | refine Asks.drew ?_))).mono ?_; rintro e w6 ⟨rfl, S6, g6, x6⟩)
                        | (refine step_first rfl (.tmp 82) (.tmp 83) rfl x _ (by rfl) (by repeat (with_reducible first | exact Emp.new (by first | omega | (simp; omega)) (by first | with_reducible rfl | simp) | refine Emp.more ?_ _ | refine Emp.drew ?_ | refine Emp.grown g6 (fun j h => by injection h with h; omega) ?_)) a2 m cap2 L0 (by rfl) hlm hm1 (hsrc6 _ (by repeat (with_reducible first | exact S6 | refine AA.more ?_ _ | refine AA.drew ?_))) ?_; intro v7 w7 ho7 f7; have S7 : AA w x #[.int .i64 W, .int .i64 X, .int .i64 Y, .int .i64 Z] w7 (upon U (nth L) L.length) M U M := f7.aa (by repeat (with_reducible first | exact S6 | refine AA.more ?_ _ | refine AA.drew ?_)); have x7 := S7.lt)
                        | (refine step_second rfl (.tmp 84) (.tmp 90) rfl x v7 m L0 hlm hm1 (by rfl) (by first | exact ho7 | exact World.ownsRow.alloc ho7 _) _ X Y (by rfl) (by repeat (first | (with_reducible exact Two.new (by first | with_reducible rfl | simp)) | (with_reducible refine Two.more ?_ _) | (with_reducible refine Two.drew ?_) | (with_reducible refine First.two f7 ?_) | (refine Two.grown g6 (hneA _ (by omega)) ?_))) (by first | exact x7 | (simp; omega)) ?_; intro v8 w8 hp8 f8; have S8 : AA w x #[.int .i64 W, .int .i64 X, .int .i64 Y, .int .i64 Z] w8 (upon U (nth L) L.length) M U M := f8.aa (by repeat (with_reducible first | exact S7 | refine AA.more ?_ _ | refine AA.drew ?_)); rw [HL.out] at hp8; obtain ⟨ad8, cap8, hv8, K8⟩ := hp8.asks; subst hv8)
                        | (go_at_call 52; refine (rcharge_ok S8.d fU fM (hWw _ S8.bel) hDf _ _ _ _ K8 hlL hF).mono ?_; rintro e w9 ⟨rfl, L9, g9⟩; have S9 := S8.turnD L9 g9)
                        | (go_at_call 50; refine (is_nil _).mono ?_; rintro e w10 ⟨rfl, b10⟩; have S10 := S9.stay b10))
                      all_goals
                        go_wp2_with fail
                        go_meet
                        case rel => exact ⟨rfl, _, fU6, S10⟩
                  · as_aux_lemma =>
                      obtain ⟨cc, hcc⟩ : ∃ cc, fault U M (nth L) p = cc := ⟨_, rfl⟩
                      have hCA : ∀ V : World, AA w x #[.int .i64 W, .int .i64 X, .int .i64 Y, .int .i64 Z] V U M U M → Asks V ad5 L.length (nth L) → Calls Tryd.prog 51 #[lp w.heap.size, .slice ad5 L.length cap5] V fun e w' => ∃ xe, e = .returned (atv xe) ∧ AA w x #[.int .i64 W, .int .i64 X, .int .i64 Y, .int .i64 Z] w' U M U M ∧ V.grownBy w' (some w.heap.size) ∧ x < w'.heap.size ∧ AtB w' xe cc p := fun V S K => by
                        refine (charge_no S.a fU fM ad5 L.length cap5 (nth L) K hlL p hp hF hn).mono ?_
                        rintro e w' ⟨xe, rfl, _, hA, b⟩
                        have S' := S.stay b
                        rw [hcc] at hA
                        exact ⟨xe, rfl, S', ⟨b.os, b.tape, b.output, b.size, fun i hi _ => b.block i hi⟩, S'.lt, hA⟩
                      have hRC : ∀ (V : World) (ad8 : Option Addr) (cap8 : Nat), AA w x #[.int .i64 W, .int .i64 X, .int .i64 Y, .int .i64 Z] V U M U M → Asks V ad8 L.length (nth L) → Calls Tryd.prog 52 #[lp (w.heap.size + 1), .slice ad8 L.length cap8] V fun e w' => e = .returned (.agg #[.int .i64 cc, .int .i64 p]) ∧ Below V.heap.size V w' := fun V ad8 cap8 S K => by
                        have hDf : w.heap.size + 1 ≠ 0 := by have := World.block_lt_of_cell? w _ hWl.1; simp at this; omega
                        have := rcharge_no S.d fU fM (hWw _ S.bel) hDf ad8 L.length cap8 (nth L) K hlL p hp hF hn
                        rw [hcc] at this; exact this
                      have hsrc6 : ∀ V : World, AA w x #[.int .i64 W, .int .i64 X, .int .i64 Y, .int .i64 Z] V U M U M → Source V a2 m (pcl L0) := fun V S => hsrc V S.bel
                      have kS5 : ∀ V : World, AA w x #[.int .i64 W, .int .i64 X, .int .i64 Y, .int .i64 Z] V U M U M → V.cell? ⟨x, 1, none⟩ = some (.int .i64 X) ∧ V.cell? ⟨x, 2, none⟩ = some (.int .i64 Y) := fun V S => S.two
                      have kS6 : ∀ V : World, AA w x #[.int .i64 W, .int .i64 X, .int .i64 Y, .int .i64 Z] V U M U M → V.cell? ⟨x, 1, none⟩ = some (.int .i64 X) ∧ V.cell? ⟨x, 2, none⟩ = some (.int .i64 Y) := fun V S => S.two
                      have kS9 : ∀ V : World, AA w x #[.int .i64 W, .int .i64 X, .int .i64 Y, .int .i64 Z] V U M U M → V.cell? ⟨x, 1, none⟩ = some (.int .i64 X) ∧ V.cell? ⟨x, 2, none⟩ = some (.int .i64 Y) := fun V S => S.two
                      have hneA : ∀ g, w5.heap.size ≤ g → some w.heap.size ≠ some g := fun g hg h => by injection h with h; omega
                      clear hcc hn hF
                      go_region_held3 (fun w' => w'.cell? ⟨x, 1, none⟩ = some (.int .i64 X) ∧ w'.cell? ⟨x, 2, none⟩ = some (.int .i64 Y)) (first | (with_reducible exact ⟨y1, y2⟩) | (refine kS9 _ ?_; with_reducible first | exact S10 | exact S9) | (refine kS6 _ ?_; (repeat (with_reducible first | exact S8 | exact S7 | exact S6 | refine AA.more ?_ _ | refine AA.drew ?_)); done) | (refine kS5 _ ?_; (repeat (with_reducible first | exact S5 | refine AA.more ?_ _ | refine AA.drew ?_)); done)) (first
                        | (go_at_call 51; refine (hCA _ (by repeat (with_reducible first | exact S5 | refine AA.more ?_ _ | refine AA.drew ?_)) (by repeat (with_reducible first | exact K5 | refine Asks.more ?_ _ | refine Asks.drew ?_))).mono ?_; rintro e w6 ⟨xe, rfl, S6, g6, x6, A6⟩)
                        | (refine step_first rfl (.tmp 82) (.tmp 83) rfl x _ (by rfl) (by repeat (with_reducible first | exact Emp.new (by first | omega | (simp; omega)) (by first | with_reducible rfl | simp) | refine Emp.more ?_ _ | refine Emp.drew ?_ | refine Emp.grown g6 (fun j h => by injection h with h; omega) ?_)) a2 m cap2 L0 (by rfl) hlm hm1 (hsrc6 _ (by repeat (with_reducible first | exact S6 | refine AA.more ?_ _ | refine AA.drew ?_))) ?_; intro v7 w7 ho7 f7; have S7 : AA w x #[.int .i64 W, .int .i64 X, .int .i64 Y, .int .i64 Z] w7 U M U M := f7.aa (by repeat (with_reducible first | exact S6 | refine AA.more ?_ _ | refine AA.drew ?_)); have x7 := S7.lt; have A7 : AtB w7 xe cc p := f7.at (by repeat (with_reducible first | exact A6 | refine AtB.more ?_ _)))
                        | (refine step_second rfl (.tmp 84) (.tmp 90) rfl x v7 m L0 hlm hm1 (by rfl) (by first | exact ho7 | exact World.ownsRow.alloc ho7 _) _ X Y (by rfl) (by repeat (first | (with_reducible exact Two.new (by first | with_reducible rfl | simp)) | (with_reducible refine Two.more ?_ _) | (with_reducible refine Two.drew ?_) | (with_reducible refine First.two f7 ?_) | (refine Two.grown g6 (hneA _ (by omega)) ?_))) (by first | exact x7 | (simp; omega)) ?_; intro v8 w8 hp8 f8; have S8 : AA w x #[.int .i64 W, .int .i64 X, .int .i64 Y, .int .i64 Z] w8 U M U M := f8.aa (by repeat (with_reducible first | exact S7 | refine AA.more ?_ _ | refine AA.drew ?_)); rw [HL.out] at hp8; obtain ⟨ad8, cap8, hv8, K8⟩ := hp8.asks; subst hv8; have A8 : AtB w8 xe cc p := f8.at (by repeat (with_reducible first | exact A7 | refine AtB.more ?_ _)))
                        | (go_at_call 52; refine (hRC _ _ _ S8 K8).mono ?_; rintro e w9 ⟨rfl, b9⟩; have S9 := S8.stay b9; have A9 : AtB w9 xe cc p := (b9.block xe (blk_lt A8)).trans A8)
                        | (go_at_call 50; refine (is_at xe cc p _ A9.is (hgw _ S9.bel)).mono ?_; rintro e w10 ⟨rfl, b10⟩; have S10 := S9.stay b10))
                      all_goals
                        go_wp2_with fail
                        go_meet
                        case rel => exact ⟨rfl, _, fU, S10⟩
                case rest =>
                  obtain ⟨rfl, U1, fU1, S9⟩ := hcut
                  clear S5 S5' K5 K5' y1 y2 hsrc
                  go_wp2_with fail
                  go_meet
                  case rel => exact ⟨_, _, fU1, fM, S9⟩
      case rest =>
        clear S0 fU fM
        obtain ⟨U, M, fU, fM, S⟩ := hcut
        go_wp2_with fail
        obtain ⟨G, hG⟩ : ∃ G, gk = G := ⟨_, rfl⟩
        go_loopg [12] 3 (fun n s12 wx => ∃ k : Nat, k + n = 3 ∧ s12 = .int .i64 k ∧ Led wx w.heap.size U M ∧ Led wx (w.heap.size + 1) U M ∧ Below w.heap.size w wx)
        case atStart => exact ⟨0, by omega, rfl, S.a, S.d, S.bel⟩
        case round =>
          clear S
          obtain ⟨k, hk, rfl, LA, LD, B⟩ := hrel
          by_cases hk3 : (k : Int) < 3
          · as_aux_lemma =>
              have hUa : ∀ V : World, V.heap = wr.heap → Calls Tryd.prog 53 #[lp w.heap.size, .int .i64 (k : Int)] V fun e w' => e = .returned (.int .i64 (U k)) ∧ w' = V := fun V h => by
                have := used_ok (LA.keep (w' := V) (by rw [h])) (k : Int) (by omega) hk3
                rw [Int.toNat_natCast] at this; exact this
              have hMa : ∀ V : World, V.heap = wr.heap → Calls Tryd.prog 54 #[lp w.heap.size, .int .i64 (k : Int)] V fun e w' => e = .returned (.int .i64 (M k)) ∧ w' = V := fun V h => by
                have := most_ok (LA.keep (w' := V) (by rw [h])) (k : Int) (by omega) hk3
                rw [Int.toNat_natCast] at this; exact this
              have c0 := LD.has k (by omega)
              have c1 := LD.may k (by omega)
              generalize U k = u at *
              generalize M k = mm at *
              go_wp2_with fail
              go_quiet (first | (go_at_call 53; exact Calls.quiet_of_same (hUa _ rfl)) | (go_at_call 54; exact Calls.quiet_of_same (hMa _ rfl)))
              go_wp2_with fail
              go_roundg (gk - 1)
              case measure => omega
              case rel => exact ⟨k + 1, by omega, by go_num, LA.keep rfl, LD.keep rfl, ⟨B.os, B.tape, B.output, B.size, B.block⟩⟩
          · go_wp2_with fail
            go_roundg (G - 1)
            case measure => omega
            case rel => exact ⟨j + 1, U, M, by omega, by go_num, fU, fM, LA, LD, B⟩
    · go_wp2_with fail
      refine (used_no _ w.heap.size (-1) (by omega)).mono ?_
      rintro e w5 ⟨rfl, e5⟩
      subst w5
      go_wp2_with fail
      refine (most_no _ w.heap.size 3 (by omega)).mono ?_
      rintro e w5 ⟨rfl, e5⟩
      subst w5
      go_wp2_with fail
      go_ret
      exact ⟨rfl, B⟩
end Go.Proofs.YtfejiehkpikieaaDoor
