/- FramesApart: what is put at a word is there, and no other word changes; a frame that is copied is the same until one of both is written. For every seven numbers the Go text of the statement returns true. -/
import Derived.Test.YtpokeaacnbndbaaNew
namespace Go.Proofs.Ytpokeaacnbndbaa
open Go.RowKit

theorem get_val {w : World} {b s n : Nat} {D : Nat → Nat → Int} (m : Mem w b s n D) (f k v : Int) (hv : D f.toNat k.toNat = v) (hf : 0 ≤ f) (hf' : f < n) (hk : 0 ≤ k) (hk' : k < 8) :
    Calls Try.prog 8 #[mp b, .int .i64 f, .int .i64 k] w fun e w' => e = .returned (.tuple #[.int .i64 v, .nilIface]) ∧ w' = w := by
  subst hv; exact get_ok m f k hf hf' hk hk'

theorem pick_bounds (a n : Int) (h1 : 1 ≤ n) (h2 : n ≤ 1000000) : 0 ≤ wrap64 ((IntKind.u64.wrap a).tmod n) ∧ wrap64 ((IntKind.u64.wrap a).tmod n) < n := by
  have h0 : 0 ≤ IntKind.u64.wrap a := by rw [IntKind.wrap_u64]; omega
  have ht : (IntKind.u64.wrap a).tmod n = IntKind.u64.wrap a % n := Int.tmod_eq_emod_of_nonneg h0
  have l := Int.emod_nonneg (IntKind.u64.wrap a) (b := n) (by omega)
  have u := Int.emod_lt_of_pos (IntKind.u64.wrap a) (b := n) (by omega)
  rw [ht, show wrap64 (IntKind.u64.wrap a % n) = IntKind.u64.wrap a % n by unfold wrap64; omega]
  exact ⟨l, u⟩

set_option maxHeartbeats 400000 in
theorem pick_any (w : World) (a n : Int) (h1 : 1 ≤ n) (h2 : n ≤ 1000000) :
    Calls Try.prog 5 #[.int .i64 a, .int .i64 n] w fun e w' => ∃ r : Int, e = .returned (.int .i64 r) ∧ 0 ≤ r ∧ r < n ∧ w' = w := by
  have hb := pick_bounds a n h1 h2
  go_enter Try.func5, Try.ntmps5
  go_wp2
  go_ret
  exact ⟨_, rfl, hb.1, hb.2, rfl⟩

set_option maxHeartbeats 400000 in
theorem framed_any (w : World) :
    Calls Try.prog 4 #[] w fun e w' => e = .returned (.bool true) ∧ Below w.heap.size w w' := by
  go_enter Try.func4, Try.ntmps4
  go_wp2_with fail
  refine (new_ok _ 2 (by omega) (by omega)).mono ?_
  rintro e w1 ⟨b, rfl, s, m1, hs, hb, l1⟩
  go_wp2_with fail
  refine (set_ok m1 1 2 7 (by omega) (by simp) (by omega) (by omega)).mono ?_
  rintro e w2 ⟨rfl, m2, l2, _⟩
  go_wp2_with fail
  refine (copy_ok m2 0 1 (by omega) (by simp) (by omega) (by simp)).mono ?_
  rintro e w3 ⟨rfl, m3, l3, _⟩
  go_wp2_with fail
  refine (get_val m3 0 2 7 (by simp [row, upd]) (by omega) (by simp) (by omega) (by omega)).mono ?_
  rintro e w4 ⟨rfl, rfl⟩
  go_wp2_with fail
  go_ret
  exact ⟨rfl, (l1.trans (l2.mono hs)).trans (l3.mono hs)⟩

/-- The words behind the copy and the second store: what the statement's last loop asks of them. -/
theorem last_words (f g k u a c : Int) (r : Nat) (hf : 0 ≤ f) (hg : 0 ≤ g) (hk : 0 ≤ k) (hu : 0 ≤ u) :
    ∃ X Y, upd (row (upd (fun _ _ => 0) f.toNat k.toNat a) g.toNat (upd (fun _ _ => 0) f.toNat k.toNat a f.toNat)) g.toNat u.toNat c f.toNat (r : Int).toNat = X ∧
      upd (row (upd (fun _ _ => 0) f.toNat k.toNat a) g.toNat (upd (fun _ _ => 0) f.toNat k.toNat a f.toNat)) g.toNat u.toNat c g.toNat (r : Int).toNat = Y ∧
      ((r : Int) ≠ u → Y = X) ∧ ((r : Int) = u → Y = c) ∧ (f ≠ g → (r : Int) = k → X = a) := by
  refine ⟨_, _, rfl, rfl, fun h => ?_, fun h => ?_, fun h h' => ?_⟩
  · have : ¬ r = u.toNat := by omega
    by_cases e : f.toNat = g.toNat <;> simp [upd, row, this, e]
  · have : r = u.toNat := by omega
    simp only [Int.toNat_natCast, upd]; rw [if_pos ⟨trivial, this⟩]
  · have h1 : ¬ f.toNat = g.toNat := by omega
    have h2 : r = k.toNat := by omega
    simp only [Int.toNat_natCast, upd, row]; rw [if_neg (by omega), if_neg h1, if_pos ⟨trivial, h2⟩]

set_option maxRecDepth 100000 in
set_option maxHeartbeats 1000000 in
theorem apart_any (n0 f0 g0 k0 u0 a c : Int) (w : World) :
    Calls Try.prog 3 #[.int .i64 n0, .int .i64 f0, .int .i64 g0, .int .i64 k0, .int .i64 u0, .int .i64 a, .int .i64 c] w fun e w' => e = .returned (.bool true) ∧ Below w.heap.size w w' := by
  go_enter Try.func3, Try.ntmps3
  go_wp2_with fail
  refine (framed_any _).mono ?_
  rintro e w1 ⟨rfl, l1⟩
  go_wp2_with fail
  refine (pick_any _ _ 60 (by omega) (by omega)).mono ?_
  rintro e w' ⟨n1, rfl, hn1, hn2, rfl⟩
  go_wp2_with fail
  refine (new_ok _ (2 + n1) (by omega) (by omega)).mono ?_
  rintro e w2 ⟨b, rfl, s, m2, hs, hb, l2⟩
  go_wp2_with fail
  refine (pick_any _ _ (2 + n1) (by omega) (by omega)).mono ?_
  rintro e w' ⟨f, rfl, hf1, hf2, rfl⟩
  go_wp2_with fail
  refine (pick_any _ _ (2 + n1) (by omega) (by omega)).mono ?_
  rintro e w' ⟨g, rfl, hg1, hg2, rfl⟩
  go_wp2_with fail
  refine (pick_any _ _ 8 (by omega) (by omega)).mono ?_
  rintro e w' ⟨k, rfl, hk1, hk2, rfl⟩
  go_wp2_with fail
  refine (pick_any _ _ 8 (by omega) (by omega)).mono ?_
  rintro e w' ⟨u, rfl, hu1, hu2, rfl⟩
  go_wp2_with fail
  refine (set_ok m2 f k a (by omega) (by omega) (by omega) (by omega)).mono ?_
  rintro e w3 ⟨rfl, m3, l3, _⟩
  go_wp2_with fail
  go_loop [17] (fun i => ∃ q : Nat, (q : Int) ≤ 2 + n1 ∧ i = .int .i64 q) (fun i => (2 + n1).toNat - (intOf i).toNat)
  case atStart => exact ⟨0, by omega, rfl⟩
  case round =>
    obtain ⟨q, hq, rfl⟩ := hrel
    by_cases hlt : (q : Int) < 2 + n1
    · go_wp2_with fail
      go_loop [18] (fun i => ∃ r : Nat, r ≤ 8 ∧ i = .int .i64 r) (fun i => 8 - (intOf i).toNat)
      case atStart => exact ⟨0, by omega, rfl⟩
      case round =>
        obtain ⟨r, hr, rfl⟩ := hrel
        by_cases hlr : (r : Int) < 8
        · by_cases e1 : (q : Int) = f
          · by_cases e2 : (r : Int) = k
            · have t1 : ((q : Int) == f) = true := by simp [e1]
              have t2 : ((r : Int) == k) = true := by simp [e2]
              have hv : upd (fun _ _ => 0) f.toNat k.toNat a (q : Int).toNat (r : Int).toNat = a := by simp [upd, e1, e2]
              have HV := hide hv
              clear hv e1 e2
              go_wp2_with fail
              refine (get_val m3 _ _ a HV.out (by omega) (by omega) (by omega) (by omega)).mono ?_
              rintro e w' ⟨rfl, rfl⟩
              go_wp2_with fail
              go_round
              case rel => exact ⟨r + 1, by omega, by go_num⟩
              case measure => simp [intOf]; omega
            · have t1 : ((q : Int) == f) = true := by simp [e1]
              have t2 : ((r : Int) == k) = false := by simp [e2]
              have hv : upd (fun _ _ => 0) f.toNat k.toNat a (q : Int).toNat (r : Int).toNat = 0 := by simp only [upd]; rw [if_neg (by omega)]
              have HV := hide hv
              clear hv e1 e2
              go_wp2_with fail
              refine (get_val m3 _ _ 0 HV.out (by omega) (by omega) (by omega) (by omega)).mono ?_
              rintro e w' ⟨rfl, rfl⟩
              go_wp2_with fail
              go_round
              case rel => exact ⟨r + 1, by omega, by go_num⟩
              case measure => simp [intOf]; omega
          · have t1 : ((q : Int) == f) = false := by simp [e1]
            have hv : upd (fun _ _ => 0) f.toNat k.toNat a (q : Int).toNat (r : Int).toNat = 0 := by simp only [upd]; rw [if_neg (by omega)]
            have HV := hide hv
            clear hv e1
            go_wp2_with fail
            refine (get_val m3 _ _ 0 HV.out (by omega) (by omega) (by omega) (by omega)).mono ?_
            rintro e w' ⟨rfl, rfl⟩
            go_wp2_with fail
            go_round
            case rel => exact ⟨r + 1, by omega, by go_num⟩
            case measure => simp [intOf]; omega
        · go_wp2_with fail
          go_round
          case rel => exact ⟨q + 1, by omega, by go_num⟩
          case measure => simp [intOf]; omega
    · go_wp2_with fail
      refine (copy_ok m3 g f (by omega) (by omega) (by omega) (by omega)).mono ?_
      rintro e w4 ⟨rfl, m4, l4, _⟩
      go_wp2_with fail
      refine (set_ok m4 g u c (by omega) (by omega) (by omega) (by omega)).mono ?_
      rintro e w5 ⟨rfl, m5, l5, _⟩
      have lall : Below w.heap.size w w5 := ((((l1.trans (l2.mono l1.size)).trans (l3.mono (by have := l1.size; omega))).trans (l4.mono (by have := l1.size; omega))).trans (l5.mono (by have := l1.size; omega)))
      have hsw : w.heap.size ≤ s := by have := l1.size; omega
      clear l1 l2 l3 l4 l5 m2 m3 m4
      go_wp2_with fail
      go_loop [22] (fun i => ∃ r : Nat, r ≤ 8 ∧ i = .int .i64 r) (fun i => 8 - (intOf i).toNat)
      case atStart => exact ⟨0, by omega, rfl⟩
      case round =>
        obtain ⟨r, hr, rfl⟩ := hrel
        by_cases hlr : (r : Int) < 8
        · obtain ⟨X, Y, hX, hY, h1, h2, h3⟩ := last_words f g k u a c r hf1 hg1 hk1 hu1
          have HX := hide hX
          have HY := hide hY
          clear hX hY
          by_cases e1 : (r : Int) = u
          · have t1 : ((r : Int) != u) = false := by simp [e1]
            have t2 : ((r : Int) == u) = true := by simp [e1]
            have h2' := h2 e1
            subst h2'
            clear h1 h2 e1
            by_cases e2 : f = g
            · have t3 : (f != g) = false := by simp [e2]
              clear h3 e2
              go_wp2_with fail
              refine (get_val m5 _ _ _ HX.out (by omega) (by omega) (by omega) (by omega)).mono ?_
              rintro e w' ⟨rfl, rfl⟩
              go_wp2_with fail
              refine (get_val m5 _ _ _ HY.out (by omega) (by omega) (by omega) (by omega)).mono ?_
              rintro e w' ⟨rfl, rfl⟩
              go_wp2_with fail
              go_round
              case rel => exact ⟨r + 1, by omega, by go_num⟩
              case measure => simp [intOf]; omega
            · have t3 : (f != g) = true := by simp [e2]
              by_cases e3 : (r : Int) = k
              · have t4 : ((r : Int) == k) = true := by simp [e3]
                have h3' := h3 e2 e3
                subst h3'
                clear h3 e2 e3
                go_wp2_with fail
                refine (get_val m5 _ _ _ HX.out (by omega) (by omega) (by omega) (by omega)).mono ?_
                rintro e w' ⟨rfl, rfl⟩
                go_wp2_with fail
                refine (get_val m5 _ _ _ HY.out (by omega) (by omega) (by omega) (by omega)).mono ?_
                rintro e w' ⟨rfl, rfl⟩
                go_wp2_with fail
                go_round
                case rel => exact ⟨r + 1, by omega, by go_num⟩
                case measure => simp [intOf]; omega
              · have t4 : ((r : Int) == k) = false := by simp [e3]
                clear h3 e2 e3
                go_wp2_with fail
                refine (get_val m5 _ _ _ HX.out (by omega) (by omega) (by omega) (by omega)).mono ?_
                rintro e w' ⟨rfl, rfl⟩
                go_wp2_with fail
                refine (get_val m5 _ _ _ HY.out (by omega) (by omega) (by omega) (by omega)).mono ?_
                rintro e w' ⟨rfl, rfl⟩
                go_wp2_with fail
                go_round
                case rel => exact ⟨r + 1, by omega, by go_num⟩
                case measure => simp [intOf]; omega
          · have t1 : ((r : Int) != u) = true := by simp [e1]
            have t2 : ((r : Int) == u) = false := by simp [e1]
            have h1' := h1 e1
            subst h1'
            clear h1 h2 e1
            by_cases e2 : f = g
            · have t3 : (f != g) = false := by simp [e2]
              clear h3 e2
              go_wp2_with fail
              refine (get_val m5 _ _ _ HX.out (by omega) (by omega) (by omega) (by omega)).mono ?_
              rintro e w' ⟨rfl, rfl⟩
              go_wp2_with fail
              refine (get_val m5 _ _ _ HY.out (by omega) (by omega) (by omega) (by omega)).mono ?_
              rintro e w' ⟨rfl, rfl⟩
              go_wp2_with fail
              go_round
              case rel => exact ⟨r + 1, by omega, by go_num⟩
              case measure => simp [intOf]; omega
            · have t3 : (f != g) = true := by simp [e2]
              by_cases e3 : (r : Int) = k
              · have t4 : ((r : Int) == k) = true := by simp [e3]
                have h3' := h3 e2 e3
                subst h3'
                clear h3 e2 e3
                go_wp2_with fail
                refine (get_val m5 _ _ _ HX.out (by omega) (by omega) (by omega) (by omega)).mono ?_
                rintro e w' ⟨rfl, rfl⟩
                go_wp2_with fail
                refine (get_val m5 _ _ _ HY.out (by omega) (by omega) (by omega) (by omega)).mono ?_
                rintro e w' ⟨rfl, rfl⟩
                go_wp2_with fail
                go_round
                case rel => exact ⟨r + 1, by omega, by go_num⟩
                case measure => simp [intOf]; omega
              · have t4 : ((r : Int) == k) = false := by simp [e3]
                clear h3 e2 e3
                go_wp2_with fail
                refine (get_val m5 _ _ _ HX.out (by omega) (by omega) (by omega) (by omega)).mono ?_
                rintro e w' ⟨rfl, rfl⟩
                go_wp2_with fail
                refine (get_val m5 _ _ _ HY.out (by omega) (by omega) (by omega) (by omega)).mono ?_
                rintro e w' ⟨rfl, rfl⟩
                go_wp2_with fail
                go_round
                case rel => exact ⟨r + 1, by omega, by go_num⟩
                case measure => simp [intOf]; omega
        · go_wp2_with fail
          refine (zero_ok m5 f (by omega) (by omega)).mono ?_
          rintro e w6 ⟨rfl, m6, l6, _⟩
          go_wp2_with fail
          refine (set_no m6 (2 + n1) 0 1 (.inl (by omega))).mono ?_
          rintro e w' ⟨rfl, rfl⟩
          go_wp2_with fail
          go_ret
          exact ⟨rfl, lall.trans (l6.mono hsw)⟩
end Go.Proofs.Ytpokeaacnbndbaa
