/- FramesPlays at a script of at most sixty items. -/
import Derived.Test.YtpokeaacnbndbaaDoorPlays
import Derived.Test.YtpokeaacnbndbaaDoorAid
import Derived.Deep.CutBlock
import Derived.WalkSmall
namespace Go.Proofs.YtpokeaacnbndbaaDoor
open Go.RowKit Go.Maps

/-- What holds at the head of each round: the memory's words and the map's are the same. -/
def Round (w : World) (n : Int) (b s g : Nat) (q : Nat) (wr : World) : Prop :=
  ∃ D M, Mem wr b s n.toNat D ∧ IMap Tryd.prog (arr fun _ => 0) wr g q M ∧ Agree n D M ∧ Below w.heap.size w wr

/-- What holds behind the switch: the words are the same again; the error and what the document asks of it are one. -/
def Behind (w : World) (n : Int) (b s g q xb : Nat) (A : Int) (er ec : Value) (w2 : World) : Prop :=
  Round w n b s g q w2 ∧ w2.cell? ⟨xb, 1, none⟩ = some (.int .i64 A) ∧ ((er = .nilIface ∧ ec = .int .i64 0) ∨ (er = refused ∧ ec = .int .i64 2))

set_option maxRecDepth 100000 in
set_option maxHeartbeats 16000000 in
theorem plays_short (n : Int) (ad : Option Addr) (len cap : Nat) (q : Nat → Item) (w : World) (h1 : 1 ≤ n) (h2 : n ≤ 256) (hl : len ≤ 60) (hsc : Script w ad len q) (hg : w.cell? ⟨0, 0, none⟩ = some errT) :
    Calls Tryd.prog 3 #[.int .i64 n, .slice ad len cap] w fun e w' => e = .returned (.bool true) ∧ Below w.heap.size w w' := by
  have h1' : ¬ n < 1 := by omega
  have h3 : ¬ (60 : Int) < (len : Int) := by omega
  have hmm := @run_makeMap Tryd.prog
  go_enter Tryd.func3, Tryd.ntmps3
  go_wp2_with fail
  refine (new_ok _ n h1 h2).mono ?_
  rintro e w1 ⟨b, rfl, s, m1, hs, hb, l1⟩
  have e1 : (((n.toNat : Nat) : Int) != n) = false := by simp; omega
  go_wp2_with fail
  refine (len_any m1.head).mono ?_
  rintro e w' ⟨rfl, rfl⟩
  have hbg : b < w'.heap.size := m1.lt_b
  have hsg : s < w'.heap.size := m1.lt_s (by omega)
  have R0 : Round w n b s w'.heap.size 0 (w'.alloc (.map #[] 0)) :=
    ⟨_, _, m1.keep (Below.heap_alloc _ _ _ m1.lt_b) (Below.heap_alloc _ _ _ (m1.lt_s (by omega))), IMap.made Tryd.prog (arr fun _ => 0) w', fun _ _ _ => rfl, l1.alloc l1.size _⟩
  go_wp2_with fail
  go_loopg [8] len (fun k i wr => ∃ j : Nat, j + k = len ∧ i = .int .i64 j ∧ Round w n b s w'.heap.size j wr)
  case atStart => exact ⟨0, by omega, rfl, R0⟩
  case round =>
    obtain ⟨j, hj, rfl, hR⟩ := hrel
    by_cases hlt : (j : Int) < (len : Int)
    · obtain ⟨D, M, m2, i2, hM, l2⟩ := hR
      rcases hsc with h0 | ⟨blk, off, rfl, hbl, hq⟩
      · exfalso; omega
      obtain ⟨c0, c1, c2, c3⟩ := hq j (by omega)
      have d0 : wr.cell? ⟨blk, off + j * 4, none⟩ = some (.int .i64 (q j).what) := by rw [l2.cell (p := ⟨blk, off + j * 4, none⟩) hbl]; exact c0
      have d1 : wr.cell? ⟨blk, off + j * 4 + 1, none⟩ = some (.int .i64 (q j).a) := by rw [l2.cell (p := ⟨blk, off + j * 4 + 1, none⟩) hbl]; exact c1
      have d2 : wr.cell? ⟨blk, off + j * 4 + 2, none⟩ = some (.int .i64 (q j).b) := by rw [l2.cell (p := ⟨blk, off + j * 4 + 2, none⟩) hbl]; exact c2
      have d3 : wr.cell? ⟨blk, off + j * 4 + 3, none⟩ = some (.int .i64 (q j).v) := by rw [l2.cell (p := ⟨blk, off + j * 4 + 3, none⟩) hbl]; exact c3
      clear c0 c1 c2 c3 hq m1 R0
      generalize (q j).what = W at *
      generalize (q j).a = A at *
      generalize (q j).b = B at *
      generalize (q j).v = V at *
      go_wp2_with fail
      go_cut [11, 12] (fun f t wc => f = .bool (inR A n) ∧ t = .bool (inR B n) ∧ Below (wr.heap.size + 1) (wr.alloc (.cells #[.int .i64 W, .int .i64 A, .int .i64 B, .int .i64 V] 33)) wc)
      case first =>
        clear d0 d1 d2 d3 l2 hM i2 m2
        rcases tri A n with ⟨a1, ia⟩ | ⟨a1, a2, ia⟩ | ⟨a1, a2, ia⟩ <;> rcases tri B n with ⟨b1, ib⟩ | ⟨b1, b2, ib⟩ | ⟨b1, b2, ib⟩
        all_goals as_aux_lemma =>
          have IA := hide ia
          have IB := hide ib
          clear ia ib
          go_quiet (fail)
          go_wp2_with fail
          go_meet
          case rel => exact ⟨by rw [IA.out], by rw [IB.out], below_drewN (Below.refl _ _) _⟩
      case rest =>
        obtain ⟨rfl, rfl, l3⟩ := hcut
        have x0 : wc.cell? ⟨wr.heap.size, 0, none⟩ = some (.int .i64 W) := by rw [l3.cell (p := ⟨wr.heap.size, 0, none⟩) (by simp)]; simp
        have x1 : wc.cell? ⟨wr.heap.size, 1, none⟩ = some (.int .i64 A) := by rw [l3.cell (p := ⟨wr.heap.size, 1, none⟩) (by simp)]; simp
        have x2 : wc.cell? ⟨wr.heap.size, 2, none⟩ = some (.int .i64 B) := by rw [l3.cell (p := ⟨wr.heap.size, 2, none⟩) (by simp)]; simp
        have x3 : wc.cell? ⟨wr.heap.size, 3, none⟩ = some (.int .i64 V) := by rw [l3.cell (p := ⟨wr.heap.size, 3, none⟩) (by simp)]; simp
        have l4 : Below wr.heap.size wr wc := ((Below.refl _ _).alloc (Nat.le_refl _) _).trans (l3.mono (by omega))
        have m3 : Mem wc b s n.toNat D := m2.keep (l4.block _ m2.lt_b) (l4.block _ (m2.lt_s (by omega)))
        have i3 := i2.keep (l4.block _ i2.lt)
        have l5 : Below w.heap.size w wc := l2.trans (l4.mono l2.size)
        have xlt : ∀ k, k < wr.heap.size + 1 → k < wc.heap.size := by intro k hk; have := l3.size; simp at this; omega
        have sx : s ≠ wr.heap.size := by have := m2.lt_s (by omega); omega
        have gx : w'.heap.size < wr.heap.size := i2.lt
        have bx : w.heap.size ≤ wr.heap.size := l2.size
        clear d0 d1 d2 d3 l2 l3 l4 m2 i2
        generalize wr.heap.size = xb at *
        go_upto_region 13 with fail
        go_cut [13] (fun t w2 => t = .bool (inR B 8) ∧ w2 = wc)
        case first =>
          rcases tri B 8 with ⟨b1, ib⟩ | ⟨b1, b2, ib⟩ | ⟨b1, b2, ib⟩
          all_goals as_aux_lemma =>
            have IB := hide ib
            clear ib
            go_wp2_with fail
            go_meet
            case rel => exact ⟨by rw [IB.out], rfl⟩
        case rest =>
          obtain ⟨rfl, rfl⟩ := hcut
          have hsb : w.heap.size ≤ s := by omega
          have hgg : w.heap.size ≤ w'.heap.size := by omega
          generalize w'.heap.size = g at *
          have hxb : xb < wc.heap.size := xlt _ (by omega)
          go_upto_block 2 with fail
          go_cut [6, 10, 11, 12, 13, 104] (fun er ec f _ _ _ w2 => f = .bool (inR A n) ∧ Behind w n b s g (j + 1) xb A er ec w2)
          case first =>
            have hno : Behind w n b s g (j + 1) xb A refused (.int .i64 2) wc := ⟨⟨D, M, m3, i3.more (by omega), hM, l5⟩, x1, .inr ⟨rfl, rfl⟩⟩
            rcases four W with r | r | r | r
            · as_aux_lemma =>
                cases ia : inR A n
                · go_wp2_with fail
                  refine (set_no m3 A B V (.inl (by have := inR_not ia; omega))).mono ?_
                  rintro e w4 ⟨rfl, rfl⟩
                  go_wp2_with fail
                  go_meet
                  case rel => exact ⟨by rw [ia], hno⟩
                · cases ib : inR B 8
                  · go_wp2_with fail
                    refine (set_no m3 A B V (.inr (inR_not ib))).mono ?_
                    rintro e w4 ⟨rfl, rfl⟩
                    go_wp2_with fail
                    go_meet
                    case rel => exact ⟨by rw [ia], hno⟩
                  · obtain ⟨a1, a2⟩ := inR_out ia
                    obtain ⟨b1, b2⟩ := inR_out ib
                    go_wp2_with fail
                    refine (set_ok m3 A B V a1 (by omega) b1 b2).mono ?_
                    rintro e w4 ⟨rfl, m4, _, g4⟩
                    have i4 := i3.keep (g4.block _ i3.lt (by simp; omega))
                    have y1 := g4.cell x1 (by simp; omega)
                    have y2 := g4.cell x2 (by simp; omega)
                    have y3 := g4.cell x3 (by simp; omega)
                    have hMA : M A = arr (D A.toNat) := hM A a1 a2
                    go_upto_region 26 with fail
                    go_cut [14] (fun p w5 => ∃ pb, p = .pointer (some ⟨pb, 0, none⟩) ∧ w5.rangeAt pb 0 (eight (D A.toNat)) ∧ w5.there pb 0 8 ∧ w4.heap.size ≤ pb ∧ w4.grownBy w5 none)
                    case first =>
                      have hth := there_new w4
                      go_wp2_with (first | (at_lookup; refine wpList_look rfl _ _ 31 rfl 36 Tryd.underlying31 _ (zero8 _) g j M rfl i4 A rfl (wf_in a1 a2 h2) ?_) | (refine wpList_store_mid rfl 36 _ _ rfl w4.heap.size 0 (eight (D A.toNat)).toArray rfl rfl hth (by kernel_rfl) (all_oneCell_toArray (eight_one _)) ?_))
                      go_meet
                      case rel => exact ⟨_, rfl, World.rangeAt_setCells_same _ _ _ _ hth, World.there_setCells hth _ _ _, Nat.le_refl _, grown_new _ _ _ _⟩
                    case rest =>
                      obtain ⟨pb, rfl, hr, ht, hpb, g5⟩ := hcut
                      have z1 := g5.cell y1 (by simp)
                      have z2 := g5.cell y2 (by simp)
                      have z3 := g5.cell y3 (by simp)
                      have k1 : wc.cell? ⟨pb, B.toNat, none⟩ = some (.int .i64 (D A.toNat B.toNat)) := by
                        have := hr B.toNat _ (eight_get _ _ (by omega)); rwa [Nat.zero_add] at this
                      have k2 : wc.frozen? ⟨pb, B.toNat, none⟩ = false := by
                        have := (ht B.toNat (by omega)).2; rwa [Nat.zero_add] at this
                      have hr' := range_set hr B.toNat (by omega) V
                      have lt4 := m4.lt_s (by omega)
                      have i5 : IMap Tryd.prog (arr fun _ => 0) (wc.setCell ⟨pb, B.toNat, none⟩ (.int .i64 V)) g j M := i4.keep (by rw [Below.heap_setCell _ _ _ _ (by have := i4.lt; show g ≠ pb; omega)]; exact g5.block _ i4.lt (by simp))
                      have px : ¬ pb = xb := by have := World.block_lt_of_cell? w4 _ y1; simp at this; omega
                      have xp : ¬ xb = pb := fun e => px e.symm
                      have z1' : (wc.setCell ⟨pb, B.toNat, none⟩ (.int .i64 V)).cell? ⟨xb, 1, none⟩ = some (.int .i64 A) := by
                        rw [World.cell?_setCell_other _ _ _ _ (by intro q; exact px (congrArg Addr.block q))]; exact z1
                      go_wp2_with (first | (refine wpList_load_mid rfl 36 _ rfl pb 0 rfl _ _ hr' Tryd.underlying36 rfl (by kernel_rfl) ?_) | (at_mapUpdate; refine wpList_put rfl _ _ _ 31 rfl 36 Tryd.underlying31 _ g j M rfl i5 (by unfold maxLen; omega) A rfl (wf_in a1 a2 h2) _ rfl ?_; intro w6 i6 g6))
                      go_meet
                      case rel =>
                        have e4 : Below w.heap.size w w4 := l5.grown g4 l5.size (by intro k hk; cases hk; exact hsb)
                        have e5 := e4.grown g5 e4.size (by intro k hk; cases hk)
                        have e6 := e5.setCell (p := ⟨pb, B.toNat, none⟩) (by show w.heap.size ≤ pb; have := e4.size; omega) (.int .i64 V)
                        have e7 := e6.grown g6 e6.size (by intro k hk; cases hk; exact hgg)
                        have eb : ∀ k, k < w4.heap.size → k ≠ g → w6.heap[k]? = w4.heap[k]? := fun k hk hne =>
                          (g6.block k (by have := g5.size; simp [World.setCell]; omega) (by simpa using hne)).trans ((Below.heap_setCell _ _ _ _ (by show k ≠ pb; omega)).trans (g5.block k hk (by simp)))
                        refine ⟨by rw [ia], ⟨⟨_, _, m4.keep (eb _ m4.lt_b (by omega)) (eb _ lt4 (by omega)), i6, hM.upd A a1 B.toNat V, e7⟩, ?_, .inl ⟨rfl, rfl⟩⟩⟩
                        exact g6.cell z1' (by simp; omega)
            · as_aux_lemma =>
                cases ia : inR A n
                · go_wp2_with fail
                  refine (zero_no m3 A (by have := inR_not ia; omega)).mono ?_
                  rintro e w4 ⟨rfl, rfl⟩
                  go_wp2_with fail
                  go_meet
                  case rel => exact ⟨by rw [ia], hno⟩
                · obtain ⟨a1, a2⟩ := inR_out ia
                  go_wp2_with fail
                  refine (zero_ok m3 A a1 (by omega)).mono ?_
                  rintro e w4 ⟨rfl, m4, _, g4⟩
                  have i4 := i3.keep (g4.block _ i3.lt (by simp; omega))
                  have y1 := g4.cell x1 (by simp; omega)
                  have lt4 := m4.lt_s (by omega)
                  go_wp2_with (first | (at_mapUpdate; refine wpList_put rfl _ _ _ 31 rfl 36 Tryd.underlying31 _ g j M rfl i4 (by unfold maxLen; omega) A rfl (wf_in a1 a2 h2) _ rfl ?_; intro w6 i6 g6))
                  go_meet
                  case rel =>
                    have e4 : Below w.heap.size w w4 := l5.grown g4 l5.size (by intro k hk; cases hk; exact hsb)
                    have e7 := e4.grown g6 e4.size (by intro k hk; cases hk; exact hgg)
                    refine ⟨by rw [ia], ⟨⟨_, _, m4.keep (g6.block _ m4.lt_b (by simp; omega)) (g6.block _ lt4 (by simp; omega)), i6, hM.row A a1 _, e7⟩, ?_, .inl ⟨rfl, rfl⟩⟩⟩
                    exact g6.cell y1 (by simp; omega)
            · as_aux_lemma =>
                cases ia : inR A n
                · go_wp2_with fail
                  refine (copy_no m3 A B (.inl (by have := inR_not ia; omega))).mono ?_
                  rintro e w4 ⟨rfl, rfl⟩
                  go_wp2_with fail
                  go_meet
                  case rel => exact ⟨by rw [ia], hno⟩
                · cases ib : inR B n
                  · go_wp2_with fail
                    refine (copy_no m3 A B (.inr (by have := inR_not ib; omega))).mono ?_
                    rintro e w4 ⟨rfl, rfl⟩
                    go_wp2_with fail
                    go_meet
                    case rel => exact ⟨by rw [ia], hno⟩
                  · obtain ⟨a1, a2⟩ := inR_out ia
                    obtain ⟨b1, b2⟩ := inR_out ib
                    go_wp2_with fail
                    refine (copy_ok m3 A B a1 (by omega) b1 (by omega)).mono ?_
                    rintro e w4 ⟨rfl, m4, _, g4⟩
                    have i4 := i3.keep (g4.block _ i3.lt (by simp; omega))
                    have y1 := g4.cell x1 (by simp; omega)
                    have y2 := g4.cell x2 (by simp; omega)
                    have lt4 := m4.lt_s (by omega)
                    have hMB : M B = arr (D B.toNat) := hM B b1 b2
                    go_wp2_with (first | (at_lookup; refine wpList_look rfl _ _ 31 rfl 36 Tryd.underlying31 _ (zero8 _) g j M rfl i4 B rfl (wf_in b1 b2 h2) ?_) | (at_mapUpdate; refine wpList_put rfl _ _ _ 31 rfl 36 Tryd.underlying31 _ g j M rfl i4 (by unfold maxLen; omega) A rfl (wf_in a1 a2 h2) (M B) rfl ?_; intro w6 i6 g6))
                    go_meet
                    case rel =>
                      have e4 : Below w.heap.size w w4 := l5.grown g4 l5.size (by intro k hk; cases hk; exact hsb)
                      have e7 := e4.grown g6 e4.size (by intro k hk; cases hk; exact hgg)
                      have ag := hM.row A a1 (D B.toNat)
                      rw [← hMB] at ag
                      refine ⟨by rw [ia], ⟨⟨_, _, m4.keep (g6.block _ m4.lt_b (by simp; omega)) (g6.block _ lt4 (by simp; omega)), i6, ag, e7⟩, ?_, .inl ⟨rfl, rfl⟩⟩⟩
                      exact g6.cell y1 (by simp; omega)
            · as_aux_lemma =>
                cases ia : inR A n
                · go_wp2_with fail
                  refine (get_no m3 A B (.inl (by have := inR_not ia; omega))).mono ?_
                  rintro e w4 ⟨rfl, rfl⟩
                  go_wp2_with fail
                  go_meet
                  case rel => exact ⟨by rw [ia], hno⟩
                · cases ib : inR B 8
                  · go_wp2_with fail
                    refine (get_no m3 A B (.inr (inR_not ib))).mono ?_
                    rintro e w4 ⟨rfl, rfl⟩
                    go_wp2_with fail
                    go_meet
                    case rel => exact ⟨by rw [ia], hno⟩
                  · obtain ⟨a1, a2⟩ := inR_out ia
                    obtain ⟨b1, b2⟩ := inR_out ib
                    have hMA : M A = arr (D A.toNat) := hM A a1 a2
                    have hix := idx (D A.toNat) B b1 b2
                    go_wp2_with fail
                    refine (get_ok m3 A B a1 (by omega) b1 b2).mono ?_
                    rintro e w4 ⟨rfl, rfl⟩
                    go_wp2_with (first | (at_lookup; refine wpList_look rfl _ _ 31 rfl 36 Tryd.underlying31 _ (zero8 _) g j M rfl (by assumption) A rfl (wf_in a1 a2 h2) ?_))
                    go_meet
                    case rel => exact ⟨by rw [ia], ⟨⟨D, M, m3, i3.more (by omega), hM, l5⟩, x1, .inl ⟨rfl, rfl⟩⟩⟩
          case rest =>
            obtain ⟨rfl, ⟨D2, M2, m7, i7, hM7, l7⟩, c1, hcase⟩ := hcut
            clear x0 x1 x2 x3 m3 i3 hM l5 xlt hxb
            have hgc : wc.cell? ⟨0, 0, none⟩ = some errT := by
              rw [l7.cell (p := ⟨0, 0, none⟩) (World.block_lt_of_cell? w _ hg)]; exact hg
            go_upto_region 41 with fail
            go_cut [200] (fun t w8 => t = .bool false ∧ Below wc.heap.size wc w8)
            case first =>
              as_aux_lemma =>
                rcases hcase with ⟨rfl, rfl⟩ | ⟨rfl, rfl⟩
                · go_wp2_with fail
                  refine (bare_nil _).mono ?_
                  rintro e w8 ⟨rfl, l8⟩
                  go_wp2_with fail
                  go_meet
                  case rel => exact ⟨rfl, l8⟩
                · go_wp2_with fail
                  refine (bare_eno 2 _ hgc).mono ?_
                  rintro e w8 ⟨rfl, l8⟩
                  go_wp2_with fail
                  go_meet
                  case rel => exact ⟨rfl, l8⟩
            case rest =>
              obtain ⟨rfl, l8⟩ := hcut
              clear hcase hgc
              have m8 : Mem wc b s n.toNat D2 := m7.keep (l8.block _ m7.lt_b) (l8.block _ (m7.lt_s (by omega)))
              have i8 := i7.keep (l8.block _ i7.lt)
              have c8 : wc.cell? ⟨xb, 1, none⟩ = some (.int .i64 A) := by
                rw [l8.cell (p := ⟨xb, 1, none⟩) (World.block_lt_of_cell? _ _ c1)]; exact c1
              have R8 : Round w n b s g (j + 1) wc := ⟨D2, M2, m8, i8, hM7, l7.trans (l8.mono l7.size)⟩
              clear c1 l8 l7 m7 i7
              cases ia : inR A n
              · as_aux_lemma =>
                  clear i8 m8
                  go_wp2_with fail
                  refine wp_loop_rounds 1 ?_
                  rw [rounds_succ]
                  go_wp2_with fail
                  go_roundg (gk - 1)
                  case measure => omega
                  case rel => exact ⟨j + 1, by omega, by go_num, R8⟩
              · as_aux_lemma =>
                  obtain ⟨a1, a2⟩ := inR_out ia
                  have hlk : (Instr.lookup 31 (.map (some g)) (.int .i64 A) false).run Tryd.prog wc = .ok (arr (D2 A.toNat)) wc := by
                    rw [i8.look Tryd.underlying31 (zero8 _) A (wf_in a1 a2 h2), hM7 A a1 a2]
                  clear i8 hM7
                  go_wp2_with fail
                  go_loopg [16] 8 (fun k i w9 => ∃ r : Nat, r + k = 8 ∧ i = .int .i64 r ∧ w9 = wc)
                  case atStart => exact ⟨0, by omega, rfl, rfl⟩
                  case round =>
                    obtain ⟨r, hr, rfl, rfl⟩ := hrel
                    by_cases hlr : (r : Int) < 8
                    · have hix := idx (D2 A.toNat) r (by omega) hlr
                      go_wp2_with fail
                      refine (get_ok m8 A r a1 (by omega) (by omega) hlr).mono ?_
                      rintro e w9 ⟨rfl, rfl⟩
                      go_wp2_with fail
                      go_roundg (8 - r - 1)
                      case measure => omega
                      case rel => exact ⟨r + 1, by omega, by go_num, rfl⟩
                    · go_wp2_with fail
                      go_roundg (len - j - 1)
                      case measure => omega
                      case rel => exact ⟨j + 1, by omega, by go_num, R8⟩
    · go_wp2_with fail
      go_ret
      obtain ⟨_, _, _, _, _, l2⟩ := hR
      exact ⟨rfl, l2⟩
end Go.Proofs.YtpokeaacnbndbaaDoor
