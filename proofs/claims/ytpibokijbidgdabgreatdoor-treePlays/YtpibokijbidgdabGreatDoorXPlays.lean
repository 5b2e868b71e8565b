/- TreePlays: the walk of its Go text. -/
import Derived.Test.YtpibokijbidgdabGreatDoorXFiles
namespace Go.Proofs.YtpibokijbidgdabGreatDoor
open Go.RowKit Go.Maps

/-- Between two items. -/
structure PL (w : World) (r r2 : Nat) (m : Int) (k : Nat) (wr : World) : Prop where
  st : ∃ T A, BT wr r r2 T T A m ∧ TrLv T ∧ Sm k T ∧ ∀ i, A i → w.heap.size ≤ i
  bel : Below w.heap.size w wr

section
variable {w wr w' : World} {r r2 : Nat} {m : Int} {k : Nat}
theorem PL.below (h : PL w r r2 m k wr) (hb : Below wr.heap.size wr w') : PL w r r2 m k w' := by
  obtain ⟨T, A, h1, h2, h3, h4⟩ := h.st
  exact ⟨⟨T, A, h1.below hb, h2, h3, h4⟩, h.bel.trans (hb.mono h.bel.size)⟩
theorem PL.more (h : PL w r r2 m k wr) {k' : Nat} (hk : k ≤ k') : PL w r r2 m k' wr := by
  obtain ⟨T, A, h1, h2, h3, h4⟩ := h.st
  exact ⟨⟨T, A, h1, h2, h3.more hk, h4⟩, h.bel⟩
theorem PL.next {A : Nat → Prop} (hb : Below w.heap.size w wr) (hA : ∀ i, A i → w.heap.size ≤ i) (h : Nxt wr r r2 A m k w') : PL w r r2 m k w' := by
  obtain ⟨T', A', h1, st, h2, h3⟩ := h
  refine ⟨⟨T', A', h1, h2, h3, fun i hi => ?_⟩, ⟨st.wt.os.trans hb.os, st.wt.tape.trans hb.tape, st.wt.output.trans hb.output, Nat.le_trans hb.size st.wt.size, fun i hi => (st.wt.block i (Nat.lt_of_lt_of_le hi hb.size) (fun ha => by have := hA i ha; omega)).trans (hb.block i hi)⟩⟩
  rcases st.own i hi with e | e
  · exact hA i e
  · exact Nat.le_trans hb.size e
theorem PL.names (h : PL w r r2 m k wr) (hk : k ≤ 800) (W X Y : Int) (p q : List UInt8) (hp : p.length < 100000) (hq : q.length < 100000) :
    Calls Tryz.prog 8 #[wp r, wp r2, .agg #[.int .i64 W, .int .i64 X, .int .i64 Y, tx p, tx q]] wr fun e w' => e = .returned (.bool true) ∧ PL w r r2 m (k + 1) w' := by
  obtain ⟨T, A, h1, h2, h3, h4⟩ := h.st
  refine (names_all h1 h2 h3 hk W X Y p q hp hq).mono ?_
  rintro e w' ⟨rfl, hn⟩
  exact ⟨rfl, PL.next h.bel h4 hn⟩
theorem PL.files (h : PL w r r2 m k wr) (hk : k ≤ 800) (W X Y : Int) (hw : (Lit.int .i64 X).wf = true) (p q : List UInt8) (hp : p.length < 100000) :
    Calls Tryz.prog 9 #[wp r, wp r2, .agg #[.int .i64 W, .int .i64 X, .int .i64 Y, tx p, tx q]] wr fun e w' => e = .returned (.bool true) ∧ PL w r r2 m (k + 1) w' := by
  obtain ⟨T, A, h1, h2, h3, h4⟩ := h.st
  refine (files_all h1 h2 h3 hk W X Y hw p q hp).mono ?_
  rintro e w' ⟨rfl, hn⟩
  exact ⟨rfl, PL.next h.bel h4 hn⟩
/-- How many nodes there are, told by both. -/
theorem PL.nodes (h : PL w r r2 m k wr) : ∃ (s gN : Nat) (M : Int → Option Value), Calls Tryz.prog 10 #[wp r] wr (fun e w' => e = .returned (.int .i64 (s : Int)) ∧ w' = wr) ∧ wr.cell? ⟨r2, 0, none⟩ = some (.map (some gN)) ∧ PMap wr gN s M := by
  obtain ⟨T, A, h1, h2, h3, h4⟩ := h.st
  obtain ⟨O, gN, s, G, p1, p2, _⟩ := h1.both
  exact ⟨s, gN, _, p1.nodes_ok p2.num, p2.c0, p2.map⟩

theorem PL.first (w : World) (m : Int) (hm : w.cell? ⟨2, 0, none⟩ = some (.int .i64 m)) (hg : w.cell? ⟨0, 0, none⟩ = some errT) :
    Calls Tryz.prog 6 #[] w fun e w1 => ∃ r, e = .returned (wp r) ∧ Calls Tryz.prog 7 #[] w1 fun e w2 => ∃ r2, e = .returned (wp r2) ∧ PL w r r2 m 0 w2 := by
  refine (new_ok w).mono ?_
  rintro e w1 ⟨r, O, rfl, p1, b1, hO⟩
  refine ⟨r, rfl, (newTree_ok w1).mono ?_⟩
  rintro e w2 ⟨r2, rfl, gN, g, p2, b2, l1, l2, l3⟩
  have b9 : Below w.heap.size w w2 := b1.trans (b2.mono b1.size)
  have hml : 2 < w.heap.size := World.block_lt_of_cell? w _ hm
  have hel : 0 < w.heap.size := World.block_lt_of_cell? w _ hg
  refine ⟨r2, rfl, ⟨⟨nullT, fun i => w.heap.size ≤ i ∧ i < w2.heap.size, ⟨⟨O, gN, 1, fun _ => g, p1.below b2, p2, fun i ho ht => ?_, fun i ho => ⟨hO i ho, Nat.lt_of_lt_of_le (p1.lt i ho) b2.size⟩, fun i ht => ⟨?_, p2.lt ht⟩⟩, fun i hi => hi.2, maxLen_kept hm b9, fun h => by have := h.1; omega, ?_, fun h => by have := h.1; omega⟩, nullT_lv, ⟨fun i C e => ?_, fun i b x e => ?_⟩, fun i hi => hi.1⟩, b9⟩⟩
  · have := p1.lt i ho
    rcases ht with e | e | ⟨_, _, _, e⟩
    · omega
    · omega
    · have e : i = g := e
      omega
  · have := b1.size
    rcases ht with e | e | ⟨_, _, _, e⟩
    · omega
    · omega
    · have e : i = g := e
      omega
  · rw [b9.cell (p := ⟨0, 0, none⟩) hel]; exact hg
  · obtain ⟨_, e9⟩ := nullT_node e; cases e9; simp
  · obtain ⟨_, e9⟩ := nullT_node e; cases e9
end

/-- Between two items, with one at hand. -/
structure PB (w : World) (r r2 : Nat) (m : Int) (k j : Nat) (xs : Array Value) (wr : World) : Prop where
  st : ∃ T A, NB wr j xs r r2 T T A m ∧ TrLv T ∧ Sm k T ∧ ∀ i, A i → w.heap.size ≤ i
  bel : Below w.heap.size w wr
section
variable {w wr w' : World} {r r2 : Nat} {m : Int} {k j : Nat} {xs : Array Value}
theorem PL.box (h : PL w r r2 m k wr) (xs : Array Value) : PB w r r2 m k wr.heap.size xs (wr.alloc (.cells xs 31)) := by
  obtain ⟨T, A, h1, h2, h3, h4⟩ := h.st
  exact ⟨⟨T, A, NB.new h1 xs, h2, h3, h4⟩, h.bel.alloc h.bel.size _⟩
theorem PB.pl (h : PB w r r2 m k j xs wr) : PL w r r2 m k wr := by
  obtain ⟨T, A, h1, h2, h3, h4⟩ := h.st
  exact ⟨⟨T, A, h1.bt, h2, h3, h4⟩, h.bel⟩
theorem PB.cell (h : PB w r r2 m k j xs wr) (i : Nat) : wr.cell? ⟨j, i, none⟩ = xs[i]? := by
  obtain ⟨T, A, h1, _⟩ := h.st
  exact h1.cell i
theorem PB.below (h : PB w r r2 m k j xs wr) (hb : Below wr.heap.size wr w') : PB w r r2 m k j xs w' := by
  obtain ⟨T, A, h1, h2, h3, h4⟩ := h.st
  exact ⟨⟨T, A, h1.below hb, h2, h3, h4⟩, h.bel.trans (hb.mono h.bel.size)⟩
theorem PB.next {T : Wd} {A : Nat → Prop} {k' : Nat} (hb : Below w.heap.size w wr) (h1 : NB wr j xs r r2 T T A m) (hA : ∀ i, A i → w.heap.size ≤ i) (h : Nxt wr r r2 A m k' w') : PB w r r2 m k' j xs w' := by
  have hp := PL.next hb hA h
  obtain ⟨T', A', b1, st, h2, h3⟩ := h
  refine ⟨⟨T', A', h1.step b1 st, h2, h3, fun i hi => ?_⟩, hp.bel⟩
  rcases st.own i hi with e | e
  · exact hA i e
  · exact Nat.le_trans hb.size e
theorem PB.names (h : PB w r r2 m k j xs wr) (hk : k ≤ 800) (W X Y : Int) (p q : List UInt8) (hp : p.length < 100000) (hq : q.length < 100000) :
    Calls Tryz.prog 8 #[wp r, wp r2, .agg #[.int .i64 W, .int .i64 X, .int .i64 Y, tx p, tx q]] wr fun e w' => e = .returned (.bool true) ∧ PB w r r2 m (k + 1) j xs w' := by
  obtain ⟨T, A, h1, h2, h3, h4⟩ := h.st
  refine (names_all h1.bt h2 h3 hk W X Y p q hp hq).mono ?_
  rintro e w' ⟨rfl, hn⟩
  exact ⟨rfl, PB.next h.bel h1 h4 hn⟩
theorem PB.files (h : PB w r r2 m k j xs wr) (hk : k ≤ 800) (W X Y : Int) (hw : (Lit.int .i64 X).wf = true) (p q : List UInt8) (hp : p.length < 100000) :
    Calls Tryz.prog 9 #[wp r, wp r2, .agg #[.int .i64 W, .int .i64 X, .int .i64 Y, tx p, tx q]] wr fun e w' => e = .returned (.bool true) ∧ PB w r r2 m (k + 1) j xs w' := by
  obtain ⟨T, A, h1, h2, h3, h4⟩ := h.st
  refine (files_all h1.bt h2 h3 hk W X Y hw p q hp).mono ?_
  rintro e w' ⟨rfl, hn⟩
  exact ⟨rfl, PB.next h.bel h1 h4 hn⟩
end

/-- One item of the script. -/
structure NItem where
  what : Int
  n : Int
  a : Int
  s : List UInt8
  t : List UInt8
/-- The items lie in the argument's array. -/
def NScript (w : World) (ad : Option Addr) (len : Nat) (q : Nat → NItem) : Prop :=
  len = 0 ∨ ∃ blk off, ad = some ⟨blk, off, none⟩ ∧ blk < w.heap.size ∧ ∀ i, i < len →
    w.cell? ⟨blk, off + i * 5, none⟩ = some (.int .i64 (q i).what) ∧ w.cell? ⟨blk, off + i * 5 + 1, none⟩ = some (.int .i64 (q i).n) ∧ w.cell? ⟨blk, off + i * 5 + 2, none⟩ = some (.int .i64 (q i).a) ∧ w.cell? ⟨blk, off + i * 5 + 3, none⟩ = some (tx (q i).s) ∧ w.cell? ⟨blk, off + i * 5 + 4, none⟩ = some (tx (q i).t) ∧ (Lit.int .i64 (q i).n).wf = true

set_option maxRecDepth 100000 in
set_option maxHeartbeats 1000000 in
theorem xplays_long (fill : Int) (ad : Option Addr) (len cap : Nat) (w : World) (h : 60 < len) :
    Calls Tryz.prog 3 #[.int .i64 fill, .slice ad len cap] w fun e w' => e = .returned (.bool true) ∧ Below w.heap.size w w' := by
  have h1 : (60 : Int) < (len : Int) := by omega
  go_enter Tryz.func3, Tryz.ntmps3
  go_wp2_with fail
  go_ret
  exact ⟨rfl, Below.refl _ _⟩

theorem ppick_bounds (a n : Int) (h1 : 1 ≤ n) (h2 : n ≤ 1000000) : 0 ≤ wrap64 ((IntKind.u64.wrap a).tmod n) ∧ wrap64 ((IntKind.u64.wrap a).tmod n) < n := by
  have h0 : 0 ≤ IntKind.u64.wrap a := by rw [IntKind.wrap_u64]; omega
  have ht : (IntKind.u64.wrap a).tmod n = IntKind.u64.wrap a % n := Int.tmod_eq_emod_of_nonneg h0
  have l := Int.emod_nonneg (IntKind.u64.wrap a) (b := n) (by omega)
  have u := Int.emod_lt_of_pos (IntKind.u64.wrap a) (b := n) (by omega)
  rw [ht, show wrap64 (IntKind.u64.wrap a % n) = IntKind.u64.wrap a % n by unfold wrap64; omega]
  exact ⟨l, u⟩

theorem tree_ne (b : Nat) (w : World) : (binOp BinOp.eql 23 (wp b) (.pointer none)).run Tryz.prog w = .ok (.bool false) w := by kernel_rfl

set_option maxRecDepth 100000 in
set_option maxHeartbeats 16000000 in
theorem xplays_short (fill : Int) (ad : Option Addr) (len cap : Nat) (q : Nat → NItem) (w : World) (h1 : len ≤ 60) (hsc : NScript w ad len q) (m : Int) (hm : w.cell? ⟨2, 0, none⟩ = some (.int .i64 m)) (hg : w.cell? ⟨0, 0, none⟩ = some errT) :
    Calls Tryz.prog 3 #[.int .i64 fill, .slice ad len cap] w fun e w' => e = .returned (.bool true) ∧ Below w.heap.size w w' := by
  have h1' : ¬ (60 : Int) < (len : Int) := by omega
  have hN := PL.first w m hm hg
  have hne := tree_ne
  have hfb := ppick_bounds fill 62 (by omega) (by omega)
  obtain ⟨F, hF⟩ : ∃ F : Nat, wrap64 ((IntKind.u64.wrap fill).tmod 62) = F := ⟨(wrap64 ((IntKind.u64.wrap fill).tmod 62)).toNat, by omega⟩
  rw [hF] at hfb
  go_enter Tryz.func3, Tryz.ntmps3
  go_wp2_with (first
    | (go_at_call 6; refine hN.mono ?_; rintro e w1 ⟨r, rfl, hN2⟩)
    | (go_at_call 7; refine hN2.mono ?_; rintro e w2 ⟨r2, rfl, hL⟩))
  clear hN hN2
  go_loopg [7] 62 (fun k s7 wr => ∃ (j : Nat), j + k = 62 ∧ j ≤ F ∧ s7 = .int .i64 (j : Int) ∧ PL w r r2 m j wr)
  case atStart => exact ⟨0, by omega, by omega, rfl, hL⟩
  case round =>
    obtain ⟨j, hj, hjF, rfl, hP⟩ := hrel
    clear hL
    by_cases hlt : (j : Int) < (F : Int)
    · have hNm := fun b W (h : PL w r r2 m j W) => h.names (by omega) 2 0 0 [47, 102, b] [] (by simp) (by simp)
      have hb1 : wrap64 (65 + (j : Int)) = 65 + (j : Int) := by unfold wrap64; omega
      obtain ⟨b, hb⟩ : ∃ b : UInt8, (b.toNat : Int) = 65 + (j : Int) := ⟨UInt8.ofNat (65 + j), by rw [UInt8.toNat_ofNat', Nat.mod_eq_of_lt (by omega)]; omega⟩
      have hb2 : IntKind.u8.wrap (65 + (j : Int)) = (b.toNat : Int) := by rw [hb]; show (65 + (j : Int)) % 256 = _; omega
      have hcv : (convert 29 9 (.slice (some ⟨wr.heap.size, 0, none⟩) 1 1)).run Tryz.prog (wr.alloc (.cells #[.int .u8 (b.toNat : Int)] 5)) = .ok (tx [b]) (wr.alloc (.cells #[.int .u8 (b.toNat : Int)] 5)) :=
        run_convert_bytes_back (P := Tryz.prog) _ 29 9 5 ⟨wr.heap.size, 0, none⟩ 1 [b] Tryz.underlying29 Tryz.underlying5 Tryz.underlying9 (fun i hi => by
          have : i = 0 := by simpa using hi
          subst this
          rw [Addr.add_lit]; simp)
      have hNm1 := hNm b _ (hP.below ((Below.refl _ wr).alloc (Nat.le_refl _) (.cells #[.int .u8 (b.toNat : Int)] 5)))
      have hcat : ((⟨#[47, 102]⟩ : ByteArray) ++ ⟨[b].toArray⟩) = ⟨[47, 102, b].toArray⟩ := wtext_cat [47, 102] [b]
      clear hb
      go_wp2_with (go_at_call 8; refine hNm1.mono ?_; rintro e w3 ⟨rfl, h3⟩)
      go_roundg (gk - 1)
      case measure => omega
      case rel => exact ⟨j + 1, by omega, by omega, by go_num, h3⟩
    · have hP2 : PL w r r2 m 62 wr := hP.more (by omega)
      have hjF2 : j = F := by omega
      subst hjF2
      clear hP hjF
      go_wp2_with fail
      clear hF hlt hfb
      go_loopg [8] len (fun k s8 wr => ∃ (i : Nat), i + k = len ∧ s8 = .int .i64 (i : Int) ∧ PL w r r2 m (62 + i) wr)
      case atStart => exact ⟨0, by omega, rfl, hP2⟩
      case round =>
        obtain ⟨i, hi, rfl, hP⟩ := hrel
        clear hP2
        by_cases hlt : (i : Int) < (len : Int)
        · rcases hsc with h0 | ⟨blk, off, rfl, hbl, hss⟩
          · exfalso; omega
          obtain ⟨c0, c1, c2, c3, c4, hwn⟩ := hss i (by omega)
          have hB := hP.bel
          have d0 : wr.cell? ⟨blk, off + i * 5, none⟩ = some (.int .i64 (q i).what) := by rw [hB.cell (p := ⟨blk, off + i * 5, none⟩) hbl]; exact c0
          have d1 : wr.cell? ⟨blk, off + i * 5 + 1, none⟩ = some (.int .i64 (q i).n) := by rw [hB.cell (p := ⟨blk, off + i * 5 + 1, none⟩) hbl]; exact c1
          have d2 : wr.cell? ⟨blk, off + i * 5 + 2, none⟩ = some (.int .i64 (q i).a) := by rw [hB.cell (p := ⟨blk, off + i * 5 + 2, none⟩) hbl]; exact c2
          have d3 : wr.cell? ⟨blk, off + i * 5 + 3, none⟩ = some (tx (q i).s) := by rw [hB.cell (p := ⟨blk, off + i * 5 + 3, none⟩) hbl]; exact c3
          have d4 : wr.cell? ⟨blk, off + i * 5 + 4, none⟩ = some (tx (q i).t) := by rw [hB.cell (p := ⟨blk, off + i * 5 + 4, none⟩) hbl]; exact c4
          clear c0 c1 c2 c3 c4 hss hB
          generalize (q i).what = W at *
          generalize (q i).n = X at *
          generalize (q i).a = Y at *
          generalize (q i).s = S at *
          generalize (q i).t = U at *
          go_upto_region 15 with fail
          obtain ⟨xs, hxs⟩ : ∃ xs : Array Value, #[.int .i64 W, .int .i64 X, .int .i64 Y, tx S, tx U] = xs := ⟨_, rfl⟩
          rw [hxs]
          have B0 := hP.box xs
          have hcells : ∀ {w1 : World} {k1 : Nat}, PB w r r2 m k1 wr.heap.size xs w1 → w1.cell? ⟨wr.heap.size, 0, none⟩ = some (.int .i64 W) ∧ w1.cell? ⟨wr.heap.size, 1, none⟩ = some (.int .i64 X) ∧ w1.cell? ⟨wr.heap.size, 2, none⟩ = some (.int .i64 Y) ∧ w1.cell? ⟨wr.heap.size, 3, none⟩ = some (tx S) ∧ w1.cell? ⟨wr.heap.size, 4, none⟩ = some (tx U) := fun hb => ⟨(hb.cell 0).trans (by rw [← hxs]; rfl), (hb.cell 1).trans (by rw [← hxs]; rfl), (hb.cell 2).trans (by rw [← hxs]; rfl), (hb.cell 3).trans (by rw [← hxs]; rfl), (hb.cell 4).trans (by rw [← hxs]; rfl)⟩
          clear d0 d1 d2 d3 d4
          obtain ⟨z0, z1, z2, z3, z4⟩ := hcells B0
          generalize wr.heap.size = J at *
          generalize wr.alloc (.cells xs 31) = wA at *
          clear hxs
          by_cases hlong : (250 : Int) < (S.length : Int)
          · go_wp2_with fail
            go_roundg (gk - 1)
            case measure => omega
            case rel => exact ⟨i + 1, by omega, by go_num, B0.pl.more (by omega)⟩
          · by_cases hlong2 : (100 : Int) < (U.length : Int)
            · go_wp2_with fail
              go_roundg (gk - 1)
              case measure => omega
              case rel => exact ⟨i + 1, by omega, by go_num, B0.pl.more (by omega)⟩
            · have hl1 : S.length < 100000 := by omega
              have hl2 : U.length < 100000 := by omega
              go_upto_region 16 with fail
              by_cases hW : W < 7
              · have hd1 : decide (W < 7) = true := by simp [hW]
                have hd2 : decide (7 ≤ W) = false := by simp; omega
                have hC := fun V (h : PB w r r2 m (62 + i) J xs V) => h.names (by omega) W X Y S U hl1 hl2
                refine wp_region_noPanic ?_
                refine wp_region_held_drew (S := fun w' => w'.cell? ⟨J, 0, none⟩ = some (.int .i64 W) ∧ w'.cell? ⟨J, 1, none⟩ = some (.int .i64 X) ∧ w'.cell? ⟨J, 2, none⟩ = some (.int .i64 Y) ∧ w'.cell? ⟨J, 3, none⟩ = some (tx S) ∧ w'.cell? ⟨J, 4, none⟩ = some (tx U)) (by kernel_rfl) ⟨z0, z1, z2, z3, z4⟩ (fun hHeld => ?_)
                refine wpAnyH_take (i := 0) (oi := ?oi1) (v := ?v1) ?hi1 (by kernel_rfl) (by kernel_rfl) (by kernel_rfl) (fun _ _ _ h => h) (Or.inl ⟨?hw1, ?hy1⟩) (by assumption) ?rest1
                case hi1 => (simp only [List.getElem?_toArray, List.getElem?_cons_zero]; rfl)
                case hw1 => rfl
                case hy1 => (intro w hSw; (try dsimp only at hSw); go_simp; (try with_reducible rfl))
                case' rest1 => simp only [Act.put, List.setIfInBounds_toArray, List.set_cons_zero, List.set_cons_succ]
                refine wpAnyH_take (i := 1) (oi := ?oi2) (v := ?v2) ?hi2 (by kernel_rfl) (by kernel_rfl) (by kernel_rfl) (fun _ _ _ h => h) (Or.inl ⟨?hw2, ?hy2⟩) (by assumption) ?rest2
                case hi2 => (simp only [List.getElem?_toArray, List.getElem?_cons_succ, List.getElem?_cons_zero]; rfl)
                case hw2 => rfl
                case hy2 => (intro w hSw; (try dsimp only at hSw); go_simp; (try with_reducible rfl))
                case' rest2 => simp only [Act.put, List.setIfInBounds_toArray, List.set_cons_zero, List.set_cons_succ]
                refine wpAnyH_take (i := 2) (oi := ?oi3) (v := ?v3) ?hi3 (by kernel_rfl) (by kernel_rfl) (by kernel_rfl) (fun _ _ _ h => h) (Or.inl ⟨?hw3, ?hy3⟩) (by assumption) ?rest3
                case hi3 => (simp only [List.getElem?_toArray, List.getElem?_cons_succ, List.getElem?_cons_zero]; rfl)
                case hw3 => rfl
                case hy3 => (intro w hSw; (try dsimp only at hSw); go_simp; (try with_reducible rfl))
                case' rest3 => simp only [Act.put, List.setIfInBounds_toArray, List.set_cons_zero, List.set_cons_succ]
                refine wpAnyH_take (i := 3) (oi := ?oi4) (v := ?v4) ?hi4 (by kernel_rfl) (by kernel_rfl) (by kernel_rfl) (fun _ _ _ h => h) (Or.inl ⟨?hw4, ?hy4⟩) (by assumption) ?rest4
                case hi4 => (simp only [List.getElem?_toArray, List.getElem?_cons_succ, List.getElem?_cons_zero]; rfl)
                case hw4 => rfl
                case hy4 => (intro w hSw; (try dsimp only at hSw); go_simp; (try with_reducible rfl))
                case' rest4 => simp only [Act.put, List.setIfInBounds_toArray, List.set_cons_zero, List.set_cons_succ]
                refine wpAnyH_take (i := 4) (oi := ?oi5) (v := ?v5) ?hi5 (by kernel_rfl) (by kernel_rfl) (by kernel_rfl) (fun _ _ _ h => h) (Or.inl ⟨?hw5, ?hy5⟩) (by assumption) ?rest5
                case hi5 => (simp only [List.getElem?_toArray, List.getElem?_cons_succ, List.getElem?_cons_zero]; rfl)
                case hw5 => rfl
                case hy5 => (intro w hSw; (try dsimp only at hSw); go_simp; (try with_reducible rfl))
                case' rest5 => simp only [Act.put, List.setIfInBounds_toArray, List.set_cons_zero, List.set_cons_succ]
                refine wpAnyH_take (i := 5) (oi := ?oi6) (v := ?v6) ?hi6 (by kernel_rfl) (by kernel_rfl) (by kernel_rfl) (fun _ _ _ h => h) (Or.inl ⟨?hw6, ?hy6⟩) (by assumption) ?rest6
                case hi6 => (simp only [List.getElem?_toArray, List.getElem?_cons_succ, List.getElem?_cons_zero]; rfl)
                case hw6 => rfl
                case hy6 => (intro w hSw; (try dsimp only at hSw); go_simp; (try with_reducible rfl))
                case' rest6 => simp only [Act.put, List.setIfInBounds_toArray, List.set_cons_zero, List.set_cons_succ]
                refine wpAnyH_take (i := 6) (oi := ?oi7) (v := ?v7) ?hi7 (by kernel_rfl) (by kernel_rfl) (by kernel_rfl) (fun _ _ _ h => h) (Or.inl ⟨?hw7, ?hy7⟩) (by assumption) ?rest7
                case hi7 => (simp only [List.getElem?_toArray, List.getElem?_cons_succ, List.getElem?_cons_zero]; rfl)
                case hw7 => rfl
                case hy7 => (intro w hSw; (try dsimp only at hSw); go_simp; (try with_reducible rfl))
                case' rest7 => simp only [Act.put, List.setIfInBounds_toArray, List.set_cons_zero, List.set_cons_succ]
                refine wpAnyH_ready (rs := [7]) (by kernel_rfl) (by simp) ?_
                refine AllReadyH.cons (o := ?o8) ?ho8 (fun K hK => ?st8) ?more8
                case ho8 => (simp only [List.getElem?_toArray, List.getElem?_cons_succ, List.getElem?_cons_zero]; rfl)
                case st8 =>
                  go_simp
                  go_at_call 8
                  refine (hC _ ?_).mono ?_
                  · first | exact B0 | exact B0.below ⟨rfl, rfl, rfl, Nat.le_refl _, fun _ _ => rfl⟩
                  rintro e w3 ⟨rfl, B3⟩
                  obtain ⟨y0, y1, y2, y3, y4⟩ := hcells B3
                  obtain ⟨s, gN, M, hNd, c2, pm⟩ := B3.pl.nodes
                  have hlen := fun ty => pm.len Tryz.underlying33 ty
                  try go_wp2_with fail
                  refine hK.out _ _ ?_ (fun hHeld => ?_)
                  · exact ⟨y0, y1, y2, y3, y4⟩
                  clear hK K
                  try simp only [Act.put, List.setIfInBounds_toArray, List.set_cons_zero, List.set_cons_succ]
                  refine wpAnyH_take (i := 8) (oi := ?oi9) (v := ?v9) ?hi9 (by kernel_rfl) (by kernel_rfl) (by kernel_rfl) (fun _ _ _ h => h) (Or.inl ⟨?hw9, ?hy9⟩) (by assumption) ?rest9
                  case hi9 => (simp only [List.getElem?_toArray, List.getElem?_cons_succ, List.getElem?_cons_zero]; rfl)
                  case hw9 => rfl
                  case hy9 => (intro w hSw; (try dsimp only at hSw); go_simp; (try with_reducible rfl))
                  case' rest9 => simp only [Act.put, List.setIfInBounds_toArray, List.set_cons_zero, List.set_cons_succ]
                  refine wpAnyH_take (i := 9) (oi := ?oi10) (v := ?v10) ?hi10 (by kernel_rfl) (by kernel_rfl) (by kernel_rfl) (fun _ _ _ h => h) (Or.inl ⟨?hw10, ?hy10⟩) (by assumption) ?rest10
                  case hi10 => (simp only [List.getElem?_toArray, List.getElem?_cons_succ, List.getElem?_cons_zero]; rfl)
                  case hw10 => rfl
                  case hy10 => (intro w hSw; (try dsimp only at hSw); go_simp; (try with_reducible rfl))
                  case' rest10 => simp only [Act.put, List.setIfInBounds_toArray, List.set_cons_zero, List.set_cons_succ]
                  refine wpAnyH_take (i := 10) (oi := ?oi11) (v := ?v11) ?hi11 (by kernel_rfl) (by kernel_rfl) (by kernel_rfl) (fun _ _ _ h => h) (Or.inl ⟨?hw11, ?hy11⟩) (by assumption) ?rest11
                  case hi11 => (simp only [List.getElem?_toArray, List.getElem?_cons_succ, List.getElem?_cons_zero]; rfl)
                  case hw11 => rfl
                  case hy11 => (intro w hSw; (try dsimp only at hSw); go_simp; (try with_reducible rfl))
                  case' rest11 => simp only [Act.put, List.setIfInBounds_toArray, List.set_cons_zero, List.set_cons_succ]
                  refine wpAnyH_take (i := 11) (oi := ?oi12) (v := ?v12) ?hi12 (by kernel_rfl) (by kernel_rfl) (by kernel_rfl) (fun _ _ _ h => h) (Or.inl ⟨?hw12, ?hy12⟩) (by assumption) ?rest12
                  case hi12 => (simp only [List.getElem?_toArray, List.getElem?_cons_succ, List.getElem?_cons_zero]; rfl)
                  case hw12 => rfl
                  case hy12 => (intro w hSw; (try dsimp only at hSw); go_simp; (try with_reducible rfl))
                  case' rest12 => simp only [Act.put, List.setIfInBounds_toArray, List.set_cons_zero, List.set_cons_succ]
                  refine wpAnyH_take (i := 12) (oi := ?oi13) (v := ?v13) ?hi13 (by kernel_rfl) (by kernel_rfl) (by kernel_rfl) (fun _ _ _ h => h) (Or.inl ⟨?hw13, ?hy13⟩) (by assumption) ?rest13
                  case hi13 => (simp only [List.getElem?_toArray, List.getElem?_cons_succ, List.getElem?_cons_zero]; rfl)
                  case hw13 => rfl
                  case hy13 => (intro w hSw; (try dsimp only at hSw); go_simp; (try with_reducible rfl))
                  case' rest13 => simp only [Act.put, List.setIfInBounds_toArray, List.set_cons_zero, List.set_cons_succ]
                  refine wpAnyH_take (i := 13) (oi := ?oi14) (v := ?v14) ?hi14 (by kernel_rfl) (by kernel_rfl) (by kernel_rfl) (fun _ _ _ h => h) (Or.inl ⟨?hw14, ?hy14⟩) (by assumption) ?rest14
                  case hi14 => (simp only [List.getElem?_toArray, List.getElem?_cons_succ, List.getElem?_cons_zero]; rfl)
                  case hw14 => rfl
                  case hy14 => (intro w hSw; (try dsimp only at hSw); go_simp; (try with_reducible rfl))
                  case' rest14 => simp only [Act.put, List.setIfInBounds_toArray, List.set_cons_zero, List.set_cons_succ]
                  refine wpAnyH_take (i := 14) (oi := ?oi15) (v := ?v15) ?hi15 (by kernel_rfl) (by kernel_rfl) (by kernel_rfl) (fun _ _ _ h => h) (Or.inl ⟨?hw15, ?hy15⟩) (by assumption) ?rest15
                  case hi15 => (simp only [List.getElem?_toArray, List.getElem?_cons_succ, List.getElem?_cons_zero]; rfl)
                  case hw15 => rfl
                  case hy15 => (intro w hSw; (try dsimp only at hSw); go_simp; (try with_reducible rfl))
                  case' rest15 => simp only [Act.put, List.setIfInBounds_toArray, List.set_cons_zero, List.set_cons_succ]
                  refine wpAnyH_take (i := 15) (oi := ?oi16) (v := undef) ?hi16 (by kernel_rfl) (by kernel_rfl) (by kernel_rfl) (fun _ _ _ h => h) (Or.inr ⟨?hw16, rfl⟩) (by assumption) ?rest16
                  case hi16 => (simp only [List.getElem?_toArray, List.getElem?_cons_succ, List.getElem?_cons_zero]; rfl)
                  case hw16 => rfl
                  case' rest16 => simp only [Act.put, List.setIfInBounds_toArray, List.set_cons_zero, List.set_cons_succ]
                  refine wpAnyH_take (i := 16) (oi := ?oi17) (v := undef) ?hi17 (by kernel_rfl) (by kernel_rfl) (by kernel_rfl) (fun _ _ _ h => h) (Or.inr ⟨?hw17, rfl⟩) (by assumption) ?rest17
                  case hi17 => (simp only [List.getElem?_toArray, List.getElem?_cons_succ, List.getElem?_cons_zero]; rfl)
                  case hw17 => rfl
                  case' rest17 => simp only [Act.put, List.setIfInBounds_toArray, List.set_cons_zero, List.set_cons_succ]
                  refine wpAnyH_take (i := 17) (oi := ?oi18) (v := undef) ?hi18 (by kernel_rfl) (by kernel_rfl) (by kernel_rfl) (fun _ _ _ h => h) (Or.inr ⟨?hw18, rfl⟩) (by assumption) ?rest18
                  case hi18 => (simp only [List.getElem?_toArray, List.getElem?_cons_succ, List.getElem?_cons_zero]; rfl)
                  case hw18 => rfl
                  case' rest18 => simp only [Act.put, List.setIfInBounds_toArray, List.set_cons_zero, List.set_cons_succ]
                  refine wpAnyH_take (i := 18) (oi := ?oi19) (v := undef) ?hi19 (by kernel_rfl) (by kernel_rfl) (by kernel_rfl) (fun _ _ _ h => h) (Or.inr ⟨?hw19, rfl⟩) (by assumption) ?rest19
                  case hi19 => (simp only [List.getElem?_toArray, List.getElem?_cons_succ, List.getElem?_cons_zero]; rfl)
                  case hw19 => rfl
                  case' rest19 => simp only [Act.put, List.setIfInBounds_toArray, List.set_cons_zero, List.set_cons_succ]
                  refine wpAnyH_take (i := 19) (oi := ?oi20) (v := undef) ?hi20 (by kernel_rfl) (by kernel_rfl) (by kernel_rfl) (fun _ _ _ h => h) (Or.inr ⟨?hw20, rfl⟩) (by assumption) ?rest20
                  case hi20 => (simp only [List.getElem?_toArray, List.getElem?_cons_succ, List.getElem?_cons_zero]; rfl)
                  case hw20 => rfl
                  case' rest20 => simp only [Act.put, List.setIfInBounds_toArray, List.set_cons_zero, List.set_cons_succ]
                  refine wpAnyH_take (i := 20) (oi := ?oi21) (v := ?v21) ?hi21 (by kernel_rfl) (by kernel_rfl) (by kernel_rfl) (fun _ _ _ h => h) (Or.inl ⟨?hw21, ?hy21⟩) (by assumption) ?rest21
                  case hi21 => (simp only [List.getElem?_toArray, List.getElem?_cons_succ, List.getElem?_cons_zero]; rfl)
                  case hw21 => rfl
                  case hy21 => (intro w hSw; (try dsimp only at hSw); go_simp; (try with_reducible rfl))
                  case' rest21 => simp only [Act.put, List.setIfInBounds_toArray, List.set_cons_zero, List.set_cons_succ]
                  refine wpAnyH_take (i := 21) (oi := ?oi22) (v := ?v22) ?hi22 (by kernel_rfl) (by kernel_rfl) (by kernel_rfl) (fun _ _ _ h => h) (Or.inl ⟨?hw22, ?hy22⟩) (by assumption) ?rest22
                  case hi22 => (simp only [List.getElem?_toArray, List.getElem?_cons_succ, List.getElem?_cons_zero]; rfl)
                  case hw22 => rfl
                  case hy22 => (intro w hSw; (try dsimp only at hSw); go_simp; (try with_reducible rfl))
                  case' rest22 => simp only [Act.put, List.setIfInBounds_toArray, List.set_cons_zero, List.set_cons_succ]
                  refine wpAnyH_take (i := 22) (oi := ?oi23) (v := ?v23) ?hi23 (by kernel_rfl) (by kernel_rfl) (by kernel_rfl) (fun _ _ _ h => h) (Or.inl ⟨?hw23, ?hy23⟩) (by assumption) ?rest23
                  case hi23 => (simp only [List.getElem?_toArray, List.getElem?_cons_succ, List.getElem?_cons_zero]; rfl)
                  case hw23 => rfl
                  case hy23 => (intro w hSw; (try dsimp only at hSw); go_simp; (try with_reducible rfl))
                  case' rest23 => simp only [Act.put, List.setIfInBounds_toArray, List.set_cons_zero, List.set_cons_succ]
                  refine wpAnyH_take (i := 23) (oi := ?oi24) (v := ?v24) ?hi24 (by kernel_rfl) (by kernel_rfl) (by kernel_rfl) (fun _ _ _ h => h) (Or.inl ⟨?hw24, ?hy24⟩) (by assumption) ?rest24
                  case hi24 => (simp only [List.getElem?_toArray, List.getElem?_cons_succ, List.getElem?_cons_zero]; rfl)
                  case hw24 => rfl
                  case hy24 => (intro w hSw; (try dsimp only at hSw); go_simp; (try with_reducible rfl))
                  case' rest24 => simp only [Act.put, List.setIfInBounds_toArray, List.set_cons_zero, List.set_cons_succ]
                  refine wpAnyH_take (i := 25) (oi := ?oi25) (v := ?v25) ?hi25 (by kernel_rfl) (by kernel_rfl) (by kernel_rfl) (fun _ _ _ h => h) (Or.inl ⟨?hw25, ?hy25⟩) (by assumption) ?rest25
                  case hi25 => (simp only [List.getElem?_toArray, List.getElem?_cons_succ, List.getElem?_cons_zero]; rfl)
                  case hw25 => rfl
                  case hy25 => (intro w hSw; (try dsimp only at hSw); go_simp; (try with_reducible rfl))
                  case' rest25 => simp only [Act.put, List.setIfInBounds_toArray, List.set_cons_zero, List.set_cons_succ]
                  refine wpAnyH_take (i := 26) (oi := ?oi26) (v := ?v26) ?hi26 (by kernel_rfl) (by kernel_rfl) (by kernel_rfl) (fun _ _ _ h => h) (Or.inl ⟨?hw26, ?hy26⟩) (by assumption) ?rest26
                  case hi26 => (simp only [List.getElem?_toArray, List.getElem?_cons_succ, List.getElem?_cons_zero]; rfl)
                  case hw26 => rfl
                  case hy26 => (intro w hSw; (try dsimp only at hSw); go_simp; (try with_reducible rfl))
                  case' rest26 => simp only [Act.put, List.setIfInBounds_toArray, List.set_cons_zero, List.set_cons_succ]
                  refine wpAnyH_take (i := 27) (oi := ?oi27) (v := ?v27) ?hi27 (by kernel_rfl) (by kernel_rfl) (by kernel_rfl) (fun _ _ _ h => h) (Or.inl ⟨?hw27, ?hy27⟩) (by assumption) ?rest27
                  case hi27 => (simp only [List.getElem?_toArray, List.getElem?_cons_succ, List.getElem?_cons_zero]; rfl)
                  case hw27 => rfl
                  case hy27 => (intro w hSw; (try dsimp only at hSw); go_simp; (try with_reducible rfl))
                  case' rest27 => simp only [Act.put, List.setIfInBounds_toArray, List.set_cons_zero, List.set_cons_succ]
                  refine wpAnyH_ready (rs := [24, 28]) (by kernel_rfl) (by simp) ?_
                  refine AllReadyH.cons (o := ?o28) ?ho28 (fun K hK => ?st28) ?more28
                  case ho28 => (simp only [List.getElem?_toArray, List.getElem?_cons_succ, List.getElem?_cons_zero]; rfl)
                  case st28 =>
                    go_simp
                    go_at_call 10
                    refine hNd.mono ?_
                    rintro e w' ⟨rfl, hw'⟩
                    subst w'
                    try go_wp2_with fail
                    refine hK.out _ _ ?_ (fun hHeld => ?_)
                    · exact ⟨y0, y1, y2, y3, y4⟩
                    clear hK K
                    try simp only [Act.put, List.setIfInBounds_toArray, List.set_cons_zero, List.set_cons_succ]
                    refine wpAnyH_ready (rs := [28]) (by kernel_rfl) (by simp) ?_
                    refine AllReadyH.cons (o := ?o29) ?ho29 (fun K hK => ?st29) ?more29
                    case ho29 => (simp only [List.getElem?_toArray, List.getElem?_cons_succ, List.getElem?_cons_zero]; rfl)
                    case st29 =>
                      go_simp
                      refine hK.out _ _ ?_ (fun hHeld => ?_)
                      · exact ⟨y0, y1, y2, y3, y4⟩
                      clear hK K
                      try simp only [Act.put, List.setIfInBounds_toArray, List.set_cons_zero, List.set_cons_succ]
                      refine wpAnyH_ready (rs := [29]) (by kernel_rfl) (by simp) ?_
                      refine AllReadyH.cons (o := ?o30) ?ho30 (fun K hK => ?st30) ?more30
                      case ho30 => (simp only [List.getElem?_toArray, List.getElem?_cons_succ, List.getElem?_cons_zero]; rfl)
                      case st30 =>
                        go_simp
                        refine hK.out _ _ ?_ (fun hHeld => ?_)
                        · exact ⟨y0, y1, y2, y3, y4⟩
                        clear hK K
                        try simp only [Act.put, List.setIfInBounds_toArray, List.set_cons_zero, List.set_cons_succ]
                        refine wpAnyH_take (i := 30) (oi := ?oi31) (v := ?v31) ?hi31 (by kernel_rfl) (by kernel_rfl) (by kernel_rfl) (fun _ _ _ h => h) (Or.inl ⟨?hw31, ?hy31⟩) (by assumption) ?rest31
                        case hi31 => (simp only [List.getElem?_toArray, List.getElem?_cons_succ, List.getElem?_cons_zero]; rfl)
                        case hw31 => rfl
                        case hy31 => (intro w hSw; (try dsimp only at hSw); go_simp; (try with_reducible rfl))
                        case' rest31 => simp only [Act.put, List.setIfInBounds_toArray, List.set_cons_zero, List.set_cons_succ]
                        refine wpAnyH_take (i := 31) (oi := ?oi32) (v := ?v32) ?hi32 (by kernel_rfl) (by kernel_rfl) (by kernel_rfl) (fun _ _ _ h => h) (Or.inl ⟨?hw32, ?hy32⟩) (by assumption) ?rest32
                        case hi32 => (simp only [List.getElem?_toArray, List.getElem?_cons_succ, List.getElem?_cons_zero]; rfl)
                        case hw32 => rfl
                        case hy32 => (intro w hSw; (try dsimp only at hSw); go_simp; (try with_reducible rfl))
                        case' rest32 => simp only [Act.put, List.setIfInBounds_toArray, List.set_cons_zero, List.set_cons_succ]
                        refine wpAnyH_done (by kernel_rfl) ?_ _
                        refine NoPanic.normal ?_
                        go_wp2_with fail
                        go_roundg (gk - 1)
                        case measure => omega
                        case rel => exact ⟨i + 1, by omega, by go_num, B3.pl.more (by omega)⟩
                      exact AllReadyH.nil
                    exact AllReadyH.nil
                  refine AllReadyH.cons (o := ?o33) ?ho33 (fun K hK => ?st33) ?more33
                  case ho33 => (simp only [List.getElem?_toArray, List.getElem?_cons_succ, List.getElem?_cons_zero]; rfl)
                  case st33 =>
                    go_simp
                    refine hK.out _ _ ?_ (fun hHeld => ?_)
                    · exact ⟨y0, y1, y2, y3, y4⟩
                    clear hK K
                    try simp only [Act.put, List.setIfInBounds_toArray, List.set_cons_zero, List.set_cons_succ]
                    refine wpAnyH_ready (rs := [24]) (by kernel_rfl) (by simp) ?_
                    refine AllReadyH.cons (o := ?o34) ?ho34 (fun K hK => ?st34) ?more34
                    case ho34 => (simp only [List.getElem?_toArray, List.getElem?_cons_succ, List.getElem?_cons_zero]; rfl)
                    case st34 =>
                      go_simp
                      go_at_call 10
                      refine hNd.mono ?_
                      rintro e w' ⟨rfl, hw'⟩
                      subst w'
                      try go_wp2_with fail
                      refine hK.out _ _ ?_ (fun hHeld => ?_)
                      · exact ⟨y0, y1, y2, y3, y4⟩
                      clear hK K
                      try simp only [Act.put, List.setIfInBounds_toArray, List.set_cons_zero, List.set_cons_succ]
                      refine wpAnyH_ready (rs := [29]) (by kernel_rfl) (by simp) ?_
                      refine AllReadyH.cons (o := ?o35) ?ho35 (fun K hK => ?st35) ?more35
                      case ho35 => (simp only [List.getElem?_toArray, List.getElem?_cons_succ, List.getElem?_cons_zero]; rfl)
                      case st35 =>
                        go_simp
                        refine hK.out _ _ ?_ (fun hHeld => ?_)
                        · exact ⟨y0, y1, y2, y3, y4⟩
                        clear hK K
                        try simp only [Act.put, List.setIfInBounds_toArray, List.set_cons_zero, List.set_cons_succ]
                        refine wpAnyH_take (i := 30) (oi := ?oi36) (v := ?v36) ?hi36 (by kernel_rfl) (by kernel_rfl) (by kernel_rfl) (fun _ _ _ h => h) (Or.inl ⟨?hw36, ?hy36⟩) (by assumption) ?rest36
                        case hi36 => (simp only [List.getElem?_toArray, List.getElem?_cons_succ, List.getElem?_cons_zero]; rfl)
                        case hw36 => rfl
                        case hy36 => (intro w hSw; (try dsimp only at hSw); go_simp; (try with_reducible rfl))
                        case' rest36 => simp only [Act.put, List.setIfInBounds_toArray, List.set_cons_zero, List.set_cons_succ]
                        refine wpAnyH_take (i := 31) (oi := ?oi37) (v := ?v37) ?hi37 (by kernel_rfl) (by kernel_rfl) (by kernel_rfl) (fun _ _ _ h => h) (Or.inl ⟨?hw37, ?hy37⟩) (by assumption) ?rest37
                        case hi37 => (simp only [List.getElem?_toArray, List.getElem?_cons_succ, List.getElem?_cons_zero]; rfl)
                        case hw37 => rfl
                        case hy37 => (intro w hSw; (try dsimp only at hSw); go_simp; (try with_reducible rfl))
                        case' rest37 => simp only [Act.put, List.setIfInBounds_toArray, List.set_cons_zero, List.set_cons_succ]
                        refine wpAnyH_done (by kernel_rfl) ?_ _
                        refine NoPanic.normal ?_
                        go_wp2_with fail
                        go_roundg (gk - 1)
                        case measure => omega
                        case rel => exact ⟨i + 1, by omega, by go_num, B3.pl.more (by omega)⟩
                      exact AllReadyH.nil
                    exact AllReadyH.nil
                  exact AllReadyH.nil
                exact AllReadyH.nil
              · have hd1 : decide (W < 7) = false := by simp; omega
                have hd2 : decide (7 ≤ W) = true := by simp; omega
                have hC := fun V (h : PB w r r2 m (62 + i) J xs V) => h.files (by omega) W X Y hwn S U hl1
                refine wp_region_noPanic ?_
                refine wp_region_held_drew (S := fun w' => w'.cell? ⟨J, 0, none⟩ = some (.int .i64 W) ∧ w'.cell? ⟨J, 1, none⟩ = some (.int .i64 X) ∧ w'.cell? ⟨J, 2, none⟩ = some (.int .i64 Y) ∧ w'.cell? ⟨J, 3, none⟩ = some (tx S) ∧ w'.cell? ⟨J, 4, none⟩ = some (tx U)) (by kernel_rfl) ⟨z0, z1, z2, z3, z4⟩ (fun hHeld => ?_)
                refine wpAnyH_take (i := 0) (oi := ?oi38) (v := ?v38) ?hi38 (by kernel_rfl) (by kernel_rfl) (by kernel_rfl) (fun _ _ _ h => h) (Or.inl ⟨?hw38, ?hy38⟩) (by assumption) ?rest38
                case hi38 => (simp only [List.getElem?_toArray, List.getElem?_cons_zero]; rfl)
                case hw38 => rfl
                case hy38 => (intro w hSw; (try dsimp only at hSw); go_simp; (try with_reducible rfl))
                case' rest38 => simp only [Act.put, List.setIfInBounds_toArray, List.set_cons_zero, List.set_cons_succ]
                refine wpAnyH_take (i := 1) (oi := ?oi39) (v := ?v39) ?hi39 (by kernel_rfl) (by kernel_rfl) (by kernel_rfl) (fun _ _ _ h => h) (Or.inl ⟨?hw39, ?hy39⟩) (by assumption) ?rest39
                case hi39 => (simp only [List.getElem?_toArray, List.getElem?_cons_succ, List.getElem?_cons_zero]; rfl)
                case hw39 => rfl
                case hy39 => (intro w hSw; (try dsimp only at hSw); go_simp; (try with_reducible rfl))
                case' rest39 => simp only [Act.put, List.setIfInBounds_toArray, List.set_cons_zero, List.set_cons_succ]
                refine wpAnyH_take (i := 2) (oi := ?oi40) (v := ?v40) ?hi40 (by kernel_rfl) (by kernel_rfl) (by kernel_rfl) (fun _ _ _ h => h) (Or.inl ⟨?hw40, ?hy40⟩) (by assumption) ?rest40
                case hi40 => (simp only [List.getElem?_toArray, List.getElem?_cons_succ, List.getElem?_cons_zero]; rfl)
                case hw40 => rfl
                case hy40 => (intro w hSw; (try dsimp only at hSw); go_simp; (try with_reducible rfl))
                case' rest40 => simp only [Act.put, List.setIfInBounds_toArray, List.set_cons_zero, List.set_cons_succ]
                refine wpAnyH_take (i := 3) (oi := ?oi41) (v := ?v41) ?hi41 (by kernel_rfl) (by kernel_rfl) (by kernel_rfl) (fun _ _ _ h => h) (Or.inl ⟨?hw41, ?hy41⟩) (by assumption) ?rest41
                case hi41 => (simp only [List.getElem?_toArray, List.getElem?_cons_succ, List.getElem?_cons_zero]; rfl)
                case hw41 => rfl
                case hy41 => (intro w hSw; (try dsimp only at hSw); go_simp; (try with_reducible rfl))
                case' rest41 => simp only [Act.put, List.setIfInBounds_toArray, List.set_cons_zero, List.set_cons_succ]
                refine wpAnyH_take (i := 4) (oi := ?oi42) (v := undef) ?hi42 (by kernel_rfl) (by kernel_rfl) (by kernel_rfl) (fun _ _ _ h => h) (Or.inr ⟨?hw42, rfl⟩) (by assumption) ?rest42
                case hi42 => (simp only [List.getElem?_toArray, List.getElem?_cons_succ, List.getElem?_cons_zero]; rfl)
                case hw42 => rfl
                case' rest42 => simp only [Act.put, List.setIfInBounds_toArray, List.set_cons_zero, List.set_cons_succ]
                refine wpAnyH_take (i := 5) (oi := ?oi43) (v := undef) ?hi43 (by kernel_rfl) (by kernel_rfl) (by kernel_rfl) (fun _ _ _ h => h) (Or.inr ⟨?hw43, rfl⟩) (by assumption) ?rest43
                case hi43 => (simp only [List.getElem?_toArray, List.getElem?_cons_succ, List.getElem?_cons_zero]; rfl)
                case hw43 => rfl
                case' rest43 => simp only [Act.put, List.setIfInBounds_toArray, List.set_cons_zero, List.set_cons_succ]
                refine wpAnyH_take (i := 6) (oi := ?oi44) (v := undef) ?hi44 (by kernel_rfl) (by kernel_rfl) (by kernel_rfl) (fun _ _ _ h => h) (Or.inr ⟨?hw44, rfl⟩) (by assumption) ?rest44
                case hi44 => (simp only [List.getElem?_toArray, List.getElem?_cons_succ, List.getElem?_cons_zero]; rfl)
                case hw44 => rfl
                case' rest44 => simp only [Act.put, List.setIfInBounds_toArray, List.set_cons_zero, List.set_cons_succ]
                refine wpAnyH_take (i := 7) (oi := ?oi45) (v := undef) ?hi45 (by kernel_rfl) (by kernel_rfl) (by kernel_rfl) (fun _ _ _ h => h) (Or.inr ⟨?hw45, rfl⟩) (by assumption) ?rest45
                case hi45 => (simp only [List.getElem?_toArray, List.getElem?_cons_succ, List.getElem?_cons_zero]; rfl)
                case hw45 => rfl
                case' rest45 => simp only [Act.put, List.setIfInBounds_toArray, List.set_cons_zero, List.set_cons_succ]
                refine wpAnyH_take (i := 8) (oi := ?oi46) (v := undef) ?hi46 (by kernel_rfl) (by kernel_rfl) (by kernel_rfl) (fun _ _ _ h => h) (Or.inr ⟨?hw46, rfl⟩) (by assumption) ?rest46
                case hi46 => (simp only [List.getElem?_toArray, List.getElem?_cons_succ, List.getElem?_cons_zero]; rfl)
                case hw46 => rfl
                case' rest46 => simp only [Act.put, List.setIfInBounds_toArray, List.set_cons_zero, List.set_cons_succ]
                refine wpAnyH_take (i := 9) (oi := ?oi47) (v := ?v47) ?hi47 (by kernel_rfl) (by kernel_rfl) (by kernel_rfl) (fun _ _ _ h => h) (Or.inl ⟨?hw47, ?hy47⟩) (by assumption) ?rest47
                case hi47 => (simp only [List.getElem?_toArray, List.getElem?_cons_succ, List.getElem?_cons_zero]; rfl)
                case hw47 => rfl
                case hy47 => (intro w hSw; (try dsimp only at hSw); go_simp; (try with_reducible rfl))
                case' rest47 => simp only [Act.put, List.setIfInBounds_toArray, List.set_cons_zero, List.set_cons_succ]
                refine wpAnyH_take (i := 10) (oi := ?oi48) (v := ?v48) ?hi48 (by kernel_rfl) (by kernel_rfl) (by kernel_rfl) (fun _ _ _ h => h) (Or.inl ⟨?hw48, ?hy48⟩) (by assumption) ?rest48
                case hi48 => (simp only [List.getElem?_toArray, List.getElem?_cons_succ, List.getElem?_cons_zero]; rfl)
                case hw48 => rfl
                case hy48 => (intro w hSw; (try dsimp only at hSw); go_simp; (try with_reducible rfl))
                case' rest48 => simp only [Act.put, List.setIfInBounds_toArray, List.set_cons_zero, List.set_cons_succ]
                refine wpAnyH_take (i := 11) (oi := ?oi49) (v := ?v49) ?hi49 (by kernel_rfl) (by kernel_rfl) (by kernel_rfl) (fun _ _ _ h => h) (Or.inl ⟨?hw49, ?hy49⟩) (by assumption) ?rest49
                case hi49 => (simp only [List.getElem?_toArray, List.getElem?_cons_succ, List.getElem?_cons_zero]; rfl)
                case hw49 => rfl
                case hy49 => (intro w hSw; (try dsimp only at hSw); go_simp; (try with_reducible rfl))
                case' rest49 => simp only [Act.put, List.setIfInBounds_toArray, List.set_cons_zero, List.set_cons_succ]
                refine wpAnyH_take (i := 12) (oi := ?oi50) (v := ?v50) ?hi50 (by kernel_rfl) (by kernel_rfl) (by kernel_rfl) (fun _ _ _ h => h) (Or.inl ⟨?hw50, ?hy50⟩) (by assumption) ?rest50
                case hi50 => (simp only [List.getElem?_toArray, List.getElem?_cons_succ, List.getElem?_cons_zero]; rfl)
                case hw50 => rfl
                case hy50 => (intro w hSw; (try dsimp only at hSw); go_simp; (try with_reducible rfl))
                case' rest50 => simp only [Act.put, List.setIfInBounds_toArray, List.set_cons_zero, List.set_cons_succ]
                refine wpAnyH_take (i := 13) (oi := ?oi51) (v := ?v51) ?hi51 (by kernel_rfl) (by kernel_rfl) (by kernel_rfl) (fun _ _ _ h => h) (Or.inl ⟨?hw51, ?hy51⟩) (by assumption) ?rest51
                case hi51 => (simp only [List.getElem?_toArray, List.getElem?_cons_succ, List.getElem?_cons_zero]; rfl)
                case hw51 => rfl
                case hy51 => (intro w hSw; (try dsimp only at hSw); go_simp; (try with_reducible rfl))
                case' rest51 => simp only [Act.put, List.setIfInBounds_toArray, List.set_cons_zero, List.set_cons_succ]
                refine wpAnyH_take (i := 14) (oi := ?oi52) (v := ?v52) ?hi52 (by kernel_rfl) (by kernel_rfl) (by kernel_rfl) (fun _ _ _ h => h) (Or.inl ⟨?hw52, ?hy52⟩) (by assumption) ?rest52
                case hi52 => (simp only [List.getElem?_toArray, List.getElem?_cons_succ, List.getElem?_cons_zero]; rfl)
                case hw52 => rfl
                case hy52 => (intro w hSw; (try dsimp only at hSw); go_simp; (try with_reducible rfl))
                case' rest52 => simp only [Act.put, List.setIfInBounds_toArray, List.set_cons_zero, List.set_cons_succ]
                refine wpAnyH_take (i := 15) (oi := ?oi53) (v := ?v53) ?hi53 (by kernel_rfl) (by kernel_rfl) (by kernel_rfl) (fun _ _ _ h => h) (Or.inl ⟨?hw53, ?hy53⟩) (by assumption) ?rest53
                case hi53 => (simp only [List.getElem?_toArray, List.getElem?_cons_succ, List.getElem?_cons_zero]; rfl)
                case hw53 => rfl
                case hy53 => (intro w hSw; (try dsimp only at hSw); go_simp; (try with_reducible rfl))
                case' rest53 => simp only [Act.put, List.setIfInBounds_toArray, List.set_cons_zero, List.set_cons_succ]
                refine wpAnyH_take (i := 16) (oi := ?oi54) (v := ?v54) ?hi54 (by kernel_rfl) (by kernel_rfl) (by kernel_rfl) (fun _ _ _ h => h) (Or.inl ⟨?hw54, ?hy54⟩) (by assumption) ?rest54
                case hi54 => (simp only [List.getElem?_toArray, List.getElem?_cons_succ, List.getElem?_cons_zero]; rfl)
                case hw54 => rfl
                case hy54 => (intro w hSw; (try dsimp only at hSw); go_simp; (try with_reducible rfl))
                case' rest54 => simp only [Act.put, List.setIfInBounds_toArray, List.set_cons_zero, List.set_cons_succ]
                refine wpAnyH_take (i := 17) (oi := ?oi55) (v := ?v55) ?hi55 (by kernel_rfl) (by kernel_rfl) (by kernel_rfl) (fun _ _ _ h => h) (Or.inl ⟨?hw55, ?hy55⟩) (by assumption) ?rest55
                case hi55 => (simp only [List.getElem?_toArray, List.getElem?_cons_succ, List.getElem?_cons_zero]; rfl)
                case hw55 => rfl
                case hy55 => (intro w hSw; (try dsimp only at hSw); go_simp; (try with_reducible rfl))
                case' rest55 => simp only [Act.put, List.setIfInBounds_toArray, List.set_cons_zero, List.set_cons_succ]
                refine wpAnyH_ready (rs := [18]) (by kernel_rfl) (by simp) ?_
                refine AllReadyH.cons (o := ?o56) ?ho56 (fun K hK => ?st56) ?more56
                case ho56 => (simp only [List.getElem?_toArray, List.getElem?_cons_succ, List.getElem?_cons_zero]; rfl)
                case st56 =>
                  go_simp
                  go_at_call 9
                  refine (hC _ ?_).mono ?_
                  · first | exact B0 | exact B0.below ⟨rfl, rfl, rfl, Nat.le_refl _, fun _ _ => rfl⟩
                  rintro e w3 ⟨rfl, B3⟩
                  obtain ⟨y0, y1, y2, y3, y4⟩ := hcells B3
                  obtain ⟨s, gN, M, hNd, c2, pm⟩ := B3.pl.nodes
                  have hlen := fun ty => pm.len Tryz.underlying33 ty
                  try go_wp2_with fail
                  refine hK.out _ _ ?_ (fun hHeld => ?_)
                  · exact ⟨y0, y1, y2, y3, y4⟩
                  clear hK K
                  try simp only [Act.put, List.setIfInBounds_toArray, List.set_cons_zero, List.set_cons_succ]
                  refine wpAnyH_take (i := 19) (oi := ?oi57) (v := ?v57) ?hi57 (by kernel_rfl) (by kernel_rfl) (by kernel_rfl) (fun _ _ _ h => h) (Or.inl ⟨?hw57, ?hy57⟩) (by assumption) ?rest57
                  case hi57 => (simp only [List.getElem?_toArray, List.getElem?_cons_succ, List.getElem?_cons_zero]; rfl)
                  case hw57 => rfl
                  case hy57 => (intro w hSw; (try dsimp only at hSw); go_simp; (try with_reducible rfl))
                  case' rest57 => simp only [Act.put, List.setIfInBounds_toArray, List.set_cons_zero, List.set_cons_succ]
                  refine wpAnyH_take (i := 20) (oi := ?oi58) (v := ?v58) ?hi58 (by kernel_rfl) (by kernel_rfl) (by kernel_rfl) (fun _ _ _ h => h) (Or.inl ⟨?hw58, ?hy58⟩) (by assumption) ?rest58
                  case hi58 => (simp only [List.getElem?_toArray, List.getElem?_cons_succ, List.getElem?_cons_zero]; rfl)
                  case hw58 => rfl
                  case hy58 => (intro w hSw; (try dsimp only at hSw); go_simp; (try with_reducible rfl))
                  case' rest58 => simp only [Act.put, List.setIfInBounds_toArray, List.set_cons_zero, List.set_cons_succ]
                  refine wpAnyH_take (i := 21) (oi := ?oi59) (v := ?v59) ?hi59 (by kernel_rfl) (by kernel_rfl) (by kernel_rfl) (fun _ _ _ h => h) (Or.inl ⟨?hw59, ?hy59⟩) (by assumption) ?rest59
                  case hi59 => (simp only [List.getElem?_toArray, List.getElem?_cons_succ, List.getElem?_cons_zero]; rfl)
                  case hw59 => rfl
                  case hy59 => (intro w hSw; (try dsimp only at hSw); go_simp; (try with_reducible rfl))
                  case' rest59 => simp only [Act.put, List.setIfInBounds_toArray, List.set_cons_zero, List.set_cons_succ]
                  refine wpAnyH_take (i := 22) (oi := ?oi60) (v := ?v60) ?hi60 (by kernel_rfl) (by kernel_rfl) (by kernel_rfl) (fun _ _ _ h => h) (Or.inl ⟨?hw60, ?hy60⟩) (by assumption) ?rest60
                  case hi60 => (simp only [List.getElem?_toArray, List.getElem?_cons_succ, List.getElem?_cons_zero]; rfl)
                  case hw60 => rfl
                  case hy60 => (intro w hSw; (try dsimp only at hSw); go_simp; (try with_reducible rfl))
                  case' rest60 => simp only [Act.put, List.setIfInBounds_toArray, List.set_cons_zero, List.set_cons_succ]
                  refine wpAnyH_take (i := 23) (oi := ?oi61) (v := ?v61) ?hi61 (by kernel_rfl) (by kernel_rfl) (by kernel_rfl) (fun _ _ _ h => h) (Or.inl ⟨?hw61, ?hy61⟩) (by assumption) ?rest61
                  case hi61 => (simp only [List.getElem?_toArray, List.getElem?_cons_succ, List.getElem?_cons_zero]; rfl)
                  case hw61 => rfl
                  case hy61 => (intro w hSw; (try dsimp only at hSw); go_simp; (try with_reducible rfl))
                  case' rest61 => simp only [Act.put, List.setIfInBounds_toArray, List.set_cons_zero, List.set_cons_succ]
                  refine wpAnyH_take (i := 25) (oi := ?oi62) (v := ?v62) ?hi62 (by kernel_rfl) (by kernel_rfl) (by kernel_rfl) (fun _ _ _ h => h) (Or.inl ⟨?hw62, ?hy62⟩) (by assumption) ?rest62
                  case hi62 => (simp only [List.getElem?_toArray, List.getElem?_cons_succ, List.getElem?_cons_zero]; rfl)
                  case hw62 => rfl
                  case hy62 => (intro w hSw; (try dsimp only at hSw); go_simp; (try with_reducible rfl))
                  case' rest62 => simp only [Act.put, List.setIfInBounds_toArray, List.set_cons_zero, List.set_cons_succ]
                  refine wpAnyH_take (i := 26) (oi := ?oi63) (v := ?v63) ?hi63 (by kernel_rfl) (by kernel_rfl) (by kernel_rfl) (fun _ _ _ h => h) (Or.inl ⟨?hw63, ?hy63⟩) (by assumption) ?rest63
                  case hi63 => (simp only [List.getElem?_toArray, List.getElem?_cons_succ, List.getElem?_cons_zero]; rfl)
                  case hw63 => rfl
                  case hy63 => (intro w hSw; (try dsimp only at hSw); go_simp; (try with_reducible rfl))
                  case' rest63 => simp only [Act.put, List.setIfInBounds_toArray, List.set_cons_zero, List.set_cons_succ]
                  refine wpAnyH_take (i := 27) (oi := ?oi64) (v := ?v64) ?hi64 (by kernel_rfl) (by kernel_rfl) (by kernel_rfl) (fun _ _ _ h => h) (Or.inl ⟨?hw64, ?hy64⟩) (by assumption) ?rest64
                  case hi64 => (simp only [List.getElem?_toArray, List.getElem?_cons_succ, List.getElem?_cons_zero]; rfl)
                  case hw64 => rfl
                  case hy64 => (intro w hSw; (try dsimp only at hSw); go_simp; (try with_reducible rfl))
                  case' rest64 => simp only [Act.put, List.setIfInBounds_toArray, List.set_cons_zero, List.set_cons_succ]
                  refine wpAnyH_ready (rs := [24, 28]) (by kernel_rfl) (by simp) ?_
                  refine AllReadyH.cons (o := ?o65) ?ho65 (fun K hK => ?st65) ?more65
                  case ho65 => (simp only [List.getElem?_toArray, List.getElem?_cons_succ, List.getElem?_cons_zero]; rfl)
                  case st65 =>
                    go_simp
                    go_at_call 10
                    refine hNd.mono ?_
                    rintro e w' ⟨rfl, hw'⟩
                    subst w'
                    try go_wp2_with fail
                    refine hK.out _ _ ?_ (fun hHeld => ?_)
                    · exact ⟨y0, y1, y2, y3, y4⟩
                    clear hK K
                    try simp only [Act.put, List.setIfInBounds_toArray, List.set_cons_zero, List.set_cons_succ]
                    refine wpAnyH_ready (rs := [28]) (by kernel_rfl) (by simp) ?_
                    refine AllReadyH.cons (o := ?o66) ?ho66 (fun K hK => ?st66) ?more66
                    case ho66 => (simp only [List.getElem?_toArray, List.getElem?_cons_succ, List.getElem?_cons_zero]; rfl)
                    case st66 =>
                      go_simp
                      refine hK.out _ _ ?_ (fun hHeld => ?_)
                      · exact ⟨y0, y1, y2, y3, y4⟩
                      clear hK K
                      try simp only [Act.put, List.setIfInBounds_toArray, List.set_cons_zero, List.set_cons_succ]
                      refine wpAnyH_ready (rs := [29]) (by kernel_rfl) (by simp) ?_
                      refine AllReadyH.cons (o := ?o67) ?ho67 (fun K hK => ?st67) ?more67
                      case ho67 => (simp only [List.getElem?_toArray, List.getElem?_cons_succ, List.getElem?_cons_zero]; rfl)
                      case st67 =>
                        go_simp
                        refine hK.out _ _ ?_ (fun hHeld => ?_)
                        · exact ⟨y0, y1, y2, y3, y4⟩
                        clear hK K
                        try simp only [Act.put, List.setIfInBounds_toArray, List.set_cons_zero, List.set_cons_succ]
                        refine wpAnyH_take (i := 30) (oi := ?oi68) (v := ?v68) ?hi68 (by kernel_rfl) (by kernel_rfl) (by kernel_rfl) (fun _ _ _ h => h) (Or.inl ⟨?hw68, ?hy68⟩) (by assumption) ?rest68
                        case hi68 => (simp only [List.getElem?_toArray, List.getElem?_cons_succ, List.getElem?_cons_zero]; rfl)
                        case hw68 => rfl
                        case hy68 => (intro w hSw; (try dsimp only at hSw); go_simp; (try with_reducible rfl))
                        case' rest68 => simp only [Act.put, List.setIfInBounds_toArray, List.set_cons_zero, List.set_cons_succ]
                        refine wpAnyH_take (i := 31) (oi := ?oi69) (v := ?v69) ?hi69 (by kernel_rfl) (by kernel_rfl) (by kernel_rfl) (fun _ _ _ h => h) (Or.inl ⟨?hw69, ?hy69⟩) (by assumption) ?rest69
                        case hi69 => (simp only [List.getElem?_toArray, List.getElem?_cons_succ, List.getElem?_cons_zero]; rfl)
                        case hw69 => rfl
                        case hy69 => (intro w hSw; (try dsimp only at hSw); go_simp; (try with_reducible rfl))
                        case' rest69 => simp only [Act.put, List.setIfInBounds_toArray, List.set_cons_zero, List.set_cons_succ]
                        refine wpAnyH_done (by kernel_rfl) ?_ _
                        refine NoPanic.normal ?_
                        go_wp2_with fail
                        go_roundg (gk - 1)
                        case measure => omega
                        case rel => exact ⟨i + 1, by omega, by go_num, B3.pl.more (by omega)⟩
                      exact AllReadyH.nil
                    exact AllReadyH.nil
                  refine AllReadyH.cons (o := ?o70) ?ho70 (fun K hK => ?st70) ?more70
                  case ho70 => (simp only [List.getElem?_toArray, List.getElem?_cons_succ, List.getElem?_cons_zero]; rfl)
                  case st70 =>
                    go_simp
                    refine hK.out _ _ ?_ (fun hHeld => ?_)
                    · exact ⟨y0, y1, y2, y3, y4⟩
                    clear hK K
                    try simp only [Act.put, List.setIfInBounds_toArray, List.set_cons_zero, List.set_cons_succ]
                    refine wpAnyH_ready (rs := [24]) (by kernel_rfl) (by simp) ?_
                    refine AllReadyH.cons (o := ?o71) ?ho71 (fun K hK => ?st71) ?more71
                    case ho71 => (simp only [List.getElem?_toArray, List.getElem?_cons_succ, List.getElem?_cons_zero]; rfl)
                    case st71 =>
                      go_simp
                      go_at_call 10
                      refine hNd.mono ?_
                      rintro e w' ⟨rfl, hw'⟩
                      subst w'
                      try go_wp2_with fail
                      refine hK.out _ _ ?_ (fun hHeld => ?_)
                      · exact ⟨y0, y1, y2, y3, y4⟩
                      clear hK K
                      try simp only [Act.put, List.setIfInBounds_toArray, List.set_cons_zero, List.set_cons_succ]
                      refine wpAnyH_ready (rs := [29]) (by kernel_rfl) (by simp) ?_
                      refine AllReadyH.cons (o := ?o72) ?ho72 (fun K hK => ?st72) ?more72
                      case ho72 => (simp only [List.getElem?_toArray, List.getElem?_cons_succ, List.getElem?_cons_zero]; rfl)
                      case st72 =>
                        go_simp
                        refine hK.out _ _ ?_ (fun hHeld => ?_)
                        · exact ⟨y0, y1, y2, y3, y4⟩
                        clear hK K
                        try simp only [Act.put, List.setIfInBounds_toArray, List.set_cons_zero, List.set_cons_succ]
                        refine wpAnyH_take (i := 30) (oi := ?oi73) (v := ?v73) ?hi73 (by kernel_rfl) (by kernel_rfl) (by kernel_rfl) (fun _ _ _ h => h) (Or.inl ⟨?hw73, ?hy73⟩) (by assumption) ?rest73
                        case hi73 => (simp only [List.getElem?_toArray, List.getElem?_cons_succ, List.getElem?_cons_zero]; rfl)
                        case hw73 => rfl
                        case hy73 => (intro w hSw; (try dsimp only at hSw); go_simp; (try with_reducible rfl))
                        case' rest73 => simp only [Act.put, List.setIfInBounds_toArray, List.set_cons_zero, List.set_cons_succ]
                        refine wpAnyH_take (i := 31) (oi := ?oi74) (v := ?v74) ?hi74 (by kernel_rfl) (by kernel_rfl) (by kernel_rfl) (fun _ _ _ h => h) (Or.inl ⟨?hw74, ?hy74⟩) (by assumption) ?rest74
                        case hi74 => (simp only [List.getElem?_toArray, List.getElem?_cons_succ, List.getElem?_cons_zero]; rfl)
                        case hw74 => rfl
                        case hy74 => (intro w hSw; (try dsimp only at hSw); go_simp; (try with_reducible rfl))
                        case' rest74 => simp only [Act.put, List.setIfInBounds_toArray, List.set_cons_zero, List.set_cons_succ]
                        refine wpAnyH_done (by kernel_rfl) ?_ _
                        refine NoPanic.normal ?_
                        go_wp2_with fail
                        go_roundg (gk - 1)
                        case measure => omega
                        case rel => exact ⟨i + 1, by omega, by go_num, B3.pl.more (by omega)⟩
                      exact AllReadyH.nil
                    exact AllReadyH.nil
                  exact AllReadyH.nil
                exact AllReadyH.nil
        · have hE := hP.names (by omega) 6 0 0 [47] [] (by simp) (by simp)
          clear hsc
          go_wp2_with (go_at_call 8; refine hE.mono ?_; rintro e w3 ⟨rfl, h3⟩)
          go_ret
          exact ⟨rfl, h3.bel⟩
end Go.Proofs.YtpibokijbidgdabGreatDoor
