/- put of package buddy, by its Go text. -/
import Derived.Test.YtcllfedpdcjbcaaDoorInsert
namespace Go.Proofs.YtcllfedpdcjbcaaDoor
open Go.RowKit Go.Shelf Go.Lib Go.Sort

/-- What a row of a pool's turns into another pool. -/
structure Goes (b g : Nat) (O : Nat → Option Nat) (w w' : World) (O' : Nat → Option Nat) (V' : Nat → Value) (F' : Nat → List Int) : Prop where
  pool : Pl w' b g O' V' F'
  fr : Fr (own b O) w w'
  sub : ∀ i, i < w.heap.size → own b O' i → own b O i

theorem bits_all : ((List.range 6).all fun k => (List.range 256).all fun q => bits BinOp.xor IntKind.i64 ((q : Int) * 2 ^ k) (wrap64 (2 ^ k)) == ((bud q * 2 ^ k : Nat) : Int) && bits BinOp.andNot IntKind.i64 ((q : Int) * 2 ^ k) (wrap64 (2 ^ k)) == ((q / 2 * 2 ^ (k + 1) : Nat) : Int)) = true := by kernel_rfl

theorem bits_at {k q : Nat} (hk : k < 6) (hq : q < 256) : bits BinOp.xor IntKind.i64 ((q : Int) * 2 ^ k) (wrap64 (2 ^ k)) = ((bud q * 2 ^ k : Nat) : Int) ∧ bits BinOp.andNot IntKind.i64 ((q : Int) * 2 ^ k) (wrap64 (2 ^ k)) = ((q / 2 * 2 ^ (k + 1) : Nat) : Int) := by
  have := List.all_eq_true.1 (List.all_eq_true.1 bits_all k (List.mem_range.2 hk)) q (List.mem_range.2 hq)
  simpa using this

theorem small_of {U : Nat → Bool} {n k q : Nat} (hU : ∀ f, U f = true → f < n) (hn : n ≤ 256) (hb : blk U k q) : q * 2 ^ k < 256 ∧ q < 256 := by
  have := hU _ (hb _ (first_in k q))
  have h2 := Nat.le_mul_of_pos_right q (Nat.two_pow_pos k)
  omega

theorem search_row {W : World} {o : Option Nat} {v : Value} {xs : List Int} (hr : RowAt W o v xs) (hs : xs.Pairwise (· < ·)) (hl : xs.length ≤ 256) (x : Int) :
    Calls Tryd.prog 114 #[v, .int .i64 x] W fun e w' => e = .returned (.tuple #[.int .i64 (xs.countP (· < x) : Nat), .bool (xs.contains x)]) ∧ ∃ q, w' = W.drewN q := by
  cases o with
  | none =>
    obtain ⟨rfl, rfl⟩ := hr
    refine (Any.slices_BinarySearch_int_empty Tryd.searchL none 0 x W).mono ?_
    rintro e w' ⟨rfl, rfl⟩
    exact ⟨rfl, 0, rfl⟩
  | some s =>
    obtain ⟨c, h1, rfl, h3, h4, h5⟩ := hr
    have h := Any.slices_BinarySearch_int Tryd.searchL s 0 xs.length c.size xs x W (Nat.le_refl _) (by omega) (fun j hj => by rw [cell_of_row W s _ _ _ _ h1, Nat.zero_add, h5 j hj]) (by rw [List.take_length]; exact hs.imp (fun h => Int.le_of_lt h))
    rw [List.take_length] at h
    exact h

theorem ins_key {w : World} {b g : Nat} {O : Nat → Option Nat} {V : Nat → Value} {F : Nat → List Int} (p : Pl w b g O V F) {k : Nat} (hk : k < 7) (x : Int) (hl : (F k).length ≤ 256) (W : World) (hW : W.heap = (w.alloc (.cells #[.int .i64 x] 3)).heap) (h1 : W.os = w.os) (h2 : W.tape = w.tape) (h3 : W.output = w.output) :
    Calls Tryd.prog 115 #[V k, .int .i64 ((F k).countP (· < x) : Nat), .slice (some ⟨w.heap.size, 0, none⟩) 1 1] W fun e w' => ∃ a c, e = .returned (.slice a (ins (F k) x).length c) ∧ (∃ O' V', Goes b g O w (w'.setCell ⟨b, k, none⟩ (.slice a (ins (F k) x).length c)) O' V' (putF F k (ins (F k) x))) ∧ w'.cell? ⟨b, k, none⟩ = some (V k) ∧ w'.frozen? ⟨b, k, none⟩ = false := by
  have hbl := lt_of_heap p.head
  have hr := p.row k hk
  have hbW : W.heap[b]? = w.heap[b]? := by rw [hW]; exact Below.heap_alloc _ _ _ hbl
  have hy : W.heap[w.heap.size]? = some (.cells #[.int .i64 x] 3) := by
    rw [hW]; show (w.heap.push _)[w.heap.size]? = _; rw [Array.getElem?_push, if_pos rfl]
  have hOk : O k ≠ some w.heap.size := by
    intro e; obtain ⟨c', h'⟩ := p.row_block hk e; have := lt_of_heap h'; omega
  have hrW : RowAt W (O k) (V k) (F k) := hr.keep (fun s hs => by rw [hW]; exact Below.heap_alloc _ _ _ (by obtain ⟨c', h'⟩ := p.row_block hk hs; exact lt_of_heap h'))
  refine (ins_row hrW w.heap.size x hy hOk hl).mono ?_
  rintro e w' ⟨a, c, rfl, o', r', ho', f'⟩
  have e1 : w'.heap[b]? = w.heap[b]? := (f'.block b (by rw [hW]; simp; omega) (fun e => p.ne_b hk e rfl)).trans hbW
  have hf : Fr (fun i => O k = some i) w w' := (show Fr (fun i => O k = some i) w W from ⟨h1, h2, h3, by rw [hW]; simp, fun i hi _ => by rw [hW]; exact Below.heap_alloc _ _ _ hi⟩).trans f' (fun _ _ h => h)
  have ho : o' = O k ∨ ∃ s, o' = some s ∧ w.heap.size ≤ s := by
    rcases ho' with h | ⟨s, h, hs⟩
    · exact .inl h
    · exact .inr ⟨s, h, by rw [hW] at hs; simp at hs; omega⟩
  obtain ⟨t1, t2, t3⟩ := p.turn hk o' _ _ hf ho r'
  exact ⟨a, c, rfl, ⟨_, _, t1, t2, t3⟩, by rw [World.cell?_of_block (w := w) (a := ⟨b, k, none⟩) e1]; exact p.cell hk, by rw [World.frozen?_of_block (w := w) (a := ⟨b, k, none⟩) e1]; exact p.free k⟩

theorem Goes.trans {b g : Nat} {O O1 O2 : Nat → Option Nat} {w w1 w2 : World} {V1 V2 : Nat → Value} {F1 F2 : Nat → List Int} (h : Goes b g O w w1 O1 V1 F1) (k : Goes b g O1 w1 w2 O2 V2 F2) : Goes b g O w w2 O2 V2 F2 :=
  ⟨k.pool, h.fr.trans k.fr (fun i hi a => h.sub i hi a), fun i hi a => h.sub i hi (k.sub i (Nat.lt_of_lt_of_le hi h.fr.size) a)⟩

theorem Goes.drewN {b g : Nat} {O O1 : Nat → Option Nat} {w w1 : World} {V1 : Nat → Value} {F1 : Nat → List Int} (h : Goes b g O w w1 O1 V1 F1) (q : Nat) : Goes b g O w (w1.drewN q) O1 V1 F1 :=
  ⟨h.pool.keep (fun _ _ => rfl), ⟨h.fr.os, h.fr.tape, h.fr.output, h.fr.size, h.fr.block⟩, h.sub⟩

theorem filt_none {l : List Int} {z : Int} (h : z ∉ l) : (l.filter fun x => !(x == z)) = l := by
  rw [List.filter_eq_self]; intro a ha; simp; exact fun e => h (e ▸ ha)

set_option maxRecDepth 100000 in
set_option maxHeartbeats 4000000 in
theorem put_ok {w : World} {b g : Nat} {O : Nat → Option Nat} {V : Nat → Value} {F : Nat → List Int} (p : Pl w b g O V F) {U : Nat → Bool} {n : Nat} (hU : ∀ f, U f = true → f < n) (hn : n ≤ 256) (k q : Nat) (hk : k ≤ 6) (c : Can F (cut U k q)) (hb : blk U k q) :
    Calls Tryd.prog 80 #[pp b, .int .i64 ((q * 2 ^ k : Nat) : Int), .int .i64 k] w fun e w' => e = .returned (.tuple #[]) ∧ ∃ O' V' F', Goes b g O w w' O' V' F' ∧ Can F' U := by
  go_enter Tryd.func80, Tryd.ntmps80
  go_wp2_with fail
  go_loopg [1, 2] (6 - k) (fun m s1 s2 wr => ∃ (k q : Nat) (O' : Nat → Option Nat) (V' : Nat → Value) (F' : Nat → List Int), k + m = 6 ∧ s1 = .int .i64 ((q * 2 ^ k : Nat) : Int) ∧ s2 = .int .i64 k ∧ Goes b g O w wr O' V' F' ∧ Can F' (cut U k q) ∧ blk U k q)
  case atStart => exact ⟨k, q, O, V, F, by omega, rfl, rfl, ⟨p, Fr.refl _ _, fun _ _ h => h⟩, c, hb⟩
  case round =>
    obtain ⟨k1, q1, O1, V1, F1, hk1, rfl, rfl, G1, c1, hb1⟩ := hrel
    by_cases h6 : (k1 : Int) < 6
    · have hk6 : k1 < 6 := by omega
      obtain ⟨hq1, hq2⟩ := small_of hU hn hb1
      obtain ⟨e1, e2⟩ := bits_at hk6 hq2
      have hz : ((bud q1 : Int) * 2 ^ k1) = ((bud q1 * 2 ^ k1 : Nat) : Int) := by simp
      have T := takeOut_ok G1.pool ((bud q1 : Int) * 2 ^ k1) k1 (by omega)
      rw [← hz] at e1
      by_cases hm : ((bud q1 * 2 ^ k1 : Nat) : Int) ∈ F1 k1
      · have hx : mxb (cut U k1 q1) k1 (bud q1) := by
          obtain ⟨r, hr, hx⟩ := ((c1 k1 (by omega)).2 _).1 hm
          rw [at_order hr]; exact hx
        have c2 := can_cut c1 (by omega) hx
        rw [cut_two] at c2
        have hb2 := blk_up hb1 hx
        rw [← hz] at hm c2
        rw [decide_eq_true hm] at T
        clear hz
        go_wp2_with (go_at_call 87; refine T.mono ?_; rintro e w1 ⟨V2, rfl, p2, f2⟩)
        go_roundg (6 - (k1 + 1))
        case measure => omega
        case rel =>
          exact ⟨k1 + 1, q1 / 2, O1, V2, _, by omega, by simp, by go_num, ⟨p2, G1.fr.trans f2 (fun i hi h => G1.sub i hi h), G1.sub⟩, c2, hb2⟩
      · have hx : mxb U k1 q1 := mxb_alone (by omega) hb1 (fun _ hy => hm (((c1 k1 (by omega)).2 _).2 ⟨_, rfl, hy⟩))
        rw [← hz] at hm
        rw [decide_eq_false hm, filt_none hm, putF_self] at T
        clear hz hm
        have T' : Calls Tryd.prog 87 #[pp b, .int .i64 ((bud q1 : Int) * 2 ^ k1), .int .i64 k1] wr (fun e w1 => ∃ V2, e = .returned (.bool false) ∧ Goes b g O w w1 O1 V2 F1 ∧ w1.cell? ⟨b, k1, none⟩ = some (V2 k1) ∧ (∀ o, (w1.alloc o).cell? ⟨b, k1, none⟩ = some (V2 k1)) ∧ (∀ q o, ((w1.drewN q).alloc o).cell? ⟨b, k1, none⟩ = some (V2 k1))) := T.mono (by
          rintro e w1 ⟨V2, rfl, p2, f2⟩
          have hc2 := p2.cell (k := k1) (by omega)
          have hb2 := lt_of_heap p2.head
          exact ⟨V2, rfl, ⟨p2, G1.fr.trans f2 (fun i hi h => G1.sub i hi h), G1.sub⟩, hc2, fun o => by rw [World.cell?_of_block (w := w1) (a := ⟨b, k1, none⟩) (Below.heap_alloc _ _ _ hb2)]; exact hc2, fun q o => (World.cell?_of_block (w := w1) (a := ⟨b, k1, none⟩) (Below.heap_alloc (w1.drewN q) o b hb2)).trans hc2⟩)
        have hs1 := (c1 k1 (by omega)).1
        have hl1 : (F1 k1).length ≤ 256 := Nat.le_trans (len_le F1 (m := 7) (by omega)) (Nat.le_trans (lf_le c1 (fun f hf => hU f (cut_true.1 hf).1)) hn)
        have hfin := can_ins c1 (by omega) hx
        rw [show ((q1 * 2 ^ k1 : Nat) : Int) = (q1 : Int) * 2 ^ k1 by simp] at hfin
        clear T c1 hb1 e2 c p hb
        go_wp2_with (first | (go_at_call 87; refine T'.mono ?_; rintro e w1 ⟨V2, rfl, G2, z2, z21, z22⟩) | (go_at_call 114; refine (search_row (G2.pool.row k1 (by omega)) hs1 hl1 _).mono ?_; rintro e w2 ⟨rfl, q2, rfl⟩))
        go_region_with (go_at_call 115; refine (ins_key G2.pool (by omega) _ hl1 _ (by rfl) (by rfl) (by rfl) (by rfl)).mono ?_; rintro e w3 ⟨a3, c3, rfl, ⟨O3, V3, G3⟩, y3, z3⟩)
        all_goals
          go_end0
          exact ⟨rfl, _, _, _, G2.trans G3, hfin⟩
    · have hk6 : k1 = 6 := by omega
      subst hk6
      have hx : mxb U 6 q1 := mxb_alone (by omega) hb1 (fun h => by omega)
      have hs1 := (c1 6 (by omega)).1
      have hl1 : (F1 6).length ≤ 256 := Nat.le_trans (len_le F1 (m := 7) (by omega)) (Nat.le_trans (lf_le c1 (fun f hf => hU f (cut_true.1 hf).1)) hn)
      have hfin := can_ins c1 (by omega) hx
      rw [show ((q1 * 2 ^ 6 : Nat) : Int) = (q1 : Int) * 64 by simp] at hfin
      have hb2 := lt_of_heap G1.pool.head
      have z2 := G1.pool.cell (k := 6) (by omega)
      have z21 : ∀ o, (wr.alloc o).cell? ⟨b, 6, none⟩ = some (V1 6) := fun o => (World.cell?_of_block (w := wr) (a := ⟨b, 6, none⟩) (Below.heap_alloc wr o b hb2)).trans z2
      have z22 : ∀ q o, ((wr.drewN q).alloc o).cell? ⟨b, 6, none⟩ = some (V1 6) := fun q o => (World.cell?_of_block (w := wr) (a := ⟨b, 6, none⟩) (Below.heap_alloc (wr.drewN q) o b hb2)).trans z2
      clear c1 hb1 c p hb
      go_wp2_with (go_at_call 114; refine (search_row (G1.pool.row 6 (by omega)) hs1 hl1 _).mono ?_; rintro e w2 ⟨rfl, q2, rfl⟩)
      go_region_with (go_at_call 115; refine (ins_key G1.pool (by omega) _ hl1 _ (by rfl) (by rfl) (by rfl) (by rfl)).mono ?_; rintro e w3 ⟨a3, c3, rfl, ⟨O3, V3, G3⟩, y3, z3⟩)
      all_goals
        go_end0
        exact ⟨rfl, _, _, _, G1.trans G3, hfin⟩
end Go.Proofs.YtcllfedpdcjbcaaDoor
