/- taken of the statements' own: the walk. -/
import Derived.Test.YthknommfnajeiaaDoorCutOut
namespace Go.Proofs.YthknommfnajeiaaDoor
open Go.RowKit Go.Shelf Go.Lib Go.Sort

set_option maxRecDepth 100000 in
set_option maxHeartbeats 8000000 in
theorem taken_ok {w : World} {A0 : Nat → Prop} {b n : Nat} {U : Nat → Bool} (ad : Option Addr) (len cap : Nat) (q : Nat → Bool × Int) (hq : Moves w ad len q) (hl : len ≤ 60) (a0 : At w b n U (fun _ => none) 0 A0) (hoff : 0 < len → ∀ blk off, ad = some ⟨blk, off, none⟩ → ¬ A0 blk) :
    Calls Tryd.prog 29 #[pp b, .slice ad len cap] w fun e w' => ∃ v, e = .returned (.tuple #[v, .bool true]) ∧ ∃ L, L.length ≤ 60 ∧ ∃ U' T' A', TS w A0 b n w' v L U' T' 60 A' := by
  obtain ⟨i0, hi, hz0, hz1, hz2⟩ := info_parts (P := Tryd.prog) (e := 62) (z := .agg #[.int .i64 0, .int .i64 0]) (size := 2) (bytes := 16) (by kernel_rfl)
  have S0 : TS w A0 b n w (.slice none 0 0) [] U (fun _ => none) 0 A0 := ⟨a0, Fr.refl _ _, fun _ _ h => h, World.ownsRow_nil _ _ _ _, fun i h => (by cases h), held_none⟩
  go_enter Tryd.func29, Tryd.ntmps29
  go_wp2_with fail
  go_loopg [6, 7] len (fun k s6 s7 wr => ∃ (j : Nat) (L : List (Int × Int)) (U : Nat → Bool) (T : Int → Option Nat) (A : Nat → Prop), j + k = len ∧ s7 = .int .i64 j ∧ L.length ≤ j ∧ TS w A0 b n wr s6 L U T j A)
  case atStart => exact ⟨0, [], _, _, _, by omega, rfl, Nat.le_refl _, S0⟩
  case round =>
    clear S0
    obtain ⟨j, L, U1, T1, A1, hj, rfl, hLj, S⟩ := hrel
    by_cases hlt : (j : Int) < (len : Int)
    · rcases hq with h0 | ⟨blk, off, rfl, hbl, hqq⟩
      · exfalso; omega
      obtain ⟨c0, c1⟩ := hqq j (by omega)
      have hA0 := hoff (by omega) blk off rfl
      have d0 : wr.cell? ⟨blk, off + j * 2, none⟩ = some (.bool (q j).1) := by rw [World.cell?_of_block (w := w) (a := ⟨blk, off + j * 2, none⟩) (S.fr.block blk hbl hA0)]; exact c0
      have d1 : wr.cell? ⟨blk, off + j * 2 + 1, none⟩ = some (.int .i64 (q j).2) := by rw [World.cell?_of_block (w := w) (a := ⟨blk, off + j * 2 + 1, none⟩) (S.fr.block blk hbl hA0)]; exact c1
      clear c0 c1 hqq
      generalize (q j).2 = N at *
      cases hT : (q j).1 with
      | true =>
        rw [hT] at d0
        as_aux_lemma =>
          go_wp2_with (go_at_call 28; refine (mpick_any _ N 7 (by omega) (by omega)).mono ?_; rintro e w1 ⟨o, rfl, ho, h1⟩; subst w1)
          by_cases hno : ∀ j r, mxb U1 j r → j < o
          · refine (alloc_none S.pool o (by omega) hno).mono ?_
            rintro e w2 ⟨rfl, h2⟩
            subst w2
            go_wp2_with fail
            go_roundg (gk - 1)
            case measure => omega
            case rel => exact ⟨j + 1, L, U1, T1, A1, by omega, by go_num, by omega, S.more (by omega)⟩
          · obtain ⟨k, p, hB, hTn⟩ := S.pool.best o hno
            refine (alloc_some S.pool (by omega) o (by omega) k p hB).mono ?_
            rintro e w2 ⟨rfl, t2⟩
            obtain ⟨A2, a2, fr2, sub2, bl2, off2⟩ := S.turn t2
            have hd2 := S.held.add (o := o) hTn
            clear S t2 hB hTn d0 d1
            generalize ((p * 2 ^ k : Nat) : Int) = z at *
            have hnews := new_two w2 z (o : Int) 62
            have h63 : L.length + 1 ≤ maxLen := by unfold maxLen; omega
            have hby : (L.length + 1) * 16 ≤ 140737488355328 := by omega
            have hbase : ∀ o, w.heap.size ≤ (w2.alloc o).heap.size := fun o => by have := fr2.size; simp; omega
            go_wp2_with (at_builtin; refine wpList_append_own_at _ rfl _ _ 48 rfl w.heap.size 62 i0 (.agg #[.int .i64 0, .int .i64 0]) 2 16 Tryd.underlying48 hi hz0 hz1 hz2 rfl (by decide) _ _ _ rfl (World.ownsRow.alloc bl2 _) ⟨w2.heap.size, 0, none⟩ 1 1 (be (z, (o : Int))) rfl rfl hnews (be_one _) h63 hby (hbase _) ?_; intro v3 w3 ho3 hg3 hnil3 hv3)
            go_roundg (gk - 1)
            case measure => omega
            case rel =>
              have hbl3 : BL w3 w.heap.size v3 (L ++ [(z, (o : Int))]) := by unfold BL; rw [bc_app, List.length_append]; exact ho3
              have hvv : ∀ i, v3.ownBlock = some i → u6.ownBlock = some i ∨ (w2.alloc (.cells #[.int .i64 z, .int .i64 (o : Int)] 62)).heap.size ≤ i := by
                intro i hi
                rcases hv3 with e | e
                · exact .inl (e ▸ hi)
                · rw [e] at hi; cases hi; exact .inr (Nat.le_refl _)
              have S3 := TS.relist (a2.keep' (fun i hi => Below.heap_alloc _ _ _ (a2.lt' hi))) (fr2.trans (Fr.alloc _ _ _) (fun _ _ h => h)) sub2 (fun i hi => ⟨off2 i hi, (World.ownsRow.lt bl2 i hi).1⟩) hg3 hbl3 hvv hd2
              exact ⟨j + 1, _, _, _, A2, by omega, by go_num, by simp; omega, S3⟩
      | false =>
        rw [hT] at d0
        by_cases hL : L = []
        · as_aux_lemma =>
            subst hL
            obtain ⟨a', c', hv', _⟩ := S.list.form'
            subst hv'
            go_wp2_with fail
            go_roundg (gk - 1)
            case measure => omega
            case rel => exact ⟨j + 1, [], U1, T1, A1, by omega, by go_num, by simp, S.more (by omega)⟩
        · as_aux_lemma =>
            have hpos : 0 < L.length := List.length_pos_iff.2 hL
            have hpos' : (0 : Int) < (L.length : Int) := by omega
            obtain ⟨gb, cp, hv, hgb, hgl, hcp, hrd, hcl⟩ := S.list.at' hL
            subst hv
            go_wp2_with (go_at_call 28; refine (mpick_any _ N L.length (by omega) (by omega)).mono ?_; rintro e w1 ⟨k, rfl, hk, h1⟩; subst w1)
            obtain ⟨r0, r1⟩ := hrd k hk
            obtain ⟨k', hk', hTk⟩ := S.held.mem L[k] (List.getElem_mem hk)
            obtain ⟨_, p, hp, _⟩ := S.pool.inv'.tk _ _ hTk
            have hd2 := S.held.drop hk
            have hG : ∀ W' : World, W'.heap = wr.heap → W'.os = wr.os → W'.tape = wr.tape → W'.output = wr.output → Calls Tryd.prog 23 #[pp b, .int .i64 L[k].1, .int .i64 L[k].2] W' fun e w' => e = .returned .nilIface ∧ (∃ U2 A2, At w' b n U2 (fun i => if i = L[k].1 then none else T1 i) j A2 ∧ Fr A0 w w' ∧ (∀ i, i < w.heap.size → A2 i → A0 i) ∧ BL w' w.heap.size (.slice (some ⟨gb, 0, none⟩) L.length cp) L ∧ ¬ A2 gb) ∧ w'.cell? ⟨gb, k * 2, none⟩ = some (.int .i64 L[k].1) ∧ w'.cell? ⟨gb, k * 2 + 1, none⟩ = some (.int .i64 L[k].2) := by
              intro W' h1 h2 h3 h4
              have S' := S.same h1 h2 h3 h4
              have hg' := give_ok S'.pool p k' (by rw [← hp]; exact hTk)
              rw [← hp, ← hk'] at hg'
              refine hg'.mono ?_
              rintro e w' ⟨rfl, t⟩
              obtain ⟨A2, a2, fr2, sub2, bl2, off2⟩ := S'.turn t
              obtain ⟨gb', cp', hv', _, _, _, hrd', _⟩ := bl2.at' hL
              cases hv'
              exact ⟨rfl, ⟨_, A2, a2, fr2, sub2, bl2, off2 gb rfl⟩, (hrd' k hk).1, (hrd' k hk).2⟩
            have hkz : (k : Int) < (L.length : Int) := by omega
            clear hrd hTk hp hk' hcl S d0 d1
            generalize hz : L[k].1 = z at *
            generalize hko : L[k].2 = ko at *
            go_cut [66] (fun t wc => t = .bool false ∧ ∃ U2 A2, At wc b n U2 (fun i => if i = z then none else T1 i) j A2 ∧ Fr A0 w wc ∧ (∀ i, i < w.heap.size → A2 i → A0 i) ∧ BL wc w.heap.size (.slice (some ⟨gb, 0, none⟩) L.length cp) L ∧ ¬ A2 gb)
            case first =>
              go_region_held3 (fun w' => w'.cell? ⟨gb, k * 2, none⟩ = some (.int .i64 z) ∧ w'.cell? ⟨gb, k * 2 + 1, none⟩ = some (.int .i64 ko)) (first | exact ⟨y1, y2⟩ | exact ⟨r0, r1⟩) (first
                | (go_at_call 23; refine (hG _ ?_ ?_ ?_ ?_).mono ?_; rfl; rfl; rfl; rfl; rintro e w1 ⟨rfl, Q2, y1, y2⟩)
                | fail)
              all_goals
                go_wp2_with fail
                go_meet
                case rel => exact ⟨rfl, Q2⟩
            case rest =>
              obtain ⟨rfl, U2, A2, a2, fr2, sub2, bl2, hA2⟩ := hcut
              clear hG r0 r1
              obtain ⟨k1, ad2, c⟩ := cut_out bl2 fr2.size (by omega) hk
              have hs1 := c.s1
              have hs2 := c.s2
              have hw1 := c.w1
              have hw2 := c.w2
              go_upto_region 14 with fail
              go_region_held3 (fun _ => True) (trivial) (first
                | (refine step_append_mine rfl (.tmp 67) (.tmp 70) 48 rfl w.heap.size 62 i0 (.agg #[.int .i64 0, .int .i64 0]) 2 16 Tryd.underlying48 hi hz0 hz1 hz2 rfl (by decide) (.slice (some ⟨wc.heap.size, 0, none⟩) 0 0) 0 [] (by simp [Act.eval]) (c.own _ ⟨by rfl, by rfl, by rfl, by rfl⟩) ⟨gb, 0, none⟩ k cp (bc (L.take k)) (by simp [Act.eval]) c.l1 (c.c1 _ ⟨by rfl, by rfl, by rfl, by rfl⟩) (bc_one _) c.m1 c.y1 (c.b _ ⟨by rfl, by rfl, by rfl, by rfl⟩) ?_; intro v5 w5 ho5 hg5 hv5)
                | (refine step_append_mine rfl (.tmp 71) (.tmp 75) 48 rfl w.heap.size 62 i0 (.agg #[.int .i64 0, .int .i64 0]) 2 16 Tryd.underlying48 hi hz0 hz1 hz2 rfl (by decide) v5 (0 + k) _ (by simp [Act.eval]) ho5 ad2 (L.length - k1) (cp - k1) (bc (L.drop k1)) (by simp [Act.eval]) c.l2 (c.c2 _ _ ⟨by rfl, by rfl, by rfl, by rfl⟩ hg5) (bc_one _) c.m2 c.y2 (Nat.le_trans (c.b _ ⟨by rfl, by rfl, by rfl, by rfl⟩) hg5.size) ?_; intro v6 w6 ho6 hg6 hv6))
              all_goals
                obtain ⟨g, hb, hv⟩ := c.got ⟨by rfl, by rfl, by rfl, by rfl⟩ hk hg5 hv5 ho6 hg6 hv6
                have S3 := TS.relist (v := .slice none 0 0) a2 fr2 sub2 (fun i h => by cases h) g hb (fun i hi => .inr (hv i hi)) hd2
                go_wp2_with fail
                go_roundg (gk - 1)
                case measure => omega
                case rel => exact ⟨j + 1, _, U2, _, A2, by omega, by go_num, by simp; omega, S3.more (by omega)⟩
    · go_wp2_with fail
      go_ret2
      exact ⟨u6, rfl, L, by omega, U1, T1, A1, S.more (by omega)⟩
end Go.Proofs.YthknommfnajeiaaDoor
