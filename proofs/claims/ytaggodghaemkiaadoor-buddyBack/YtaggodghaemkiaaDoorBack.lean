/- BuddyBack, by its Go text. -/
import Derived.Test.YtaggodghaemkiaaDoorTaken2
import Derived.Test.YtaggodghaemkiaaDoorParts
import Derived.Test.YtaggodghaemkiaaDoorEquals
import Derived.Test.YtaggodghaemkiaaDoorBare
namespace Go.Proofs.YtaggodghaemkiaaDoor
open Go.RowKit Go.Shelf Go.Lib Go.Sort

/-- Numbers lie in the argument's array. -/
def Nums (w : World) (ad : Option Addr) (len : Nat) (q : Nat → Int) : Prop :=
  len = 0 ∨ ∃ blk off, ad = some ⟨blk, off, none⟩ ∧ blk < w.heap.size ∧ ∀ j, j < len → w.cell? ⟨blk, off + j, none⟩ = some (.int .i64 (q j))
theorem Nums.keep {w w' : World} {ad : Option Addr} {len : Nat} {q : Nat → Int} (h : Nums w ad len q) (hb : Below w.heap.size w w') : Nums w' ad len q := by
  rcases h with h | ⟨blk, off, e, hl, hc⟩
  · exact .inl h
  · refine .inr ⟨blk, off, e, Nat.lt_of_lt_of_le hl hb.size, fun i hi => ?_⟩
    rw [World.cell?_of_block (w := w) (a := ⟨blk, off + i, none⟩) (hb.block blk hl)]; exact hc i hi

theorem rem_run {i l m : Nat} (hl : 0 < l) (hm : i % l = m) (wx : World) : (binOp .rem 3 (.int .i64 (i : Int)) (.int .i64 (l : Int))).run Tryd.prog wx = .ok (.int .i64 (m : Int)) wx := by
  have g3 : (i : Int).tmod (l : Int) = (m : Int) := by rw [← hm]; exact (Int.ofNat_tmod i l).symm
  go_simp
  exact Nat.ne_of_gt hl

section
variable {ops : Array Oper} {rest : List Oper} {o : Oper} {a : Act} {w : World} {Q : Exit → Act → World → Prop}
theorem wpList_remn (hgd : o.guard = none) (x y : Operand) (t : TypeId) (hop : o.op = Op.binOp BinOp.rem 3 x y t) (i l m : Nat) (hx : a.eval x = .int .i64 (i : Int)) (hy : a.eval y = .int .i64 (l : Int)) (hl : 0 < l) (hm : i % l = m)
    (h : wpList Tryd.prog ops Q rest (a.put o.dst (.int .i64 (m : Int))) w) : wpList Tryd.prog ops Q (o :: rest) a w := by
  refine wpList_plain hgd fun K' hK' => ?_
  have hrun := rem_run hl hm w
  unfold Oper.wp
  simp [execOp, hop, hx, hy, hrun, Result.andThen, eqGuard]
  exact hK' _ _ h
end

theorem TS.alloc {w0 w : World} {A0 A : Nat → Prop} {b n : Nat} {v : Value} {L : List (Int × Int)} {U : Nat → Bool} {T : Int → Option Nat} {m : Nat} (s : TS w0 A0 b n w v L U T m A) (o : Obj) : TS w0 A0 b n (w.alloc o) v L U T m A :=
  ⟨s.pool.keep' (fun _ hi => Below.heap_alloc _ _ _ (s.pool.lt' hi)), s.fr.trans (Fr.alloc _ _ _) (fun _ _ h => h), s.sub, World.ownsRow.alloc s.list o, s.off, s.held⟩

/-- All is given back: all frames are free. -/
theorem all_free {n : Nat} {U : Nat → Bool} {T : Int → Option Nat} (inv : Inv n U T) (h : Held [] T) : U = fun f => decide (f < n) := by
  have hT : ∀ z, T z = none := fun z => by
    cases e : T z with
    | none => rfl
    | some k => exact absurd (h.all z k e) (by simp)
  funext f
  cases hU : U f with
  | true => rw [decide_eq_true (inv.bound f hU)]
  | false =>
    by_cases hf : f < n
    · obtain ⟨z, k, hz, _⟩ := inv.cover f hf hU
      rw [hT z] at hz; cases hz
    · rw [decide_eq_false hf]

theorem full_ne {n : Nat} (h : 1 ≤ n) : (blocks (fun f => decide (f < n)) n).map toInt ≠ [] := by
  intro e
  have hp := parts_of (inv_new n) held_none
  obtain ⟨x, hx, _⟩ := hp.cover 0 (by omega)
  rw [List.nil_append, e] at hx; cases hx
theorem len_size (l : List (Nat × Nat)) : l.length ≤ size l := by
  induction l with
  | nil => exact Nat.le_refl _
  | cons a l ih =>
    have := Nat.two_pow_pos a.2
    simp only [size, List.map_cons, List.sum_cons, List.length_cons] at *; omega
theorem full_cnt (n : Nat) : cnt (fun f => decide (f < n)) 0 n = n := cnt_all _ _ _ (fun _ hi => by simpa using hi)

set_option maxRecDepth 100000 in
set_option maxHeartbeats 8000000 in
theorem back_any (w : World) (a : Int) (ad : Option Addr) (len cap : Nat) (q : Nat → Bool × Int) (hq : Moves w ad len q) (hl : len ≤ 60) (ad2 : Option Addr) (len2 cap2 : Nat) (q2 : Nat → Int) (hq2 : Nums w ad2 len2 q2) (hl2 : len2 ≤ 60) (hg : w.cell? ⟨0, 0, none⟩ = some errT) :
    Calls Tryd.prog 5 #[.int .i64 a, .slice ad len cap, .slice ad2 len2 cap2] w fun e w' => e = .returned (.bool true) ∧ Below w.heap.size w w' := by
  have hl' : ¬ (60 : Int) < (len : Int) := by omega
  have hl2' : ¬ (60 : Int) < (len2 : Int) := by omega
  obtain ⟨i0, hi, hz0, hz1, hz2⟩ := info_parts (P := Tryd.prog) (e := 62) (z := .agg #[.int .i64 0, .int .i64 0]) (size := 2) (bytes := 16) (by kernel_rfl)
  go_enter Tryd.func5, Tryd.ntmps5
  go_wp2_with fail
  refine (pooled_ok _).mono ?_
  rintro e w1 ⟨rfl, b1⟩
  go_wp2_with fail
  refine (mpick_any _ a 200 (by omega) (by omega)).mono ?_
  rintro e w2 ⟨r, rfl, hr, h2⟩
  subst w2
  obtain ⟨n, hn⟩ : ∃ n : Nat, r + 1 = n := ⟨_, rfl⟩
  have hn1 : 1 + (r : Int) = (n : Int) := by omega
  have hn2 : 1 ≤ n ∧ n ≤ 200 := by omega
  go_wp2_with fail
  clear hn1 hn hr
  refine (pool_ok _ n (by omega) (by omega)).mono ?_
  rintro e w2 ⟨b, rfl, A0, a0, f0, o0⟩
  have b2 : Below w.heap.size w w2 := b1.trans (Below.of_fr w.heap.size b1.size f0 (fun _ _ h => h))
  go_wp2_with fail
  refine (pool_ok _ n (by omega) (by omega)).mono ?_
  rintro e w3 ⟨b', rfl, Aq, aq, fq, oq⟩
  have b3 : Below w.heap.size w w3 := b2.trans (Below.of_fr w.heap.size b2.size fq (fun _ _ h => h))
  have a3 : At w3 b n (fun f => decide (f < n)) (fun _ => none) 0 A0 := a0.keep' (fun i hi => fq.block i (a0.lt' hi) (fun h => h))
  have hAq : ∀ i, Aq i → ¬ A0 i := fun i h1 h2 => oq i (a0.lt' h2) h1
  have hA0 : ∀ i, i < w.heap.size → ¬ A0 i := fun i hi => o0 i (Nat.lt_of_lt_of_le hi b1.size)
  go_wp2_with fail
  refine (taken_ok ad len cap q (hq.keep b3) hl a3 (fun hpos blk off e hA => by
    rcases hq with h | ⟨blk', off', e', hb', _⟩
    · omega
    · rw [e] at e'; cases e'; exact hA0 blk hb' hA)).mono ?_
  rintro e w4 ⟨vh, rfl, L0, hL0, U0, T0, Ax, S0⟩
  clear hq a0 a3 f0 o0 oq fq b1 b2
  obtain ⟨ah, ch, rfl, hch⟩ := S0.list.form'
  go_wp2_with fail
  go_loopg [11, 13] L0.length (fun mm s11 s13 wr => ∃ (i : Nat) (L : List (Int × Int)) (U : Nat → Bool) (T : Int → Option Nat) (A : Nat → Prop), mm = L.length ∧ i + L.length = L0.length ∧ s13 = .int .i64 i ∧ TS w3 A0 b n wr s11 L U T 60 A)
  case atStart => exact ⟨0, L0, U0, T0, Ax, rfl, by omega, rfl, S0⟩
  case round =>
    clear S0
    obtain ⟨i, L, U, T, A, hLm, hiL, rfl, S⟩ := hrel
    have bW : Below w.heap.size w wr := b3.trans (Below.of_fr w.heap.size b3.size S.fr hA0)
    by_cases hL : L = []
    · as_aux_lemma =>
        subst hL
        have aQ : At wr b' n (fun f => decide (f < n)) (fun _ => none) 0 Aq := aq.keep' (fun i hi => S.fr.block i (aq.lt' hi) (hAq i hi))
        have hU := all_free S.pool.inv' S.held
        have aP := S.pool
        rw [hU] at aP
        have hLf := left_ok aP
        rw [full_cnt] at hLf
        have hF1 := free_ok aP
        have hne := full_ne hn2.1
        have hll : ((blocks (fun f => decide (f < n)) n).map toInt).length ≤ 1000 := by
          have h1 := len_size (blocks (fun f => decide (f < n)) n)
          have h2 := blocks_size (U := fun f => decide (f < n)) (n := n) (fun f h => by simpa using h)
          have h3 := cnt_le (fun f => decide (f < n)) n 0
          rw [List.length_map]; omega
        have hF2 : ∀ W : World, Below wr.heap.size wr W → Calls Tryd.prog 17 #[pp b'] W fun e w' => ∃ v, e = .returned v ∧ BL w' W.heap.size v ((blocks (fun f => decide (f < n)) n).map toInt) ∧ Below W.heap.size W w' := fun W hW => free_ok (aQ.keep' (fun i hi => hW.block i (aQ.lt' hi)))
        generalize (blocks (fun f => decide (f < n)) n).map toInt = LF at *
        obtain ⟨a', c', hv', _⟩ := S.list.form'
        rw [List.length_nil] at hv'
        subst hv'
        clear S aP aQ
        go_wp2_with fail
        refine hLf.mono ?_
        rintro e w7 ⟨rfl, h7⟩
        subst w7
        go_wp2_with fail
        refine hF1.mono ?_
        rintro e w5 ⟨v5, rfl, B5, l5⟩
        obtain ⟨g5, c5, rfl, _, hg5, _, r5, _⟩ := B5.at' hne
        have hF2' := hF2 _ l5
        clear hF1 hF2 hLf
        go_wp2_with fail
        refine hF2'.mono ?_
        rintro e w6 ⟨v6, rfl, B6, l6⟩
        obtain ⟨g6, c6, rfl, _, hg6, _, r6, _⟩ := B6.at' hne
        have hE := equal_ok (cap := c5) (cap' := c6) (Rd.keep r5 (l6.block _ hg5)) r6 hll
        clear hF2'
        go_wp2_with fail
        refine hE.mono ?_
        rintro e w7 ⟨rfl, l7⟩
        go_wp2_with fail
        go_ret
        exact ⟨rfl, bW.trans ((l5.mono bW.size).trans ((l6.mono (Nat.le_trans bW.size l5.size)).trans (l7.mono (Nat.le_trans bW.size (Nat.le_trans l5.size l6.size)))))⟩
    · have hpos : 0 < L.length := List.length_pos_iff.2 hL
      have hpos' : (0 : Int) < (L.length : Int) := by omega
      obtain ⟨gb, cp, hv, hgb, hgl, hcp, hrd, hcl⟩ := S.list.at' hL
      subst hv
      go_upto_if 68 with fail
      go_cut [14] (fun s14 wc => ∃ k : Nat, k < L.length ∧ s14 = .int .i64 k ∧ wc = wr)
      case first =>
        as_aux_lemma =>
          by_cases h0 : len2 = 0
          · subst h0
            go_wp2_with fail
            go_meet
            case rel => exact ⟨0, hpos, rfl, rfl⟩
          · have h0' : (0 : Int) < (len2 : Int) := by omega
            obtain ⟨m, hm⟩ : ∃ m : Nat, i % len2 = m := ⟨_, rfl⟩
            have hml : m < len2 := by rw [← hm]; exact Nat.mod_lt _ (by omega)
            have hml' : (m : Int) < (len2 : Int) := by omega
            have hp0 : 0 < len2 := by omega
            rcases hq2 with hq2 | ⟨blk, off, rfl, hbl, hc⟩
            · exact absurd hq2 h0
            have hcm : wr.cell? ⟨blk, off + m, none⟩ = some (.int .i64 (q2 m)) := by rw [World.cell?_of_block (w := w) (a := ⟨blk, off + m, none⟩) (bW.block blk hbl)]; exact hc m hml
            generalize q2 m = N at *
            clear hc hrd hcl S hg
            have hLs : L.length ≤ 60 := by omega
            clear hiL hLm hL0 hn2 hch hcp hgl hgb hl hl2 hAq hA0 b3 aq hi
            go_wp2_with (first | (refine wpList_remn rfl (.tmp 70) (.tmp 72) _ rfl i len2 m rfl rfl hp0 hm ?_; clear hm hp0) | fail)
            refine (mpick_any _ N L.length (by omega) (by omega)).mono ?_
            rintro e w9 ⟨k, rfl, hk, h9⟩
            subst w9
            go_wp2_with fail
            go_meet
            case rel => exact ⟨k, hk, rfl, rfl⟩
      case rest =>
        obtain ⟨k, hk, rfl, hwc⟩ := hcut
        subst wc
        obtain ⟨r0, r1⟩ := hrd k hk
        obtain ⟨k', hk', hTk⟩ := S.held.mem L[k] (List.getElem_mem hk)
        obtain ⟨hk6, p, hp, hpf⟩ := S.pool.inv'.tk _ _ hTk
        have hd2 := S.held.drop hk
        have hgW : wr.cell? ⟨0, 0, none⟩ = some errT := by rw [World.cell?_of_block (w := w) (a := ⟨0, 0, none⟩) (bW.block _ (World.block_lt_of_cell? w _ hg))]; exact hg
        have hge : 0 < w3.heap.size := Nat.lt_of_lt_of_le (World.block_lt_of_cell? w _ hg) b3.size
        have hwf : (Lit.int .i64 L[k].1).wf = true := by
          have := (hpf _ (first_in k' p)).1
          rw [hp]; exact wf_small (by omega) (by omega)
        have hA00 : ¬ A0 0 := hA0 _ (World.block_lt_of_cell? w _ hg)
        have hG : Calls Tryd.prog 21 #[pp b, .int .i64 L[k].1, .int .i64 L[k].2] (wr.alloc (.cells #[.int .i64 L[k].1, .int .i64 L[k].2] 62)) fun e w' => e = .returned .nilIface ∧ (∃ U2 A2, At w' b n U2 (fun i => if i = L[k].1 then none else T i) 60 A2 ∧ Fr A0 w3 w' ∧ (∀ i, i < w3.heap.size → A2 i → A0 i) ∧ BL w' w3.heap.size (.slice (some ⟨gb, 0, none⟩) L.length cp) L ∧ ¬ A2 gb) ∧ w'.cell? ⟨wr.heap.size, 0, none⟩ = some (.int .i64 L[k].1) ∧ w'.cell? ⟨wr.heap.size, 1, none⟩ = some (.int .i64 L[k].2) ∧ w'.cell? ⟨0, 0, none⟩ = some errT := by
          have S' := S.alloc (.cells #[.int .i64 L[k].1, .int .i64 L[k].2] 62)
          have hg' := give_ok S'.pool p k' (by rw [← hp]; exact hTk)
          rw [← hp, ← hk'] at hg'
          refine hg'.mono ?_
          rintro e w' ⟨rfl, t⟩
          have t' := t
          obtain ⟨A2, a2, fr2, sub2, bl2, off2⟩ := S'.turn t
          obtain ⟨A9, a9, fr9, sub9⟩ := t'
          have hbx : w'.heap[wr.heap.size]? = (wr.alloc (.cells #[.int .i64 L[k].1, .int .i64 L[k].2] 62)).heap[wr.heap.size]? := fr9.block _ (by simp) (fun h => by have := S.pool.lt' h; omega)
          refine ⟨rfl, ⟨_, A2, a2, fr2, sub2, bl2, off2 gb rfl⟩, (World.cell?_of_block (a := ⟨wr.heap.size, 0, none⟩) hbx).trans (new_two wr _ _ _ 0 _ rfl), (World.cell?_of_block (a := ⟨wr.heap.size, 1, none⟩) hbx).trans (new_two wr _ _ _ 1 _ rfl), ?_⟩
          rw [World.cell?_of_block (w := w3) (a := ⟨0, 0, none⟩) (fr2.block _ hge hA00), ← World.cell?_of_block (w := w3) (a := ⟨0, 0, none⟩) (S.fr.block _ hge hA00)]; exact hgW
        clear hrd hTk hp hk' hcl S hpf
        generalize hz : L[k].1 = z at *
        generalize hko : L[k].2 = ko at *
        go_wp2_with fail
        refine hG.mono ?_
        rintro e w5 ⟨rfl, ⟨U2, A2, a2, fr2, sub2, bl2, hA2⟩, x0, x1, x2⟩
        have hNo := give_no a2 z ko hwf (fun j h => by simp at h)
        clear hG
        go_wp2_with fail
        refine hNo.mono ?_
        rintro e w6 ⟨rfl, h6⟩
        subst w6
        go_wp2_with fail
        refine (tell_eno 7 _ x2).mono ?_
        rintro e w6 ⟨rfl, l6⟩
        have a3 := a2.keep' (w' := w6) (fun i hi => l6.block i (a2.lt' hi))
        have fr3 : Fr A0 w3 w6 := fr2.trans (B := fun _ => False) ⟨l6.os, l6.tape, l6.output, l6.size, fun i hi _ => l6.block i hi⟩ (fun _ _ h => h.elim)
        have bl3 := bl2.keep l6
        obtain ⟨k1, ad3, c⟩ := cut_out bl3 fr3.size (by omega) hk
        have hs1 := c.s1
        have hs2 := c.s2
        have hw1 := c.w1
        have hw2 := c.w2
        clear hNo x0 x1 a2 fr2 bl2 l6
        go_upto_region 22 with fail
        go_region_held3 (fun _ => True) (trivial) (first
          | (refine step_append_mine rfl (.tmp 100) (.tmp 103) 48 rfl w3.heap.size 62 i0 (.agg #[.int .i64 0, .int .i64 0]) 2 16 Tryd.underlying48 hi hz0 hz1 hz2 rfl (by decide) (.slice (some ⟨w6.heap.size, 0, none⟩) 0 0) 0 [] (by simp [Act.eval]) (c.own _ ⟨by rfl, by rfl, by rfl, by rfl⟩) ⟨gb, 0, none⟩ k cp (bc (L.take k)) (by simp [Act.eval]) c.l1 (c.c1 _ ⟨by rfl, by rfl, by rfl, by rfl⟩) (bc_one _) c.m1 c.y1 (c.b _ ⟨by rfl, by rfl, by rfl, by rfl⟩) ?_; intro v7 w7 ho7 hg7 hv7)
          | (refine step_append_mine rfl (.tmp 104) (.tmp 108) 48 rfl w3.heap.size 62 i0 (.agg #[.int .i64 0, .int .i64 0]) 2 16 Tryd.underlying48 hi hz0 hz1 hz2 rfl (by decide) v7 (0 + k) _ (by simp [Act.eval]) ho7 ad3 (L.length - k1) (cp - k1) (bc (L.drop k1)) (by simp [Act.eval]) c.l2 (c.c2 _ _ ⟨by rfl, by rfl, by rfl, by rfl⟩ hg7) (bc_one _) c.m2 c.y2 (Nat.le_trans (c.b _ ⟨by rfl, by rfl, by rfl, by rfl⟩) hg7.size) ?_; intro v8 w8 ho8 hg8 hv8))
        all_goals
          obtain ⟨g, hb, hv⟩ := c.got ⟨by rfl, by rfl, by rfl, by rfl⟩ hk hg7 hv7 ho8 hg8 hv8
          have S3 := TS.relist (v := .slice none 0 0) a3 fr3 sub2 (fun i h => by cases h) g hb (fun i hi => .inr (hv i hi)) hd2
          go_wp2_with fail
          go_roundg (gk - 1)
          case measure => omega
          case rel => exact ⟨i + 1, _, U2, _, A2, by simp; omega, by simp; omega, by go_num, S3⟩
end Go.Proofs.YtaggodghaemkiaaDoor
