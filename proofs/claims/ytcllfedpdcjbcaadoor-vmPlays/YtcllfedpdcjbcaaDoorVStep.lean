/- Package vm: Store, by its Go text. -/
import Derived.Test.YtcllfedpdcjbcaaDoorVOps
namespace Go.Proofs.YtcllfedpdcjbcaaDoor
open Go.RowKit Go.Shelf Go.Lib Go.Sort Go.Maps

section
variable {E : St} {w w' : World} {c gc : Nat} {D : Nat → Nat → Int} {A : Nat → Prop} {P : PM} {o : Int → Nat}

/-- How many frames pages have. -/
def used (t : Int → Nat) (n : Nat) : Nat := num (Rof t) n

theorem num_lt {R : Int → Option Nat} {n k : Nat} (hk : k < n) (h : R (k : Int) = none) : num R n < n := by
  have h1 := num_put_new (m := 1) hk h
  have h2 := num_le (putC R (k : Int) 1) n
  omega

/-- A store whose words turned, nothing else. -/
theorem Vs.words {R : Int → Option Nat} (h : Vs E w D R A) {D' : Nat → Nat → Int} (hg : w.grownBy w' (some E.sm)) (m : Mem w' E.bm E.sm E.n D') : Vs E w' D' R A := by
  have hk : ∀ i, i < w.heap.size → i ≠ E.sm → w'.heap[i]? = w.heap[i]? := fun i hi hn => hg.block i hi (fun e => hn (Option.some.inj e))
  obtain ⟨U, T, a, s⟩ := h.pool
  exact ⟨(hk _ h.blt h.nbs).trans h.head, m, ⟨U, T, a.keep' (fun i hi => hk i (a.lt' hi) (fun e => h.offs (e ▸ hi))), s⟩, h.map.keep (hk _ h.glt (fun e => h.nsg e.symm)), h.small, h.offb, h.offm, h.offs, h.offg, h.nbs, h.nbg, h.nmg, h.nsg, h.n1⟩
theorem VS.words (h : VS E w c gc D A P o) {D' : Nat → Nat → Int} (hg : w.grownBy w' (some E.sm)) (m : Mem w' E.bm E.sm E.n D') : VS E w' c gc D' A P o := by
  have hk : ∀ i, i < w.heap.size → i ≠ E.sm → w'.heap[i]? = w.heap[i]? := fun i hi hn => hg.block i hi (fun e => hn (Option.some.inj e))
  exact ⟨h.st.words hg m, h.sp.keep (hk c h.sp.lt (fun e => h.offc (.inr (.inl e)))) (hk gc h.sp.glt (fun e => h.offg (.inr (.inl e)))), h.ok, h.dis, h.offc, h.offg, h.gb, h.gm⟩

/-- A page has a frame of its own, and a word of it is written. -/
theorem VS.stored (h : VS E w c gc D A P o) {a x y : Int} (hP : P a = some (x, y)) {k : Nat} (hk : k < E.n) (hk0 : sh P (k : Int) + o (k : Int) = 0) {i0 : Nat} (hi : ¬ vown E A i0) (hic : i0 ≠ c) (_hig : i0 ≠ gc) (hib : i0 ≠ E.b) (him : i0 ≠ E.bm) (hil : i0 < w.heap.size)
    {w2 w3 w4 w5 : World} {A2 : Nat → Prop} {D2 D5 : Nat → Nat → Int} (v2 : Vs E w2 D2 (putC (dropR (Rof fun f => sh P f + o f) y) (k : Int) 1) A2) (f2 : Fr (vown E A) w w2) (s2 : ∀ i, i < w.heap.size → A2 i → A i)
    (f3 : Fr (· = i0) w2 w3) (g4 : w3.grownBy w4 (some gc)) (pm4 : PMap w4 gc (if (pgv P a).isSome then lenP P else lenP P + 1) (pgv (putP P a (x, (k : Int)))))
    (g5 : w4.grownBy w5 (some E.sm)) (m5 : Mem w5 E.bm E.sm E.n D5) :
    ∃ A', VS E w5 c gc D5 A' (putP P a (x, (k : Int))) o ∧ Fr (fun i => (vown E A i ∨ i = gc) ∨ i = i0) w w5 ∧ ∀ i, i < w.heap.size → A' i → A i := by
  have hsome : (P a).isSome = true := by rw [hP]; rfl
  have hka := h.ok.key a hsome
  have hpr := h.ok.prot a _ hP
  have hfr : frm P a = y := frm_some hP
  have hown2 : ∀ i, i < w.heap.size → vown E A2 i → vown E A i := fun i hi ho => by
    rcases ho with ho | ho
    · exact .inl (s2 i hi ho)
    · exact .inr ho
  have l2 : ∀ i, i < w.heap.size → i < w2.heap.size := fun i hi => Nat.lt_of_lt_of_le hi f2.size
  have l3 : ∀ i, i < w2.heap.size → i < w3.heap.size := fun i hi => Nat.lt_of_lt_of_le hi f3.size
  have k4 : ∀ i, i < w2.heap.size → i ≠ i0 → i ≠ gc → w4.heap[i]? = w2.heap[i]? := fun i hi h1 h2 => (g4.block i (l3 i hi) (fun e => h2 (Option.some.inj e))).trans (f3.block i hi h1)
  have hR : putC (dropR (Rof fun f => sh P f + o f) y) (k : Int) 1 = Rof fun f => sh (putP P a (x, (k : Int))) f + o f := by
    refine v2.rof (fun z hz => ?_)
    have hs := sh_put (P := P) hka.1 hka.2 (x, (k : Int)) z
    simp only at hs
    rw [val_put]
    by_cases e : z = (k : Int)
    · subst e
      rw [if_pos rfl]
      have : ¬ frm P a = (k : Int) := sh_none (by omega) h.ok (by omega) a
      rw [if_neg this, if_pos rfl] at hs
      omega
    · rw [if_neg e, dropR_val]
      have q1 : (if (k : Int) = z then 1 else 0) = 0 := if_neg (fun h => e h.symm)
      rw [q1] at hs
      by_cases e' : z = y
      · rw [if_pos (by rw [hfr, e'])] at hs
        rw [if_pos e', Rof_val (by rw [← e']; exact hz), ← e']; omega
      · rw [if_neg (by rw [hfr]; exact fun h => e' h.symm)] at hs
        rw [if_neg e', Rof_val hz]; omega
  rw [hR] at v2
  have v4 : Vs E w4 D2 (Rof fun f => sh (putP P a (x, (k : Int))) f + o f) A2 := by
    refine v2.keep (fun i hi' => k4 i (v2.olt hi') (fun e => hi (hown2 i0 hil (e ▸ hi'))) (fun e => h.offg (hown2 gc h.sp.glt (e ▸ hi')))) (k4 _ v2.blt (fun e => hib e.symm) (fun e => h.gb e.symm)) (k4 _ v2.mlt (fun e => him e.symm) (fun e => h.gm e.symm))
  have hgc4 : gc ≠ E.sm := fun e => h.offg (.inr (.inl e))
  have sp4 : Sp w4 c E.b gc (putP P a (x, (k : Int))) := by
    refine ⟨((k4 c (l2 c h.sp.lt) (fun e => hic e.symm) h.sp.ne).trans (f2.block c h.sp.lt h.offc)).trans h.sp.head, ?_⟩
    rw [lenP_put_old hsome]
    rw [pgv_isSome, if_pos hsome] at pm4
    exact pm4
  have V4 : VS E w4 c gc D2 A2 (putP P a (x, (k : Int))) o :=
    ⟨v4, sp4, h.ok.put hka.1 hka.2 hpr (.inr ⟨by show (0 : Int) ≤ (k : Int); omega, by show (k : Int) < (E.n : Int); omega⟩), h.dis.put hka.1 hka.2 (.inr (.inl (by show sh P (k : Int) = 0; omega))), fun ho => h.offc (hown2 c h.sp.lt ho), fun ho => h.offg (hown2 gc h.sp.glt ho), h.gb, h.gm⟩
  refine ⟨A2, V4.words g5 m5, ?_, s2⟩
  exact (((f2.mono (fun i _ h => .inl (.inl h))).trans f3 (fun i _ e => .inr e)).trans (Fr.grown g4) (fun i _ e => .inl (.inr e))).trans (Fr.grown g5) (fun i _ e => .inl (.inl (.inr (.inl e))))

/-- What Store answers, and makes. -/
def StR (n : Nat) (P : PM) (o : Int → Nat) (D : Nat → Nat → Int) (a k v : Int) (er : Int) (P' : PM) (D' : Nat → Nat → Int) : Prop :=
  (useE P a k 2 ≠ 0 ∧ er = useE P a k 2 ∧ P' = P ∧ D' = D) ∨
  (useE P a k 2 = 0 ∧ frm P a ≠ -1 ∧ sh P (frm P a) + o (frm P a) = 1 ∧ er = 0 ∧ P' = P ∧ D' = upd D (frm P a).toNat k.toNat v) ∨
  (useE P a k 2 = 0 ∧ (frm P a = -1 ∨ 1 < sh P (frm P a) + o (frm P a)) ∧ used (fun f => sh P f + o f) n = n ∧ er = 12 ∧ P' = P ∧ D' = D) ∨
  (useE P a k 2 = 0 ∧ (frm P a = -1 ∨ 1 < sh P (frm P a) + o (frm P a)) ∧ ∃ f : Nat, f < n ∧ sh P (f : Int) + o (f : Int) = 0 ∧ er = 0 ∧ P' = putP P a ((pg P a).1, (f : Int)) ∧ D' = upd (row D f (firstW D (frm P a))) f k.toNat v)

set_option maxRecDepth 100000 in
set_option maxHeartbeats 8000000 in
theorem VS.store_ok (h : VS E w c gc D A P o) (a k v : Int) (ha : (Lit.int .i64 a).wf = true) :
    Calls Tryd.prog 66 #[vp c, .int .i64 a, .int .i64 k, .int .i64 v] w fun e w' => ∃ er P' D', StR E.n P o D a k v er P' D' ∧ e = .returned (errV er) ∧ STurn E w c gc A w' D' P' o := by
  have hU := usable_ok h.sp h.ok a k 2 ha (.inr rfl)
  go_enter Tryd.func66, Tryd.ntmps66
  go_wp2_with fail
  refine hU.mono ?_
  rintro e w1 ⟨x, y, rfl, hxy, b1⟩
  clear hU
  have bA : Below w.heap.size w (w1.alloc (.cells #[.int .i64 x, .int .i64 y] 172)) := b1.alloc b1.size _
  by_cases hz : useE P a k 2 = 0
  · have hP := hxy hz
    have hf : frm P a = y := frm_some hP
    have hk : 0 ≤ k ∧ k < 8 := by
      apply Classical.byContradiction; intro hk
      unfold useE at hz; rw [hP] at hz; simp only [if_neg hk] at hz; omega
    have hev : errV (useE P a k 2) = .nilIface := by rw [hz]; rfl
    rw [hev]
    have hpgx : (pg P a).1 = x := by unfold pg; rw [hP]; rfl
    have h1 := h.below bA
    have hn1 := heap_new w1 (.cells #[.int .i64 x, .int .i64 y] 172)
    obtain ⟨W, hW⟩ : ∃ W, w1.alloc (.cells #[.int .i64 x, .int .i64 y] 172) = W := ⟨_, rfl⟩
    obtain ⟨i0, hi0⟩ : ∃ i0, w1.heap.size = i0 := ⟨_, rfl⟩
    have hW0 : w.heap.size ≤ i0 := by rw [← hi0]; exact b1.size
    rw [hW] at bA h1 hn1
    rw [hi0] at hn1
    have hil : i0 < W.heap.size := lt_of_heap hn1
    obtain ⟨p0, p1, pf0, pf1⟩ := page_cells hn1
    have c0 := h1.sp.c0
    have c1 := h1.sp.c1
    have d0 := h1.st.c0
    have hwt : ∀ {V : World} {P' : PM} {D' : Nat → Nat → Int}, STurn E W c gc A V D' P' o → STurn E w c gc A V D' P' o := fun t => STurn.trans (fr_below bA) (fun _ _ h => h) t
    have hval : y ≠ -1 → val (Rof fun f => sh P f + o f) y = sh P y + o y := fun hy => Rof_val (by rcases h.ok.frame a with e | e <;> rw [hf] at e <;> omega)
    have hpos : y ≠ -1 → 1 ≤ sh P y + o y := fun hy => by
      have := sh_pos (a := a) h.ok (by rw [hf]; exact hy)
      rw [hf] at this; omega
    have hyw : (Lit.int .i64 y).wf = true := by
      rcases h.ok.frame a with e | e <;> rw [hf] at e
      · subst e; kernel_rfl
      · have := h.st.n256; exact wf_small (by omega) (by omega)
    by_cases hown : y ≠ -1 ∧ sh P y + o y = 1
    · have hIs : ∀ q, Calls Tryd.prog 109 #[vp E.b, .int .i64 y] (W.drewN q) fun e w' => e = .returned (.bool true) ∧ ∃ q', w' = (W.drewN q).drewN q' := fun q => by
        refine ((h1.drewN q).st.isOwn y hyw).mono ?_
        rintro e w' ⟨he, hw⟩
        rw [hval hown.1, hown.2] at he
        exact ⟨he, 0, hw⟩
      have hfr : 0 ≤ y ∧ y < (E.n : Int) := by rcases h.ok.frame a with e | e <;> rw [hf] at e <;> omega
      have hSet : ∀ q, Calls Tryd.prog 15 #[mp E.bm, .int .i64 y, .int .i64 k, .int .i64 v] (W.drewN q) fun e w' => e = .returned .nilIface ∧ STurn E w c gc A w' (upd D y.toNat k.toNat v) P o := fun q => by
        have hq := h1.drewN q
        refine (set_ok hq.st.mem y k v hfr.1 hfr.2 hk.1 hk.2).mono ?_
        rintro e w' ⟨he, m', _, g'⟩
        refine ⟨he, hwt ⟨A, hq.words g' m', (Fr.drewN _ W q).trans (Fr.grown g') (fun i _ e => .inl (.inr (.inl e))), fun _ _ h => h⟩⟩
      have HR : Hid (StR E.n P o D a k v 0 P (upd D y.toNat k.toNat v)) := hide (.inr (.inl ⟨hz, by rw [hf]; exact hown.1, by rw [hf]; exact hown.2, rfl, rfl, by rw [hf]⟩))
      clear h1 hxy hz hP hf hval hpos hown hwt h hn1 hev
      go_upto_region 4 with fail
      go_quiet (first | (go_at_call 109; exact Calls.quiet_of (hIs _)))
      go_wp2_with fail
      go_region_with (go_at_call 15; refine (hSet _).mono ?_; rintro e w5 ⟨rfl, t5⟩)
      all_goals
        go_wp2_with fail
        go_ret
        exact ⟨_, _, _, HR.out, rfl, t5⟩
    · have hnot : y = -1 ∨ 1 < sh P y + o y := by
        by_cases hy : y = -1
        · exact .inl hy
        · have := hpos hy
          exact .inr (by have : ¬ sh P y + o y = 1 := fun e => hown ⟨hy, e⟩; omega)
      have hIs : ∀ q, Calls Tryd.prog 109 #[vp E.b, .int .i64 y] (W.drewN q) fun e w' => e = .returned (.bool false) ∧ ∃ q', w' = (W.drewN q).drewN q' := fun q => by
        refine ((h1.drewN q).st.isOwn y hyw).mono ?_
        rintro e w' ⟨he, hw⟩
        have hne : ¬ val (Rof fun f => sh P f + o f) y = 1 := by
          by_cases hy : y = -1
          · rw [hy, val, h.st.neg (by omega)]; simp
          · rw [hval hy]; exact fun e => hown ⟨hy, e⟩
        rw [decide_eq_false hne] at he
        exact ⟨he, 0, hw⟩
      have hnR : y = -1 ∨ 1 < val (Rof fun f => sh P f + o f) y := by
        rcases hnot with e | e
        · exact .inl e
        · by_cases hy : y = -1
          · exact .inl hy
          · exact .inr (by rw [hval hy]; exact e)
      have hnot' : frm P a = -1 ∨ 1 < sh P (frm P a) + o (frm P a) := by rw [hf]; exact hnot
      by_cases hfull : used (fun f => sh P f + o f) E.n = E.n
      · have hOwn : ∀ q, Calls Tryd.prog 110 #[vp E.b, .int .i64 y] (W.drewN q) fun e w' => e = .returned (.tuple #[.int .i64 (-1), enr 12]) ∧ ∃ q', w' = (W.drewN q).drewN q' := fun q => by
          refine ((h1.drewN q).st.own_ok y hnR).mono ?_
          rintro e w' (⟨_, he, hw⟩ | ⟨f, hf1, hf2, _⟩)
          · exact ⟨he, 0, hw⟩
          · have := num_lt hf1 hf2
            unfold used at hfull; omega
        have HR : Hid (StR E.n P o D a k v 12 P D) := hide (.inr (.inr (.inl ⟨hz, hnot', hfull, rfl, rfl, rfl⟩)))
        have ht : ∀ q u, STurn E w c gc A ((W.drewN q).setCell ⟨i0, 1, none⟩ u) D P o := fun q u => by
          refine STurn.below h (Below.setCell (p := ⟨i0, 1, none⟩) ?_ hW0 u)
          exact ⟨bA.os, bA.tape, bA.output, bA.size, bA.block⟩
        clear h1 hxy hz hP hf hval hpos hown hwt h hn1 hev hnot hnR hnot' hfull
        go_upto_region 4 with fail
        go_quiet (first | (go_at_call 109; exact Calls.quiet_of (hIs _)))
        go_wp2_with fail
        go_region_with (go_at_call 110; refine (hOwn _).mono ?_; rintro e w2 ⟨rfl, q2, rfl⟩)
        all_goals
          go_wp2_with fail
          go_ret
          exact ⟨_, _, _, HR.out, rfl, ht _ _⟩
      · have hic : i0 ≠ c := fun e => by have := h.sp.lt; omega
        have hig : i0 ≠ gc := fun e => by have := h.sp.glt; omega
        have hib : i0 ≠ E.b := fun e => by have := h.st.blt; omega
        have him : i0 ≠ E.bm := fun e => by have := h.st.mlt; omega
        have hio : ¬ vown E A i0 := fun ho => by have := h.st.olt ho; omega
        have hOwn : ∀ q, Calls Tryd.prog 110 #[vp E.b, .int .i64 y] (W.drewN q) fun e w2 => ∃ f : Nat, e = .returned (.tuple #[.int .i64 (f : Int), .nilIface]) ∧ f < E.n ∧ sh P (f : Int) + o (f : Int) = 0 ∧
            (∃ A2, Vs E w2 (row D f (firstW D y)) (putC (dropR (Rof fun f => sh P f + o f) y) (f : Int) 1) A2 ∧ Fr (vown E A) W w2 ∧ (∀ i, i < W.heap.size → A2 i → A i)) ∧
            w2.cell? ⟨c, 0, none⟩ = some (vp E.b) ∧ w2.cell? ⟨c, 1, none⟩ = some (.map (some gc)) ∧ w2.cell? ⟨E.b, 0, none⟩ = some (mp E.bm) ∧ w2.heap[i0]? = some (.cells #[.int .i64 x, .int .i64 y] 172) ∧ PMap w2 gc (lenP P) (pgv P) := fun q => by
          refine ((h1.drewN q).st.own_ok y hnR).mono ?_
          rintro e w2 (⟨hn, _⟩ | ⟨f, hf1, hf2, he, A2, v2, f2, s2⟩)
          · exact absurd hn hfull
          · have f2' : Fr (vown E A) W w2 := (Fr.drewN _ W q).trans f2 (fun _ _ h => h)
            refine ⟨f, he, hf1, (Rof_none (t := fun f => sh P f + o f) (by omega)).1 hf2, ⟨A2, v2, f2', s2⟩, ?_, ?_, ?_, (f2'.block i0 hil hio).trans hn1, h1.sp.map.keep (f2'.block gc h1.sp.glt h1.offg)⟩
            · rw [World.cell?_of_block (w := W) (a := ⟨c, 0, none⟩) (f2'.block c h1.sp.lt h1.offc)]; exact c0
            · rw [World.cell?_of_block (w := W) (a := ⟨c, 1, none⟩) (f2'.block c h1.sp.lt h1.offc)]; exact c1
            · rw [World.cell?_of_block (w := W) (a := ⟨E.b, 0, none⟩) (f2'.block E.b h1.st.blt h1.st.bno)]; exact d0
        have HR : Hid (∀ f : Nat, f < E.n → sh P (f : Int) + o (f : Int) = 0 → StR E.n P o D a k v 0 (putP P a (x, (f : Int))) (upd (row D f (firstW D y)) f k.toNat v)) := hide (fun f hf1 hf2 => .inr (.inr (.inr ⟨hz, hnot', f, hf1, hf2, rfl, by rw [hpgx], by rw [hf]⟩)))
        have hfin := fun (f : Nat) (hf1 : f < E.n) (hf2 : sh P (f : Int) + o (f : Int) = 0) (w2 w3 w4 w5 : World) A2 (v2 : Vs E w2 (row D f (firstW D y)) _ A2) f2 s2 f3 g4 pm4 g5 (m5 : Mem w5 E.bm E.sm E.n (upd (row D f (firstW D y)) f k.toNat v)) => h1.stored hP hf1 hf2 hio hic hig hib him hil (w2 := w2) (w3 := w3) (w4 := w4) (w5 := w5) (A2 := A2) v2 f2 s2 f3 g4 pm4 g5 m5
        have hfin2 : ∀ (f : Nat) (w5 : World), (∃ A', VS E w5 c gc (upd (row D f (firstW D y)) f k.toNat v) A' (putP P a (x, (f : Int))) o ∧ Fr (fun i => (vown E A i ∨ i = gc) ∨ i = i0) W w5 ∧ ∀ i, i < W.heap.size → A' i → A i) → STurn E w c gc A w5 (upd (row D f (firstW D y)) f k.toNat v) (putP P a (x, (f : Int))) o := fun f w5 ⟨A', v', f', s'⟩ => by
          have fA : Fr (fun i => vown E A i ∨ i = gc) w W := fr_below bA
          exact ⟨A', v', fA.trans f' (fun i hi ho => by rcases ho with ho | ho; exact ho; omega) |> fun z => z, fun i hi ha => s' i (Nat.lt_of_lt_of_le hi bA.size) ha⟩
        have hcg : c ≠ gc := h.sp.ne
        have hgb := h.gb
        have hgm := h.gm
        have his : E.sm ≠ i0 := fun e => hio (.inr (.inl e.symm))
        have hsg : E.sm ≠ gc := fun e => h.offg (.inr (.inl e.symm))
        have hsz : lenP P < maxLen := by have := lenP_le P; unfold maxLen; omega
        clear h1 hxy hz hP hf hval hpos hown hwt h hev hnot hnR hnot' hfull hpgx
        go_upto_region 4 with fail
        go_quiet (first | (go_at_call 109; exact Calls.quiet_of (hIs _)))
        go_wp2_with fail
        go_region_with (go_at_call 110; refine (hOwn _).mono ?_; rintro e w2 ⟨f, rfl, hf1, hf2, ⟨A2, v2, f2, s2⟩, cc0, cc1, dd0, hblk, pm2⟩; obtain ⟨pp0, pp1, ppf0, ppf1⟩ := page_cells hblk)
        all_goals
          have hblk3 := heap_setCell_same w2 i0 1 (.int .i64 (f : Int)) _ _ _ hblk
          have f3 : Fr (· = i0) w2 (w2.setCell ⟨i0, 1, none⟩ (.int .i64 (f : Int))) := (Fr.refl _ _).setCell i0 1 _ (fun _ => rfl)
          obtain ⟨W3, hW3⟩ : ∃ W3, w2.setCell ⟨i0, 1, none⟩ (.int .i64 (f : Int)) = W3 := ⟨_, rfl⟩
          rw [hW3] at hblk3 f3 ⊢
          replace hblk3 : W3.heap[i0]? = some (.cells #[.int .i64 x, .int .i64 (f : Int)] 172) := hblk3
          obtain ⟨q0, q1, _, _⟩ := page_cells hblk3
          have lc : c < w2.heap.size := World.block_lt_of_cell? w2 _ cc0
          have lb : E.b < w2.heap.size := World.block_lt_of_cell? w2 _ dd0
          have c0' : W3.cell? ⟨c, 0, none⟩ = some (vp E.b) := by rw [World.cell?_of_block (w := w2) (a := ⟨c, 0, none⟩) (f3.block c lc (fun e => hic e.symm))]; exact cc0
          have c1' : W3.cell? ⟨c, 1, none⟩ = some (.map (some gc)) := by rw [World.cell?_of_block (w := w2) (a := ⟨c, 1, none⟩) (f3.block c lc (fun e => hic e.symm))]; exact cc1
          have d0' : W3.cell? ⟨E.b, 0, none⟩ = some (mp E.bm) := by rw [World.cell?_of_block (w := w2) (a := ⟨E.b, 0, none⟩) (f3.block E.b lb (fun e => hib e.symm))]; exact dd0
          have pm3 := pm2.keep (f3.block gc pm2.lt (fun e => hig e.symm))
          obtain ⟨w4, hrun, pm4, g4⟩ := (pm3.keep (w' := W3.drew) rfl).put Tryd.underlying166 hsz a ha (.agg #[.int .i64 x, .int .i64 (f : Int)])
          rw [pgv_put] at pm4
          have g4' : W3.grownBy w4 (some gc) := ⟨g4.os, g4.tape, g4.output, g4.size, g4.block⟩
          have c0'' := g4'.cell c0' (fun e => hcg (Option.some.inj e))
          have d0'' := g4'.cell d0' (fun e => hgb (Option.some.inj e).symm)
          have q1'' := g4'.cell q1 (fun e => hig (Option.some.inj e))
          have k4 : ∀ i, i < w2.heap.size → i ≠ i0 → i ≠ gc → w4.heap[i]? = w2.heap[i]? := fun i hi h1 h2 => (g4'.block i (Nat.lt_of_lt_of_le hi f3.size) (fun e => h2 (Option.some.inj e))).trans (f3.block i hi h1)
          have m4 := v2.mem.keep (k4 _ v2.mlt (fun e => him e.symm) (fun e => hgm e.symm)) (k4 _ v2.slt his hsg)
          have hSet : ∀ q, Calls Tryd.prog 15 #[mp E.bm, .int .i64 (f : Int), .int .i64 k, .int .i64 v] (w4.drewN q) fun e w' => e = .returned .nilIface ∧ STurn E w c gc A w' (upd (row D f (firstW D y)) f k.toNat v) (putP P a (x, (f : Int))) o := fun q => by
            refine (set_ok (m4.keep (w' := w4.drewN q) rfl rfl) (f : Int) k v (by omega) (by omega) hk.1 hk.2).mono ?_
            rintro e w5 ⟨he, m5, _, g5⟩
            have g5' : w4.grownBy w5 (some E.sm) := ⟨g5.os, g5.tape, g5.output, g5.size, g5.block⟩
            exact ⟨he, hfin2 f w5 (hfin f hf1 hf2 w2 W3 w4 w5 A2 v2 f2 s2 f3 g4' pm4 g5' (by simpa using m5))⟩
          have HF : Hid (StR E.n P o D a k v 0 (putP P a (x, (f : Int))) (upd (row D f (firstW D y)) f k.toNat v)) := hide (HR.out f hf1 hf2)
          clear hfin hfin2 HR v2 f2 s2 m4 k4 pm4 pm3 pm2 f3 g4 hblk hblk3 hW3 cc0 cc1 dd0 pp0 pp1 ppf0 ppf1 hOwn hIs c0 c1 d0 p0 p1 pf0 pf1
          go_wp2_with fail
          go_region
          go_wp2_with fail
          go_region_with (go_at_call 15; refine (hSet _).mono ?_; rintro e w5 ⟨rfl, t5⟩)
          all_goals
            go_wp2_with fail
            go_ret
            exact ⟨_, _, _, HF.out, rfl, t5⟩
  · have hev : errV (useE P a k 2) = enr (useE P a k 2) := by unfold errV; rw [if_neg hz]
    rw [hev]
    have HE := hide hev
    have HZ := hide hz
    have ht := STurn.below h bA
    clear hxy hz h hev
    go_wp2_with fail
    go_ret
    exact ⟨_, _, _, .inl ⟨HZ.out, rfl, rfl, rfl⟩, by rw [HE.out]; rfl, ht⟩
end
end Go.Proofs.YtcllfedpdcjbcaaDoor
