/- Package vm: a space over a store; Resident, Load, and one page taken away, by their Go text. -/
import Derived.Test.YtcfhanoekniaaaaGreatDoorVLen
import Derived.BigQuiet
import Derived.Deep.RegionWith
namespace Go.Proofs.YtcfhanoekniaaaaGreatDoor
open Go.RowKit Go.Shelf Go.Lib Go.Sort Go.Maps

/-- The counts, as a store has them: none for none. -/
def Rof (t : Int → Nat) : Int → Option Nat := fun x => if 0 ≤ x ∧ t x ≠ 0 then some (t x) else none
theorem Rof_val {t : Int → Nat} {x : Int} (hx : 0 ≤ x) : val (Rof t) x = t x := by
  unfold val Rof; by_cases h : t x = 0 <;> simp [h, hx]
theorem Rof_of {R : Int → Option Nat} {t : Int → Nat} (h1 : ∀ x, 0 ≤ x → val R x = t x) (h2 : ∀ x, x < 0 → R x = none) (h3 : ∀ x, R x ≠ some 0) : R = Rof t := by
  funext x; unfold Rof
  by_cases hx : 0 ≤ x
  · have e := h1 x hx
    cases hR : R x with
    | none => rw [val, hR] at e; rw [if_neg]; intro h; exact h.2 e.symm
    | some k =>
      rw [val, hR] at e
      have hk : k = t x := e
      have : k ≠ 0 := fun e0 => h3 x (by rw [hR, e0])
      rw [if_pos ⟨hx, by omega⟩, hk]
  · rw [if_neg (fun h => hx h.1), h2 x (by omega)]
theorem Rof_congr {t t' : Int → Nat} (h : ∀ x, 0 ≤ x → t x = t' x) : Rof t = Rof t' := by
  funext x; unfold Rof; by_cases hx : 0 ≤ x
  · rw [h x hx]
  · rw [if_neg (fun h => hx h.1), if_neg (fun h => hx h.1)]
theorem Rof_none {t : Int → Nat} {x : Int} (hx : 0 ≤ x) : Rof t x = none ↔ t x = 0 := by
  unfold Rof; by_cases h : t x = 0 <;> simp [h, hx]
theorem Rof_some {t : Int → Nat} {x : Int} (hx : 0 ≤ x) (h : t x ≠ 0) : (Rof t x).isSome = true := by
  unfold Rof; rw [if_pos ⟨hx, h⟩]; rfl

section
variable {E : St} {w w' : World} {D : Nat → Nat → Int} {R : Int → Option Nat} {A : Nat → Prop}
theorem Vs.rof (h : Vs E w D R A) {t : Int → Nat} (ht : ∀ x, 0 ≤ x → val R x = t x) : R = Rof t :=
  Rof_of ht (fun x hx => h.neg hx) (fun x e => by have := h.small x 0 e; omega)
end

/-- A space, over its store; o: how many pages of other spaces have each frame. -/
structure VS (E : St) (w : World) (c gc : Nat) (D : Nat → Nat → Int) (A : Nat → Prop) (P : PM) (o : Int → Nat) : Prop where
  st : Vs E w D (Rof fun f => sh P f + o f) A
  sp : Sp w c E.b gc P
  ok : PgOk E.n P
  dis : Dis P
  offc : ¬ vown E A c
  offg : ¬ vown E A gc
  gb : gc ≠ E.b
  gm : gc ≠ E.bm

def STurn (E : St) (w : World) (c gc : Nat) (A : Nat → Prop) (w' : World) (D : Nat → Nat → Int) (P : PM) (o : Int → Nat) : Prop :=
  ∃ A', VS E w' c gc D A' P o ∧ Fr (fun i => vown E A i ∨ i = gc) w w' ∧ ∀ i, i < w.heap.size → A' i → A i

section
variable {E : St} {w w' : World} {c gc : Nat} {D : Nat → Nat → Int} {A : Nat → Prop} {P : PM} {o : Int → Nat}

theorem STurn.refl (h : VS E w c gc D A P o) : STurn E w c gc A w D P o := ⟨A, h, Fr.refl _ _, fun _ _ h => h⟩
theorem STurn.trans {w1 w2 : World} {A1 : Nat → Prop} {D2 : Nat → Nat → Int} {P2 : PM} (f1 : Fr (fun i => vown E A i ∨ i = gc) w w1) (s1 : ∀ i, i < w.heap.size → A1 i → A i) (t : STurn E w1 c gc A1 w2 D2 P2 o) : STurn E w c gc A w2 D2 P2 o := by
  obtain ⟨A', v, f, s⟩ := t
  refine ⟨A', v, f1.trans f (fun i hi ho => ?_), fun i hi ha => s1 i hi (s i (Nat.lt_of_lt_of_le hi f1.size) ha)⟩
  rcases ho with (ho | ho) | ho
  · exact .inl (.inl (s1 i hi ho))
  · exact .inl (.inr ho)
  · exact .inr ho
theorem VS.keep (h : VS E w c gc D A P o) (hk : ∀ i, vown E A i → w'.heap[i]? = w.heap[i]?) (hb : w'.heap[E.b]? = w.heap[E.b]?) (hm : w'.heap[E.bm]? = w.heap[E.bm]?) (hc : w'.heap[c]? = w.heap[c]?) (hg : w'.heap[gc]? = w.heap[gc]?) : VS E w' c gc D A P o :=
  ⟨h.st.keep hk hb hm, h.sp.keep hc hg, h.ok, h.dis, h.offc, h.offg, h.gb, h.gm⟩
theorem VS.below (h : VS E w c gc D A P o) (hb : Below w.heap.size w w') : VS E w' c gc D A P o :=
  ⟨h.st.below hb, h.sp.below hb, h.ok, h.dis, h.offc, h.offg, h.gb, h.gm⟩
theorem VS.drewN (h : VS E w c gc D A P o) (q : Nat) : VS E (w.drewN q) c gc D A P o := h.keep (fun _ _ => rfl) rfl rfl rfl rfl
theorem VS.drew (h : VS E w c gc D A P o) : VS E w.drew c gc D A P o := h.keep (fun _ _ => rfl) rfl rfl rfl rfl
theorem VS.frame_some (h : VS E w c gc D A P o) {a : Int} (hf : frm P a ≠ -1) : (Rof (fun f => sh P f + o f) (frm P a)).isSome = true ∧ 0 ≤ frm P a ∧ frm P a < (E.n : Int) := by
  have h0 : 0 ≤ frm P a ∧ frm P a < (E.n : Int) := by rcases h.ok.frame a with e | e; exact absurd e hf; exact e
  have := sh_pos h.ok hf
  exact ⟨Rof_some h0.1 (by omega), h0⟩

/-- The pages' map turned, nothing else. -/
theorem VS.pages (h : VS E w c gc D A P o) {P' : PM} (hg : w.grownBy w' (some gc)) (pm : PMap w' gc (lenP P') (pgv P')) (hsh : ∀ f, 0 ≤ f → sh P' f = sh P f) (hok : PgOk E.n P') : VS E w' c gc D A P' o := by
  have hk : ∀ i, i < w.heap.size → i ≠ gc → w'.heap[i]? = w.heap[i]? := fun i hi hn => hg.block i hi (fun e => hn (Option.some.inj e))
  have hR : Rof (fun f => sh P' f + o f) = Rof (fun f => sh P f + o f) := Rof_congr (fun x hx => by rw [hsh x hx])
  refine ⟨by rw [hR]; exact h.st.keep (fun i hi => hk i (h.st.olt hi) (fun e => h.offg (e ▸ hi))) (hk _ h.st.blt (fun e => h.gb e.symm)) (hk _ h.st.mlt (fun e => h.gm e.symm)), ⟨(hk c h.sp.lt h.sp.ne).trans h.sp.head, pm⟩, hok, fun f hf => by rw [hsh f hf]; exact h.dis f hf, h.offc, h.offg, h.gb, h.gm⟩

/-- How many of the first pages have a frame. -/
def resTo (P : PM) (i : Nat) : Nat := sumTo (fun a => if frm P a = -1 then 0 else 1) 0 i
theorem resTo_next (P : PM) (i : Nat) : resTo P (i + 1) = resTo P i + if frm P i = -1 then 0 else 1 := by unfold resTo; rw [sumTo_last, Nat.zero_add]
theorem resTo_le (P : PM) (i : Nat) : resTo P i ≤ i := by
  have := sumTo_const_le (g := fun a : Nat => if frm P a = -1 then 0 else 1) (d := 1) i 0 (fun i => by split <;> omega)
  unfold resTo; omega

set_option maxHeartbeats 4000000 in
theorem Sp.resident {b : Nat} (h : Sp w c b gc P) : Calls Tryz.prog 117 #[vp c] w fun e w' => e = .returned (.int .i64 (resP P : Nat)) ∧ Below w.heap.size w w' := by
  go_enter Tryz.func117, Tryz.ntmps117
  go_wp2_with fail
  go_loopg [3, 7] 64 (fun mm s3 s7 wr => ∃ i : Nat, i + mm = 64 ∧ s7 = .int .i64 (i : Int) ∧ s3 = .int .i64 (resTo P i : Nat) ∧ Below w.heap.size w wr)
  case atStart => exact ⟨0, by omega, rfl, rfl, Below.refl _ _⟩
  case round =>
    obtain ⟨i, hi, rfl, rfl, hb⟩ := hrel
    have hle := resTo_le P i
    by_cases hlt : (i : Int) < 64
    · have hF := find_ok (h.below hb) (i : Int) (wf_small (by omega) (by omega))
      have hnx := resTo_next P i
      have hbl := hb.size
      have hpf := pg_frm (P := P) (a := (i : Int))
      have hfn := frm_none (P := P) (a := (i : Int))
      generalize (pg P (i : Int)).1 = x at *
      generalize (pg P (i : Int)).2 = y at *
      generalize hS1 : resTo P (i + 1) = S1 at *
      generalize resTo P i = S0 at *
      clear h
      cases hP : P (i : Int) with
      | none =>
        rw [hP] at hF hpf
        rw [hfn hP, if_pos rfl] at hnx
        clear hpf hfn hP
        simp only [Option.isSome_none] at hF
        go_wp2_with (go_at_call 215; refine hF.mono ?_; rintro e w1 ⟨rfl, b1⟩)
        go_roundg (64 - (i + 1))
        case measure => omega
        case rel =>
          refine ⟨i + 1, by omega, by go_num, by rw [hS1, hnx]; rfl, ?_⟩
          have b2 := hb.trans (b1.mono hb.size)
          have := b2.size
          repeat first | exact b2 | refine Below.alloc ?_ (by first | omega | (simp <;> omega)) _ | refine Below.setCell ?_ (by first | omega | (simp <;> omega)) _
      | some p =>
        rw [hP] at hF hpf
        simp only [Option.isSome_some, forall_const] at hF hpf
        rw [← hpf] at hnx
        clear hpf hfn hP
        by_cases hy : y = -1
        · rw [if_pos hy] at hnx
          subst hy
          go_wp2_with (go_at_call 215; refine hF.mono ?_; rintro e w1 ⟨rfl, b1⟩)
          go_roundg (64 - (i + 1))
          case measure => omega
          case rel =>
            refine ⟨i + 1, by omega, by go_num, by rw [hS1, hnx]; rfl, ?_⟩
            have b2 := hb.trans (b1.mono hb.size)
            have := b2.size
            repeat first | exact b2 | refine Below.alloc ?_ (by first | omega | (simp <;> omega)) _ | refine Below.setCell ?_ (by first | omega | (simp <;> omega)) _
        · rw [if_neg hy] at hnx
          go_wp2_with (go_at_call 215; refine hF.mono ?_; rintro e w1 ⟨rfl, b1⟩)
          go_roundg (64 - (i + 1))
          case measure => omega
          case rel =>
            refine ⟨i + 1, by omega, by go_num, by rw [hS1, hnx]; go_num, ?_⟩
            have b2 := hb.trans (b1.mono hb.size)
            have := b2.size
            repeat first | exact b2 | refine Below.alloc ?_ (by first | omega | (simp <;> omega)) _ | refine Below.setCell ?_ (by first | omega | (simp <;> omega)) _
    · have hin : i = 64 := by omega
      subst hin
      have hr : resP P = resTo P 64 := rfl
      rw [← hr]
      go_wp2_with fail
      go_ret
      exact ⟨rfl, hb⟩

/-- A page's words. -/
def wd (P : PM) (D : Nat → Nat → Int) (a : Int) (k : Nat) : Int := if frm P a = -1 then 0 else D (frm P a).toNat k
/-- What Load answers. -/
def loadV (P : PM) (D : Nat → Nat → Int) (a k : Int) : Int := if useE P a k 1 = 0 then wd P D a k.toNat else 0

set_option maxHeartbeats 4000000 in
theorem VS.load (h : VS E w c gc D A P o) (a k : Int) (ha : (Lit.int .i64 a).wf = true) : Calls Tryz.prog 124 #[vp c, .int .i64 a, .int .i64 k] w fun e w' => e = .returned (.tuple #[.int .i64 (loadV P D a k), errV (useE P a k 1)]) ∧ Below w.heap.size w w' := by
  have hU := usable_ok h.sp h.ok a k 1 ha (.inl rfl)
  obtain ⟨V, hV⟩ : ∃ V, loadV P D a k = V := ⟨_, rfl⟩
  rw [hV]
  go_enter Tryz.func124, Tryz.ntmps124
  go_wp2_with fail
  refine hU.mono ?_
  rintro e w1 ⟨x, y, rfl, hxy, b1⟩
  have bA : Below w.heap.size w (w1.alloc (.cells #[.int .i64 x, .int .i64 y] 315)) := b1.alloc b1.size _
  by_cases hz : useE P a k 1 = 0
  · have hP := hxy hz
    have hf := frm_some hP
    simp only at hf
    rw [loadV, if_pos hz] at hV
    have hk : 0 ≤ k ∧ k < 8 := by
      apply Classical.byContradiction; intro hk
      unfold useE at hz; rw [hP] at hz; simp only [if_neg hk] at hz; omega
    have hev : errV (useE P a k 1) = .nilIface := by rw [hz]; rfl
    rw [hev]
    have HE := hide hev
    clear hxy hz hU hev hP
    by_cases hy : y = -1
    · rw [wd, if_pos (by rw [hf]; exact hy)] at hV
      subst hy
      clear h
      go_wp2_with fail
      go_ret2
      exact ⟨by rw [HE.out, ← hV]; rfl, bA⟩
    · rw [wd, if_neg (by rw [hf]; exact hy), hf] at hV
      have hfr : 0 ≤ y ∧ y < (E.n : Int) := by rcases h.ok.frame a with e | e <;> rw [hf] at e <;> omega
      have h1 := h.below bA
      have c0 := h1.sp.c0
      have d0 := h1.st.c0
      have hG : ∀ q, Calls Tryz.prog 229 #[mp E.bm, .int .i64 y, .int .i64 k] ((w1.alloc (.cells #[.int .i64 x, .int .i64 y] 315)).drewN q) fun e w' => e = .returned (.tuple #[.int .i64 V, .nilIface]) ∧ ∃ q', w' = ((w1.alloc (.cells #[.int .i64 x, .int .i64 y] 315)).drewN q).drewN q' := fun q => by
        refine (get_ok (h1.drewN q).st.mem y k hfr.1 hfr.2 hk.1 hk.2).mono ?_
        rintro e w' ⟨he, hw⟩
        rw [hV] at he
        exact ⟨he, 0, hw⟩
      clear h h1 hf hV
      go_upto_region 4 with fail
      go_quiet (first | (go_at_call 229; exact Calls.quiet_of (hG _)))
      go_wp2_with fail
      go_ret2
      exact ⟨by rw [HE.out]; rfl, bA.os, bA.tape, bA.output, bA.size, bA.block⟩
  · rw [loadV, if_neg hz] at hV
    have hev : errV (useE P a k 1) = enr (useE P a k 1) := by unfold errV; rw [if_neg hz]
    rw [hev]
    have HE := hide hev
    clear hxy hU hz h hev
    go_wp2_with fail
    go_ret2
    exact ⟨by rw [HE.out, ← hV]; rfl, bA⟩
end
end Go.Proofs.YtcfhanoekniaaaaGreatDoor
