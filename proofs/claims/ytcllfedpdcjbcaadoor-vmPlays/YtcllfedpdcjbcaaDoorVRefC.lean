/- A deletion in a loop over a map; the document's own spaces: Clear, by its Go text. -/
import Derived.Test.YtcllfedpdcjbcaaDoorVRefB
namespace Go.Proofs.YtcllfedpdcjbcaaDoor
open Go.RowKit Go.Shelf Go.Lib Go.Sort Go.Maps

theorem rng_exact {w : World} {g r n cnt : Nat} {D : DataW Value} {left : Lit → Bool} (h : w.ranges Tryd.prog 3 self g r n D left cnt) : w.ranges Tryd.prog 3 self g r (Maps.size D) D left cnt := by
  obtain ⟨es, clock, since, seen, c0, hb, F, hs, hD, rest⟩ := h
  refine ⟨es, clock, since, seen, c0, hb, F, ?_, hD, rest⟩
  rw [hD]; simp [Maps.size, length_sorted]

set_option maxRecDepth 10000
section
variable {ops : Array Oper} {rest : List Oper} {o : Oper} {a : Act} {w : World} {Q : Exit → Act → World → Prop}
/-- The loop deletes. -/
theorem wpList_krdel (hgd : o.guard = none) (m x : Operand) (t : TypeId) (hop : o.op = Op.call { callee := Callee.builtin Builtin.delete, args := #[m, x], argTypes := #[t, 3] })
    (e : TypeId) (ht : Tryd.prog.underlying t = some (.map 3 e)) (g r n : Nat) (M : Int → Option Value) (todo : Int → Bool) (cnt : Nat) (hm : a.eval m = .map (some g)) (hr : PRng w g r n M todo cnt)
    (k : Int) (hx : a.eval x = .int .i64 k) (hk : (Lit.int .i64 k).wf = true)
    (h : ∀ w' cnt', PRng w' g r (if (M k).isSome then n - 1 else n) (fun i => if i = k then none else M i) (fun z => todo z && !decide (z = k)) cnt' → cnt' ≤ cnt → w.grownBy w' (some g) → wpList Tryd.prog ops Q rest (a.put o.dst (.tuple #[])) w') : wpList Tryd.prog ops Q (o :: rest) a w := by
  obtain ⟨D, left, hrg, hs, hS, hM, h4⟩ := hr
  have hkk := keyOf_int_mk Tryd.underlying3 hk
  refine wpList_delete_ranges w hgd m x t 3 hop e keyedInt ht self g r n D left cnt hm hrg _ _ hx hkk ?_
  intro w' cnt' r1 hle r3
  have hsz := size_del (k := .int .i64 k) (hrg.owns.tidy keyedInt)
  rw [hS k, hs] at hsz
  have hsz' : Maps.size (D.del (.int .i64 k)) = if (M k).isSome then n - 1 else n := by split at hsz <;> simp_all <;> omega
  refine h w' cnt' ⟨_, _, hsz' ▸ rng_exact r1, hsz', fun i => ?_, fun i z => ?_, fun z => ?_⟩ hle r3.grown
  · by_cases e : i = k
    · subst e; rw [has_del_same]; simp
    · rw [has_del_other (by simpa using e), hS i]; simp [e]
  · by_cases e : i = k
    · subst e; rw [atKey_del_same]; simp
    · rw [atKey_del_other (by simpa using e), hM i]; simp [e]
  · have hsk : (Lit.int .i64 z).sameKey (.int .i64 k) = decide (z = k) := by
      by_cases e : z = k <;> simp [Lit.sameKey, e]
    show (left (.int .i64 z) && !(Lit.int .i64 z).sameKey (.int .i64 k)) = _
    rw [h4 z, hsk]
end

section
variable {w w' : World} {rm gR n nx gs : Nat} {P : PM} {D : Nat → Nat → Int} {φ : Int → Int} {t o : Int → Nat}

/-- Clear under way: Q is left. -/
def Clr (w : World) (rm gR n nx gs : Nat) (P : PM) (D : Nat → Nat → Int) (φ : Int → Int) (t : Int → Nat) (wr : World) (mm : Nat) : Prop :=
  ∃ Q t', RF wr rm gR n nx gs Q D φ t' ∧ PRng wr gs w.heap.size (lenP Q) (rpv Q D φ) (fun x => (Q x).isSome) mm ∧ (∀ f, 0 ≤ f → t' f + sh P f = t f + sh Q f) ∧ Fr (rwr rm gR gs) w wr

set_option maxRecDepth 100000 in
set_option maxHeartbeats 4000000 in
theorem RF.clear_ok (h : RF w rm gR n nx gs P D φ t) : Calls Tryd.prog 71 #[.map (some gs), vp rm] w fun e w' => e = .returned (.tuple #[]) ∧ (∃ t', RF w' rm gR n nx gs (fun _ => none) D φ t' ∧ ∀ f, 0 ≤ f → t' f + sh P f = t f) ∧ Fr (rwr rm gR gs) w w' := by
  have hmp := h.sp
  obtain ⟨Rr0, s0, m0, _⟩ := h.mem
  have hrl := m0.lt
  have hgl := m0.glt
  have hsl := hmp.lt
  clear m0
  go_enter Tryd.func71, Tryd.ntmps71
  go_wp2_with (at_range; refine wpList_krange rfl _ 114 rfl 174 Tryd.underlying114 gs _ _ rfl hmp ?_; intro w0 hr0 hg0 hs0)
  go_frame
  have b0 : Below w.heap.size w w0 := ⟨hg0.os, hg0.tape, hg0.output, hg0.size, fun i hi => hg0.block i hi (by simp)⟩
  have hC : Clr w rm gR n nx gs P D φ t w0 (lenP P) := ⟨P, t, h.below b0, by simp only [rpv_isSome] at hr0; exact hr0, fun _ _ => rfl, fr_below b0⟩
  clear h hmp hr0 hg0 hs0 b0
  go_loopg [4] (lenP P) (fun mm s4 wr => Clr w rm gR n nx gs P D φ t wr mm)
  case atStart => exact hC
  case round =>
    clear hC
    obtain ⟨Q, t', h1, hrg, hcnt, f1⟩ := hrel
    go_wp2_with (at_next; refine wpList_knext rfl _ rfl gs w.heap.size _ _ _ _ rfl hrg ?_ ?_)
    · intro hl
      have hQ : Q = fun _ => none := by
        funext x
        have := hl x
        cases e : Q x with
        | none => rfl
        | some p => rw [e] at this; cases this
      subst hQ
      go_wp2_with fail
      go_end0
      exact ⟨rfl, ⟨t', h1, fun f hf => by rw [hcnt f hf, sh_empty hf]; rfl⟩, f1⟩
    · intro x v w1 cnt1 hwx htx hMx hrg1 hlt hg1 hs1 hen
      obtain ⟨p, hP, rfl⟩ : ∃ p, Q x = some p ∧ v = rpg p.1 (rwd D p.2) (rid φ p.2) := by
        unfold rpv at hMx; cases e : Q x with
        | none => rw [e] at hMx; cases hMx
        | some p => rw [e] at hMx; exact ⟨p, rfl, (Option.some.inj hMx).symm⟩
      have hPs : (Q x).isSome = true := by rw [hP]; rfl
      have hkey := h1.ok.key x hPs
      have hz := f1.size
      have hfx : frm Q x = p.2 := frm_some hP
      have k1 : ∀ i, i < w.heap.size → w1.heap[i]? = wr.heap[i]? := fun i hi => hg1.block i (by omega) (fun e => by have := Option.some.inj e; omega)
      have h2 : RF w1 rm gR n nx gs Q D φ t' := by
        obtain ⟨Rr, s, m, r⟩ := h1.mem
        exact ⟨⟨Rr, s, m.keep (k1 _ hrl) (k1 _ hgl), r⟩, h1.sp.keep (k1 _ hsl), h1.ok, h1.sub, h1.ngr, h1.ngm, h1.n256, h1.nx9⟩
      have bW : ∀ ob, Below w1.heap.size w1 (w1.alloc ob) := fun ob => (Below.refl _ w1).alloc (Nat.le_refl _) _
      have h3 : ∀ ob, RF (w1.alloc ob) rm gR n nx gs Q D φ t' := fun ob => h2.below (bW ob)
      have hLs := fun ob => (h3 ob).less x
      rw [hfx] at hLs
      have hrg2 : ∀ ob w2, (w1.alloc ob).grownBy w2 (some gR) → PRng w2 gs w.heap.size (lenP Q) (rpv Q D φ) (fun z => (Q z).isSome && !decide (z = x)) cnt1 := fun ob w2 g2 =>
        (hrg1.keep ((bW ob).block gs (by rw [hs1]; omega)) ((bW ob).block _ hrg1.rlt)).keep (g2.block gs (by simp; omega) (fun e => h1.ngr (Option.some.inj e))) (g2.block _ (by have := hrg1.rlt; simp; omega) (fun e => by have := Option.some.inj e; omega))
      have hlp := lenP_del hkey.1 hkey.2 hPs
      have hsm : (rpv Q D φ x).isSome = true := by rw [rpv_isSome]; exact hPs
      have hfin : ∀ ob w2 w3 cnt2, (∃ Rr s, RM w2 rm gR n nx Rr s ∧ Rel n nx (tdrop t' p.2) φ Rr s) → (w1.alloc ob).grownBy w2 (some gR) → w2.grownBy w3 (some gs) → PRng w3 gs w.heap.size (if (rpv Q D φ x).isSome then lenP Q - 1 else lenP Q) (fun i => if i = x then none else rpv Q D φ i) (fun z => ((Q z).isSome && !decide (z = x)) && !decide (z = x)) cnt2 → Clr w rm gR n nx gs P D φ t w3 cnt2 := by
        intro ob w2 w3 cnt2 hm g2 g3 hr3
        rw [if_pos hsm, rpv_del, show lenP Q - 1 = lenP (delP Q x) by omega, show (fun z => ((Q z).isSome && !decide (z = x)) && !decide (z = x)) = fun z => (delP Q x z).isSome by funext z; unfold delP; by_cases e : z = x <;> simp [e]] at hr3
        have hg := (h3 ob).gone hPs (w1 := w2) (w2 := w3) (by rw [hfx]; exact hm) g2 g3 hr3.map hlp
        rw [hfx] at hg
        refine ⟨delP Q x, _, hg, hr3, fun f hf => ?_, ?_⟩
        · have a1 := hcnt f hf
          have a2 := sh_del (P := Q) hkey.1 hkey.2 hf
          have a3 := h1.sub f hf
          rw [hfx] at a2
          unfold tdrop
          by_cases e : f = p.2
          · rw [if_pos e]; rw [if_pos e.symm] at a2; omega
          · rw [if_neg e]; rw [if_neg (fun h => e h.symm)] at a2; omega
        · exact (((f1.trans (Fr.grown hg1) (fun i hi e => by omega)).trans (fr_below (B := fun _ => False) (bW ob)) (fun _ _ h => h.elim)).trans (Fr.grown g2) (fun i _ e => .inl e)).trans (Fr.grown g3) (fun i _ e => .inr (.inl e))
      obtain ⟨p1, p2⟩ := p
      simp only [rpg] at hen
      simp only at hLs hfin
      generalize rwd D p2 = R at hen
      generalize rid φ p2 = F at hen hLs
      generalize tdrop t' p2 = td at hLs hfin
      clear h1 h2 h3 hrg hrg1 hcnt htx hMx hP hPs hfx hg1 hs1 bW f1 k1 hsm
      go_wp2_with (first
        | (go_at_call 105; refine (hLs _).mono ?_; rintro e w2 ⟨rfl, hm2, g2⟩)
        | (at_delete; refine wpList_krdel rfl _ _ 114 rfl 174 Tryd.underlying114 gs w.heap.size _ _ _ _ rfl (hrg2 _ _ g2) x rfl hwx ?_; intro w3 cnt2 hr3 hle3 g3))
      go_roundg cnt2
      case measure => omega
      case rel => exact hfin _ _ _ _ hm2 g2 g3 hr3
end
end Go.Proofs.YtcllfedpdcjbcaaDoor
