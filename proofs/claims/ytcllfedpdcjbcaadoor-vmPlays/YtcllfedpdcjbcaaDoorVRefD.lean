/- The document's own spaces: Fork, by its Go text. -/
import Derived.Test.YtcllfedpdcjbcaaDoorVRefC
namespace Go.Proofs.YtcllfedpdcjbcaaDoor
open Go.RowKit Go.Shelf Go.Lib Go.Sort Go.Maps

section
variable {w w' : World} {rm gR n nx gs : Nat} {P : PM} {D : Nat → Nat → Int} {φ : Int → Int} {t o : Int → Nat}

/-- Fork under way: what is not to come is in both. -/
def Frk (w : World) (rm gR n nx gs : Nat) (P : PM) (D : Nat → Nat → Int) (φ : Int → Int) (t : Int → Nat) (wr : World) (mm : Nat) : Prop :=
  ∃ todo Rr s, PRng wr gs (w.heap.size + 1) (lenP P) (rpv P D φ) todo mm ∧ PMap wr w.heap.size (lenP (doneP P todo)) (rpv (doneP P todo) D φ) ∧ RM wr rm gR n nx Rr s ∧ Rel n nx (fun f => t f + sh (doneP P todo) f) φ Rr s ∧ Fr (· = gR) w wr

set_option maxRecDepth 100000 in
set_option maxHeartbeats 1000000 in
theorem RF.fork_ok (h : RF w rm gR n nx gs P D φ t) (hb : ∀ f, 0 ≤ f → t f + sh P f ≤ 1000) : Calls Tryd.prog 69 #[.map (some gs), vp rm] w fun e w' => e = .returned (.map (some w.heap.size)) ∧ RF w' rm gR n nx gs P D φ (fun f => t f + sh P f) ∧ RF w' rm gR n nx w.heap.size P D φ (fun f => t f + sh P f) ∧ Fr (· = gR) w w' := by
  have hmp := h.sp
  have hmm := @run_makeMap Tryd.prog
  obtain ⟨Rr0, s0, m0, r0⟩ := h.mem
  have hrl := m0.lt
  have hgl := m0.glt
  have hsl := hmp.lt
  have hmpA : PMap (w.alloc (.map #[] 0)) gs (lenP P) (rpv P D φ) := hmp.keep (Below.heap_alloc _ _ _ hsl)
  have hrs : (w.alloc (.map #[] 0)).heap.size = w.heap.size + 1 := by simp
  have hC : ∀ w0, PRng w0 gs (w.alloc (.map #[] 0)).heap.size (lenP P) (rpv P D φ) (fun x => (rpv P D φ x).isSome) (lenP P) → (w.alloc (.map #[] 0)).grownBy w0 none → Frk w rm gR n nx gs P D φ t w0 (lenP P) := by
    intro w0 hr0 hg0
    have b0 : Below w.heap.size w w0 := ⟨hg0.os, hg0.tape, hg0.output, by have := hg0.size; omega, fun i hi => (hg0.block i (by omega) (by simp)).trans (Below.heap_alloc _ _ _ hi)⟩
    rw [hrs] at hr0
    refine ⟨_, Rr0, s0, hr0, ?_, m0.below b0, r0.congr (fun f hf => by rw [doneP_all, sh_empty hf]; rfl), fr_below b0⟩
    rw [doneP_all, lenP_none]
    exact (PMap.made w).keep (hg0.block _ (by omega) (by simp))
  clear m0 r0
  go_enter Tryd.func69, Tryd.ntmps69
  go_wp2_with (at_range; refine wpList_krange rfl _ 114 rfl 174 Tryd.underlying114 gs _ _ rfl hmpA ?_; intro w0 hr0 hg0 hs0; rw [hrs])
  have hC0 := hC w0 hr0 hg0
  go_frame
  clear hC hr0 hg0 hs0 hmpA hmm
  go_loopg [6] (lenP P) (fun mm s6 wr => Frk w rm gR n nx gs P D φ t wr mm)
  case atStart => exact hC0
  case round =>
    clear hC0
    obtain ⟨todo, Rr, s, hrg, pm, m, r, f1⟩ := hrel
    go_wp2_with (at_next; refine wpList_knext rfl _ rfl gs (w.heap.size + 1) _ _ _ _ rfl hrg ?_ ?_)
    · intro hl
      have hd := doneP_end (P := P) hl
      rw [hd] at pm r
      have hmp' := hrg.map
      clear hrg
      go_wp2_with fail
      go_ret
      exact ⟨rfl, ⟨⟨Rr, s, m, r⟩, hmp', h.ok, fun f _ => by omega, h.ngr, h.ngm, h.n256, h.nx9⟩, ⟨⟨Rr, s, m, r⟩, pm, h.ok, fun f _ => by omega, by omega, by omega, h.n256, h.nx9⟩, f1⟩
    · intro x v w1 cnt1 hwx htx hMx hrg1 hlt hg1 hs1 hen
      obtain ⟨p, hP, rfl⟩ : ∃ p, P x = some p ∧ v = rpg p.1 (rwd D p.2) (rid φ p.2) := by
        unfold rpv at hMx; cases e : P x with
        | none => rw [e] at hMx; cases hMx
        | some p => rw [e] at hMx; exact ⟨p, rfl, (Option.some.inj hMx).symm⟩
      have hkey := h.ok.key x (by rw [hP]; rfl)
      have hrlt := hrg.rlt
      have hz := f1.size
      have hfx : frm P x = p.2 := frm_some hP
      have k1 : ∀ i, i < w.heap.size + 1 → w1.heap[i]? = wr.heap[i]? := fun i hi => hg1.block i (by omega) (fun e => by have := Option.some.inj e; omega)
      have bW : ∀ ob, Below w1.heap.size w1 (w1.alloc ob) := fun ob => (Below.refl _ w1).alloc (Nat.le_refl _) _
      have kW : ∀ ob i, i < w.heap.size + 1 → (w1.alloc ob).heap[i]? = wr.heap[i]? := fun ob i hi => ((bW ob).block i (by omega)).trans (k1 i hi)
      have pmA : ∀ ob, PMap (w1.alloc ob) w.heap.size (lenP (doneP P todo)) (rpv (doneP P todo) D φ) := fun ob => pm.keep (kW ob _ (by omega))
      have hsz : lenP (doneP P todo) < maxLen := by have := lenP_le (doneP P todo); unfold maxLen; omega
      have hno : doneP P todo x = none := by unfold doneP; rw [if_pos htx]
      have hpp := rpv_put (doneP P todo) D φ x p.1 p.2
      have hst := doneP_step (todo := todo) hP
      have hsd := fun f (hf : 0 ≤ f) => sh_done (P := P) (todo := todo) hP htx hkey.1 hkey.2 hf
      have hlen := lenP_put_new (P := doneP P todo) (p := p) hkey.1 hkey.2 hno
      have hnone : (rpv (doneP P todo) D φ x).isSome = false := by rw [rpv_isSome, hno]; rfl
      rw [← hst] at hlen
      rw [show ((p.1, p.2) : Int × Int) = p from rfl, ← hst] at hpp
      have hdl : ∀ f, 0 ≤ f → sh (doneP P (fun z => todo z && !decide (z = x))) f ≤ sh P f := fun f hf => sh_done_le hf
      generalize hN : doneP P (fun z => todo z && !decide (z = x)) = N at *
      have hfin2 : ∀ ob w2, (w1.alloc ob).grownBy w2 (some w.heap.size) → PMap w2 w.heap.size (if (rpv (doneP P todo) D φ x).isSome then lenP (doneP P todo) else lenP (doneP P todo) + 1) (fun i => if i = x then some (rpg p.1 (rwd D p.2) (rid φ p.2)) else rpv (doneP P todo) D φ i) → PRng w2 gs (w.heap.size + 1) (lenP P) (rpv P D φ) (fun z => todo z && !decide (z = x)) cnt1 ∧ PMap w2 w.heap.size (lenP N) (rpv N D φ) ∧ RM w2 rm gR n nx Rr s ∧ Fr (· = gR) w w2 := by
        intro ob w2 g2 pm2
        rw [hnone, hpp] at pm2
        have k2 : ∀ i, i < w1.heap.size → i ≠ w.heap.size → w2.heap[i]? = w1.heap[i]? := fun i hi hn => (g2.block i (by simp; omega) (fun e => hn (Option.some.inj e))).trans ((bW ob).block i hi)
        refine ⟨hrg1.keep (k2 gs (by omega) (by omega)) (k2 _ hrg1.rlt (by omega)), by rw [hlen]; exact pm2, m.keep ((k2 rm (by omega) (by omega)).trans (k1 _ (by omega))) ((k2 gR (by omega) (by omega)).trans (k1 _ (by omega))), ?_⟩
        exact ((f1.trans (Fr.grown hg1) (fun i hi e => by omega)).trans (fr_below (B := fun _ => False) (bW ob)) (fun _ _ h => h.elim)).trans (Fr.grown g2) (fun i hi e => by omega)
      have hq9 : ∀ c0 c1 c2 c3 c4 c5 c6 c7 c8 c9 w2, (w1.alloc (.cells #[c0, c1, c2, c3, c4, c5, c6, c7, c8, c9] 174)).grownBy w2 (some w.heap.size) → w2.cell? ⟨w1.heap.size, 9, none⟩ = some c9 := fun c0 c1 c2 c3 c4 c5 c6 c7 c8 c9 w2 g2 => (ten_cells ((g2.block w1.heap.size (by simp) (fun e => by have := Option.some.inj e; omega)).trans (heap_new w1 _))).1.2.2.2.2.2.2.2.2.2
      have hrid : p.2 = -1 ∧ rid φ p.2 = 0 ∨ (0 ≤ p.2 ∧ 1 ≤ rid φ p.2 ∧ rid φ p.2 ≤ (nx : Int) ∧ rid φ p.2 = φ p.2 ∧ Rr (φ p.2) = some (t p.2 + sh (doneP P todo) p.2) ∧ t p.2 + sh (doneP P todo) p.2 ≠ 0) := by
        rcases h.ok.frame x with e | e <;> rw [hfx] at e
        · exact .inl ⟨e, by rw [e, rid_none]⟩
        · have h1 := sh_pos (a := x) h.ok (by rw [hfx]; omega)
          rw [hfx] at h1
          have h2 := h.sub p.2 e.1
          have h3 : t p.2 + sh (doneP P todo) p.2 ≠ 0 := by omega
          obtain ⟨r1, r2, r3⟩ := r.here p.2 e.1 h3
          have hF : rid φ p.2 = φ p.2 := by unfold rid; rw [if_neg (by omega)]
          exact .inr ⟨e.1, by omega, by omega, hF, r1, h3⟩
      have hnx := h.nx9
      rcases hrid with ⟨e1, e2⟩ | ⟨e0, e1, e2, e3, e4, e5⟩
      · have hfin : ∀ w2, PRng w2 gs (w.heap.size + 1) (lenP P) (rpv P D φ) (fun z => todo z && !decide (z = x)) cnt1 ∧ PMap w2 w.heap.size (lenP N) (rpv N D φ) ∧ RM w2 rm gR n nx Rr s ∧ Fr (· = gR) w w2 → Frk w rm gR n nx gs P D φ t w2 cnt1 := by
          rintro w2 ⟨a1, a2, a3, a4⟩
          have hc : ∀ f, 0 ≤ f → t f + sh (doneP P todo) f = t f + sh N f := fun f hf => by
            have := hsd f hf
            rw [if_neg (by omega)] at this
            omega
          have rN : Rel n nx (fun f => t f + sh N f) φ Rr s := r.congr hc
          clear r
          subst hN
          exact ⟨_, Rr, s, a1, a2, a3, rN, a4⟩
        obtain ⟨p1, p2⟩ := p
        simp only [rpg] at hen
        simp only [e2] at hen hfin2
        generalize rwd D p2 = R at hen hfin2
        clear h hrg hrg1 hMx hP hg1 hs1 bW k1 kW r m pm hpp hst hsd hdl hlen hno hnone hmp hfx e1 e2 hb
        go_wp2_with (at_mapUpdate; refine wpList_kput rfl _ _ _ 114 rfl 174 Tryd.underlying114 w.heap.size _ _ rfl (pmA _) hsz x rfl hwx (rpg p1 R 0) rfl ?_; intro w2 pm2 g2; have q9 := hq9 _ _ _ _ _ _ _ _ _ _ _ g2)
        go_roundg cnt1
        case measure => exact hlt
        case rel => exact hfin _ (hfin2 _ _ g2 pm2)
      · have hwF : (Lit.int .i64 (rid φ p.2)).wf = true := wf_small (by omega) (by omega)
        have hty : t p.2 + sh (doneP P todo) p.2 + 1 ≤ 1000 := by
          have h1 := hb p.2 e0
          have h2 := hsd p.2 e0
          have h3 := hdl p.2 e0
          rw [if_pos rfl] at h2
          omega
        have rN : Rel n nx (fun f => t f + sh N f) φ (putC Rr (φ p.2) (t p.2 + sh (doneP P todo) p.2 + 1)) s := r.more e0 e5 (fun z hz => by
          have h2 := hsd z hz
          show t z + sh N z = if z = p.2 then t p.2 + sh (doneP P todo) p.2 + 1 else t z + sh (doneP P todo) z
          by_cases e : z = p.2
          · subst e; rw [if_pos rfl]; rw [if_pos rfl] at h2; omega
          · rw [if_neg e]; rw [if_neg (fun h => e h.symm)] at h2; omega)
        have hs9 : s < maxLen := by have := r.size; have := used_le (fun f => t f + sh (doneP P todo) f) n; have := h.n256; unfold maxLen; omega
        have hgsR := h.ngr
        rw [← e3] at rN e4
        generalize t p.2 + sh (doneP P todo) p.2 = ty at hty rN e4 e5
        have hsome : (tm Rr (rid φ p.2)).isSome = true := by rw [tm_isSome, e4]; rfl
        have hv : (tm Rr (rid φ p.2)).getD (.int .i64 0) = .int .i64 (ty : Int) := by rw [tm_val]; unfold val; rw [e4]; rfl
        have hfin : ∀ w2 w3, PRng w2 gs (w.heap.size + 1) (lenP P) (rpv P D φ) (fun z => todo z && !decide (z = x)) cnt1 ∧ PMap w2 w.heap.size (lenP N) (rpv N D φ) ∧ RM w2 rm gR n nx Rr s ∧ Fr (· = gR) w w2 → w2.drew.grownBy w3 (some gR) → PMap w3 gR (if (tm Rr (rid φ p.2)).isSome then s else s + 1) (fun i => if i = rid φ p.2 then some (.int .i64 ((ty : Int) + 1)) else tm Rr i) → Frk w rm gR n nx gs P D φ t w3 cnt1 := by
          rintro w2 w3 ⟨a1, a2, a3, a4⟩ g3 pm3
          have hpm : (fun i => if i = rid φ p.2 then some (.int .i64 ((ty : Int) + 1)) else tm Rr i) = tm (putC Rr (rid φ p.2) (ty + 1)) := tm_putC Rr (rid φ p.2) (ty + 1)
          rw [if_pos hsome, hpm] at pm3
          have k3 : ∀ i, i < w2.heap.size → i ≠ gR → w3.heap[i]? = w2.heap[i]? := fun i hi hn => g3.block i hi (fun e => hn (Option.some.inj e))
          have m3 : RM w3 rm gR n nx (putC Rr (rid φ p.2) (ty + 1)) s := ⟨(k3 rm a3.lt a3.ne).trans a3.head, pm3, fun z k hz => by
            unfold putC at hz; split at hz
            · cases hz; omega
            · exact a3.small z k hz⟩
          have hz2 := a4.size
          have b1 := a1.keep (k3 gs (by omega) hgsR) (k3 _ a1.rlt (by omega))
          have b2 := a2.keep (k3 w.heap.size (by have := a1.rlt; omega) (by omega))
          have b4 : Fr (· = gR) w w3 := (a4.trans (Fr.drew (fun _ => False) w2) (fun _ _ h => h.elim)).trans (Fr.grown g3) (fun i _ e => e)
          clear a1 a2 a3 a4 r
          subst hN
          exact ⟨_, _, s, b1, b2, m3, rN, b4⟩
        have hlk : ∀ w2, RM w2 rm gR n nx Rr s → (Instr.lookup 65 (.map (some gR)) (.int .i64 (rid φ p.2)) false).run Tryd.prog w2.drew = .ok (.int .i64 (ty : Int)) w2.drew := fun w2 m2 => by
          have hk2 : PMap w2.drew gR s (tm Rr) := m2.map.keep rfl
          rw [hk2.look Tryd.underlying65 (zero_int _) _ hwF, hv]
        have hput := fun w2 (m2 : RM w2 rm gR n nx Rr s) => PMap.put (w := w2.drew) (m2.map.keep rfl) Tryd.underlying65 hs9 (rid φ p.2) hwF (.int .i64 ((ty : Int) + 1))
        obtain ⟨p1, p2⟩ := p
        simp only [rpg] at hen
        simp only at hfin hput hlk hfin2 e1
        generalize rwd D p2 = R at hen hfin2
        generalize rid φ p2 = F at hen hfin2 hfin hput hlk e1
        clear h hrg hrg1 hMx hP hg1 hs1 bW k1 kW r m pm hpp hst hsd hdl hlen hno hnone hmp hfx hb rN hsome hv e2 e3 e4 hwF
        have hF0 : 0 < F := by omega
        go_upto_region 7 with (at_mapUpdate; refine wpList_kput rfl _ _ _ 114 rfl 174 Tryd.underlying114 w.heap.size _ _ rfl (pmA _) hsz x rfl hwx (rpg p1 R F) rfl ?_; intro w2 pm2 g2; have q9 := hq9 _ _ _ _ _ _ _ _ _ _ _ g2)
        have F2 := hfin2 _ _ g2 pm2
        have d1 := F2.2.2.1.c1
        have hl := hlk _ F2.2.2.1
        obtain ⟨w3, hrun, pm3, g3⟩ := hput _ F2.2.2.1
        have hX := hfin _ _ F2 g3 pm3
        clear hfin hfin2 hput hlk pm2 F2 pm3 pmA hsz hq9 hkey hs9 hgsR hwx hsl hz hrlt g2 hN hgl hrl htx hnx e5 f1 hen
        go_region
        all_goals
          go_wp2_with fail
          go_roundg cnt1
          case measure => exact hlt
          case rel => exact hX
end
end Go.Proofs.YtcllfedpdcjbcaaDoor
