/- Alloc of package buddy, by its Go text. -/
import Derived.Test.YtcllfedpdcjbcaaDoorGive
namespace Go.Proofs.YtcllfedpdcjbcaaDoor
open Go.RowKit Go.Shelf Go.Lib Go.Sort

/-- The first part of a block, and the one behind it. -/
theorem part_step {U : Nat → Bool} {k q j : Nat} (hb : blk U k q) (hj : j < k) :
    cut (cut U j (q * 2 ^ (k - j))) j (q * 2 ^ (k - j) + 1) = cut U (j + 1) (q * 2 ^ (k - (j + 1))) ∧ blk (cut U j (q * 2 ^ (k - j))) j (q * 2 ^ (k - j) + 1) ∧ (q * 2 ^ (k - j) + 1) * 2 ^ j = q * 2 ^ k + 2 ^ j := by
  have e0 : k - j = (k - (j + 1)) + 1 := by omega
  have e1 : q * 2 ^ (k - j) = 2 * (q * 2 ^ (k - (j + 1))) := by rw [e0, Nat.pow_succ]; rw [Nat.mul_comm 2, Nat.mul_assoc]
  have e2 : bud (q * 2 ^ (k - j)) = q * 2 ^ (k - j) + 1 := by unfold bud; rw [if_pos (by omega)]
  have e3 : q * 2 ^ (k - j) / 2 = q * 2 ^ (k - (j + 1)) := by omega
  refine ⟨by rw [← e2, cut_two, e3], fun f hf => cut_true.2 ⟨hb f ?_, by omega⟩, ?_⟩
  · have h1 : f / 2 ^ (j + 1) = q * 2 ^ (k - (j + 1)) := by rw [div_succ, hf]; omega
    rw [div_up h1 hj]; exact first_in _ _
  · rw [Nat.add_mul, Nat.mul_assoc, ← Nat.pow_add, Nat.sub_add_cancel (by omega)]; omega

theorem pow_wrap {z j : Nat} (hz : z < 256) (hj : j ≤ 6) : wrap64 ((z : Int) + wrap64 (2 ^ j)) = (z : Int) + 2 ^ j := by
  match j, hj with
  | 0, _ | 1, _ | 2, _ | 3, _ | 4, _ | 5, _ | 6, _ => simp only [wrap64]; omega

set_option maxHeartbeats 1000000 in
theorem alloc_arg (w : World) (b : Nat) (o : Int) (h : o < 0 ∨ 6 < o) :
    Calls Tryd.prog 25 #[pp b, .int .i64 o] w fun e w' => e = .returned (.tuple #[.int .i64 0, enr 1]) ∧ w' = w := by
  by_cases h1 : o < 0 <;> by_cases h2 : 6 < o
  all_goals first
    | (exfalso; omega)
    | (clear h
       go_enter Tryd.func25, Tryd.ntmps25
       go_wp2_with fail
       go_ret2
       exact ⟨rfl, rfl⟩)

set_option maxHeartbeats 1000000 in
theorem alloc_none {w : World} {b n : Nat} {U : Nat → Bool} {T : Int → Option Nat} {m : Nat} {A : Nat → Prop} (h : At w b n U T m A) (o : Nat) (ho : o ≤ 6) (hno : ∀ j r, mxb U j r → j < o) :
    Calls Tryd.prog 25 #[pp b, .int .i64 o] w fun e w' => e = .returned (.tuple #[.int .i64 0, enr 12]) ∧ w' = w := by
  obtain ⟨g, O, V, F, s, p, c, pm, hs, inv, hn, hA⟩ := h
  have hL : Calls Tryd.prog 86 #[pp b, .int .i64 o] w fun e w' => e = .returned (.int .i64 7) ∧ w' = w := by
    refine (least_ok p o ho).mono ?_
    rintro e w' ⟨k, rfl, rfl, h1, h2, h3, h4⟩
    have : k = 7 := by
      by_cases hk : k ≤ 6
      · exfalso
        obtain ⟨z, l, hl⟩ := List.exists_cons_of_ne_nil (h4 hk)
        obtain ⟨q, _, hx, _⟩ := best_row c h1 hk h3 hl
        have := hno _ _ hx; omega
      · omega
    subst this
    exact ⟨rfl, rfl⟩
  have h1 : ¬ (o : Int) < 0 := by omega
  have h2 : ¬ (6 : Int) < o := by omega
  go_enter Tryd.func25, Tryd.ntmps25
  go_wp2_with (go_at_call 86; refine hL.mono ?_; rintro e w1 ⟨rfl, rfl⟩)
  go_ret2
  exact ⟨rfl, rfl⟩

set_option maxRecDepth 100000 in
set_option maxHeartbeats 4000000 in
theorem alloc_some {w : World} {b n : Nat} {U : Nat → Bool} {T : Int → Option Nat} {m : Nat} {A : Nat → Prop} (h : At w b n U T m A) (hm : m < 10000) (o : Nat) (ho : o ≤ 6) (k q : Nat) (hB : Best U o (q * 2 ^ k) k) :
    Calls Tryd.prog 25 #[pp b, .int .i64 o] w fun e w' => e = .returned (.tuple #[.int .i64 ((q * 2 ^ k : Nat) : Int), .nilIface]) ∧ Turns w b n A w' (cut U o (q * 2 ^ (k - o))) (fun z => if z = ((q * 2 ^ k : Nat) : Int) then some o else T z) (m + 1) := by
  obtain ⟨g, O, V, F, s, p, c, pm, hs, inv, hn, hA⟩ := h
  obtain ⟨⟨q', hq', hx⟩, hok, hleast⟩ := hB
  have e := Nat.eq_of_mul_eq_mul_right (Nat.two_pow_pos k) hq'
  subst e
  have hk := hx.1
  have hsm : q * 2 ^ k < 256 := (small_of inv.bound hn hx.2.1).1
  -- the row, and its first
  obtain ⟨l, hl⟩ : ∃ l, F k = ((q * 2 ^ k : Nat) : Int) :: l := by
    have hmem := ((c k (by omega)).2 _).2 ⟨q, rfl, hx⟩
    cases hF : F k with
    | nil => rw [hF] at hmem; cases hmem
    | cons z l =>
      obtain ⟨r, hr, hy⟩ := ((c k (by omega)).2 z).1 (by rw [hF]; exact List.mem_cons_self)
      have h1 := hleast k r hy hok
      have hso := (c k (by omega)).1
      rw [hF] at hso hmem
      rcases List.mem_cons.1 hmem with e | e
      · rw [e]; exact ⟨l, rfl⟩
      · have := (List.pairwise_cons.1 hso).1 _ e; omega
  have hL : Calls Tryd.prog 86 #[pp b, .int .i64 o] w fun e w' => e = .returned (.int .i64 k) ∧ w' = w := by
    refine (least_ok p o ho).mono ?_
    rintro e w' ⟨k', rfl, rfl, h1, h2, h3, h4⟩
    have : k' = k := by
      by_cases hk' : k' ≤ 6
      · obtain ⟨z, l', hl'⟩ := List.exists_cons_of_ne_nil (h4 hk')
        obtain ⟨r, _, hy, _⟩ := best_row c h1 hk' h3 hl'
        have := hleast _ _ hy h1
        by_cases h5 : k < k'
        · have := h3 k hok h5; rw [hl] at this; cases this
        · omega
      · have := h3 k hok (by omega); rw [hl] at this; cases this
    subst this
    exact ⟨rfl, rfl⟩
  have hck := p.cell (k := k) (by omega)
  have hrk := p.row k (by omega)
  obtain ⟨sb, cb, hOk, hv, hlen, hc0⟩ : ∃ sb cb, O k = some sb ∧ V k = .slice (some ⟨sb, 0, none⟩) (l.length + 1) cb ∧ l.length + 1 ≤ cb ∧ w.cell? ⟨sb, 0, none⟩ = some (.int .i64 ((q * 2 ^ k : Nat) : Int)) := by
    cases hO : O k with
    | none => rw [hO, hl] at hrk; obtain ⟨_, h'⟩ := hrk; cases h'
    | some sb =>
      rw [hO, hl] at hrk
      obtain ⟨cc, h1, h2, h3, h4, h5⟩ := hrk
      exact ⟨sb, cc.size, rfl, by simpa using h2, by simpa using h3, by rw [cell_of_row w sb _ _ _ _ h1, h5 0 (by simp)]; rfl⟩
  rw [hv] at hck
  have hT := takeOut_ok p ((q * 2 ^ k : Nat) : Int) k (by omega)
  have c1 := can_cut c (by omega) hx
  have hgo := p.map_off pm
  have h1 : ¬ (o : Int) < 0 := by omega
  have h2 : ¬ (6 : Int) < o := by omega
  have h3 : ¬ (6 : Int) < k := by omega
  have hpart := blk_part hx.2.1 hok
  have inv' := inv.take ho hpart.1
  rw [hpart.2] at inv'
  have hwf : (Lit.int .i64 ((q * 2 ^ k : Nat) : Int)).wf = true := wf_small (by omega) (by omega)
  have e2 := tm_put T ((q * 2 ^ k : Nat) : Int) o
  have hsz : (if (tm T ((q * 2 ^ k : Nat) : Int)).isSome then s else s + 1) ≤ m + 1 := by split <;> omega
  have hput := fun (j : Nat) (hj : j < k) {w1 : World} {O1 : Nat → Option Nat} {V1 : Nat → Value} {F1 : Nat → List Int} (G1 : Goes b g O w w1 O1 V1 F1) (c1 : Can F1 (cut U (j + 1) (q * 2 ^ (k - (j + 1))))) => put_ok G1.pool (n := n) (U := cut U j (q * 2 ^ (k - j))) (fun f hf => inv.bound f (cut_true.1 hf).1) hn j (q * 2 ^ (k - j) + 1) (by omega) (by rw [(part_step hx.2.1 hj).1]; exact c1) (part_step hx.2.1 hj).2.1
  have hval := fun (j : Nat) (hj : j < k) => (part_step hx.2.1 hj).2.2
  have hA' := hA
  generalize hZ : q * 2 ^ k = z0 at *
  go_enter Tryd.func25, Tryd.ntmps25
  go_wp2_with (first | (go_at_call 86; refine hL.mono ?_; rintro e w0 ⟨rfl, h0⟩; subst w0) | (go_at_call 87; refine hT.mono ?_; rintro e w1 ⟨V1, rfl, p1, f1⟩))
  have cS : Can (putF F k ((F k).filter fun x => !(x == (z0 : Int)))) (cut U k (q * 2 ^ (k - k))) := by rw [Nat.sub_self, Nat.pow_zero, Nat.mul_one]; exact c1
  clear hT hL hleast hck hrk hv hc0 c1 hl
  go_loopg [6] (k - o) (fun mm s6 wr => ∃ (j : Nat) (O1 : Nat → Option Nat) (V1 : Nat → Value) (F1 : Nat → List Int), o + mm = j ∧ j ≤ k ∧ s6 = .int .i64 j ∧ Goes b g O w wr O1 V1 F1 ∧ Can F1 (cut U j (q * 2 ^ (k - j))))
  case atStart => exact ⟨k, O, V1, _, by omega, Nat.le_refl _, rfl, ⟨p1, f1, fun _ _ h => h⟩, cS⟩
  case round =>
    obtain ⟨j, O1, V2, F1, hj, hjk, rfl, G1, cj⟩ := hrel
    by_cases hgt : (o : Int) < j
    · obtain ⟨j', rfl⟩ : ∃ j', j = j' + 1 := ⟨j - 1, by omega⟩
      have hp := hput j' (by omega) G1 cj
      rw [hval j' (by omega), show ((z0 + 2 ^ j' : Nat) : Int) = (z0 : Int) + 2 ^ j' by simp] at hp
      have hw := pow_wrap (z := z0) (j := j') (by omega) (by omega)
      go_wp2_with (go_at_call 80; refine hp.mono ?_; rintro e w2 ⟨rfl, O2, V3, F2, G2, c2⟩)
      go_roundg (j' - o)
      case measure => omega
      case rel => exact ⟨j', O2, V3, F2, by omega, by omega, by go_num, G1.trans G2, c2⟩
    · have hjo : j = o := by omega
      subst hjo
      have p2 := G1.pool
      have h7 := p2.cellm
      have pm2 := pm.keep (G1.fr.block g pm.lt hgo)
      have hsx : s < maxLen := by unfold maxLen; omega
      clear hput hval p1 f1 p
      go_wp2_with (at_mapUpdate; refine wpList_kput rfl _ _ _ 65 rfl 3 Tryd.underlying65 g s _ rfl pm2 hsx (z0 : Int) rfl hwf (.int .i64 (j : Int)) rfl ?_; intro w3 pm3 g3; rw [e2] at pm3)
      go_ret2
      have hgo2 : ¬ own b O1 g := p2.map_off pm2
      refine ⟨rfl, fun i => own b O1 i ∨ i = g, ⟨g, O1, V2, F1, _, p2.keep (fun i hi => g3.block i (p2.own_lt hi) (fun e => hgo2 (by cases e; exact hi))), cj, pm3, hsz, inv', hn, fun _ => Iff.rfl⟩, ?_, ?_⟩
      · exact (G1.fr.mono (fun i _ h => (hA i).2 (.inl h))).trans (Fr.grown g3) (fun i _ h => (hA i).2 (.inr h))
      · rintro i hi (h | h)
        · exact (hA i).2 (.inl (G1.sub i hi h))
        · exact (hA i).2 (.inr h)
end Go.Proofs.YtcllfedpdcjbcaaDoor
