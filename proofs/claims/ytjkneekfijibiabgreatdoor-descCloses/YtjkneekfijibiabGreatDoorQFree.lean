/- Pipe, Read, Write, Seek, Dup, Fork, Exec, Clear keep what holds. -/
import Derived.Test.YtjkneekfijibiabGreatDoorQDup
import Derived.Test.YtjkneekfijibiabGreatDoorQNode
namespace Go.Proofs.YtjkneekfijibiabGreatDoor
open Go.RowKit Go.Maps

/-- A table that is forked: all its numbers are doubled. -/
def forkD (D : DS) (N : Ns) : DS := N.foldl (fun D x => if 0 < x.1 then incR D x.1 else D) D
/-- Numbers freed, so many looked at: all, or those that are MARKED. -/
noncomputable def freeS (all : Bool) (D : DS) (N : Ns) : Nat → DS × Ns
  | 0 => (D, N)
  | i + 1 => if 0 < (N.getD i (0, false)).1 ∧ (all = true ∨ (N.getD i (0, false)).2 = true) then (closeK (freeS all D N i).1 (N.getD i (0, false)).1, (freeS all D N i).2.set i (0, false)) else freeS all D N i
section
variable {D : DS} {Ts : List Ns} {k j i : Nat} {d : Int} {e : En}
theorem Inv.seek (h : Inv D Ts k) (hj : j < Ts.length) (x a : Int) : Inv (seekD D Ts[j] x a) Ts k := by
  unfold seekD
  split
  · rename_i hz
    unfold seekE at hz
    split at hz
    · cases he : D.E (Ts[j].getD x.toNat (0, false)).1 with
      | none => exact h
      | some e =>
        rw [he] at hz
        simp only at hz ⊢
        have hok := h.core.ent _ e he
        by_cases hk : e.kind = 1
        · rw [if_neg (fun z => z hk)] at hz
          by_cases ha : 0 ≤ a ∧ a ≤ 200
          · refine h.putE he ⟨hok.kind, fun hk => ?_, hok.frm, hok.into, hok.pipe⟩
            have := hok.file hk
            exact ⟨this.1, this.2.1, this.2.2.1, this.2.2.2.1, ha.1, ha.2⟩
          · rw [if_neg ha] at hz; omega
        · rw [if_pos hk] at hz; omega
    · omega
  · exact h
theorem readS_end {T : Wd} {x a c : Int} (hs : Sm k T) (h0 : 0 ≤ a) (h1 : a ≤ 200) : a + (readS T x a c).length ≤ 200 := by
  unfold readS
  split
  · rename_i b y e
    have := (hs.2 x b y e).2
    split
    · simp; omega
    · rw [List.length_take, List.length_drop]; omega
  · simp; omega
theorem Inv.read (h : Inv D Ts k) (hj : j < Ts.length) (x a : Int) : Inv (readO D Ts[j] x a).2.2 Ts k := by
  unfold readO
  split
  · split
    · exact h
    · rename_i e he
      have hok := h.core.ent _ e he
      split
      · exact h
      · split
        · rename_i hk
          refine h.putE he ⟨hok.kind, fun hk => ?_, hok.frm, hok.into, hok.pipe⟩
          obtain ⟨a1, a2, a3, a4, a5, a6⟩ := hok.file hk
          have := readS_end (x := e.node) (c := a) h.core.sm a5 a6
          exact ⟨a1, a2, a3, a4, by simp only; omega, this⟩
        · rename_i hk
          obtain ⟨a1, a2, p, a3, a4, a5, a6, a7, a8⟩ := hok.pipe hk
          rw [a3]
          exact h.putP a3 ⟨by simp; omega, a5, a6, a7, a8⟩
  · exact h
theorem writeE_len {T : Wd} {x a : Int} {s : List UInt8} (h : writeE T x a s = 0) : a + s.length ≤ 200 := by
  unfold writeE at h
  split at h
  · omega
  · split at h
    · omega
    · split at h
      · omega
      · omega
theorem Inv.write (h : Inv D Ts k) (hj : j < Ts.length) (x : Int) (s : List UInt8) (a : Int) : Inv (writeO D Ts[j] x s a).2.2 Ts (k + 1) := by
  have h1 := h.more (Nat.le_succ k)
  unfold writeO
  split
  · split
    · exact h1
    · rename_i e he
      have hok := h.core.ent _ e he
      split
      · exact h1
      · split
        · rename_i hk
          split
          · exact h1
          · split
            · exact h1
            · rename_i hE
              have hE' : writeE D.T e.node e.pos s = 0 := by omega
              have h2 := h.putT (h.core.lv.write e.node e.pos s) (h.core.sm.write e.node e.pos s)
              refine h2.putE (D := { D with T := writeN D.T e.node e.pos s }) he ⟨hok.kind, fun hk => ?_, hok.frm, hok.into, hok.pipe⟩
              obtain ⟨a1, a2, a3, a4, a5, a6⟩ := hok.file hk
              have := writeE_len hE'
              exact ⟨a1, a2, a3, a4, by simp only; omega, this⟩
        · rename_i hk
          obtain ⟨a1, a2, p, a3, a4, a5, a6, a7, a8⟩ := hok.pipe hk
          rw [a3]
          exact h1.putP a3 ⟨wrB_len _ _ _ a4, a5, a6, a7, a8⟩
  · exact h1
theorem Inv.dupO (h : Inv D Ts k) (hj : j < Ts.length) (x : Int) : Inv (dupD D Ts[j] x) (Ts.set j (dupN Ts[j] x)) k := by
  by_cases hz : dupE Ts[j] x = 0
  · have hx : hasN Ts[j] x = true := by
      unfold dupE at hz
      by_cases e1 : hasN Ts[j] x = true
      · exact e1
      · rw [if_neg e1] at hz; omega
    obtain ⟨i, rfl, hi, hiL, h0⟩ := hasN_at hx (h.len hj)
    unfold dupE at hz
    rw [if_pos hx] at hz
    rcases least_lt (N := Ts[j]) with hl | ⟨y, hl, hyL, hy0⟩
    · rw [hl] at hz; simp at hz
    have e0 : dupE Ts[j] i = 0 := by unfold dupE; rw [if_pos hx]; exact hz
    have e1 : dupD D Ts[j] i = incR D Ts[j][i].1 := by unfold dupD; rw [if_pos e0, getD_in hiL]; rfl
    have e2 : dupN Ts[j] i = Ts[j].set y (Ts[j][i].1, false) := by unfold dupN; rw [if_pos e0, getD_in hiL, hl, show (y : Int).toNat = y by omega]
    rw [e1, e2]
    exact h.dup hj hyL hy0 h0 (cntS_pos hj hiL) false
  · rw [show dupD D Ts[j] x = D from if_neg hz, show dupN Ts[j] x = Ts[j] from if_neg hz]
    exact h.setSelf hj
/-- A new pipe, and its two ends. -/
theorem Inv.pipe (h : Inv D Ts k) (hn : D.nx < 890) (hj : j < Ts.length) (hl1 : ¬ leastN Ts[j] < 0) (hl2 : ¬ leastN (pipeN1 D Ts[j]) < 0) : Inv (pipeD D) (Ts.set j (pipeN D Ts[j])) k := by
  have g := h.core.giv
  obtain ⟨n1, n2, n3⟩ := g.new
  have g0 := g.n0
  have hz : cntS (D.nx + 1) Ts = 0 := by
    have := h.core.cE (D.nx + 1) (by omega)
    rw [n1] at this
    simp at this
    exact this
  have h0 : Inv (pipeD0 D) Ts k := by
    refine ⟨⟨g.pipe0 (by omega), h.core.lv, h.core.sm, fun x ex hx => (h.core.ent x ex hx).keep (by show D.nx ≤ D.nx + 1; omega) (fun p y a b c d e f => ?_), h.core.cE, h.core.cR⟩, h.tab, h.few⟩
    have : p ≠ D.nx + 1 := fun e => by rw [e, n3] at a; cases a
    exact ⟨y, (if_neg this).trans a, b, c, d, e, f⟩
  have hP0 : (pipeD0 D).P (D.nx + 1) = some ([], 1, 1) := if_pos rfl
  have h1 : Inv (pipeD1 D) (Ts.set j (pipeN1 D Ts[j])) k := h0.add (D := pipeD0 D) (e := ⟨2, 1, 0, D.nx + 1, 0⟩) (by show D.nx + 1 < 899; omega) hj hl1 ⟨.inr (.inl rfl), fun z => by simp at z, fun _ => rfl, fun z => by simp at z, fun _ => ⟨by simp only; omega, by show D.nx + 1 ≤ D.nx + 1 + 1; omega, _, hP0, by simp, by simp, by simp, by simp, by simp⟩⟩
  have hj1 : j < (Ts.set j (pipeN1 D Ts[j])).length := by rw [List.length_set]; exact hj
  have hg1 := getT_set hj (pipeN1 D Ts[j]) hj1
  have h2 := h1.add (D := pipeD1 D) (j := j) (e := ⟨3, 2, 0, D.nx + 1, 0⟩) (by show D.nx + 1 + 1 < 899; omega) hj1 (by rw [hg1]; exact hl2) ⟨.inr (.inr rfl), fun z => by simp at z, fun z => by simp at z, fun _ => rfl, fun _ => ⟨by simp only; omega, by show D.nx + 1 ≤ D.nx + 1 + 1 + 1; omega, _, hP0, by simp, by simp, by simp, by simp, by simp⟩⟩
  rw [hg1, set_setT] at h2
  exact h2
theorem InvC.fork : ∀ (l : Ns) {D : DS} {C : Int → Nat}, InvC D C k → (∀ x ∈ l, 0 < x.1 → 0 < C x.1) → InvC (forkD D l) (fun d => C d + cntN d l) k
  | [], D, C, h, _ => h.congr (fun d _ => by simp [cntN])
  | x :: l, D, C, h, hl => by
    unfold forkD
    rw [List.foldl_cons]
    by_cases hx : 0 < x.1
    · rw [if_pos hx]
      refine (InvC.fork l (h.inc hx (hl x List.mem_cons_self hx)) (fun y hy h0 => ?_)).congr (fun d hd => ?_)
      · show 0 < (if y.1 = x.1 then C x.1 + 1 else C y.1)
        split
        · omega
        · exact hl y (List.mem_cons_of_mem _ hy) h0
      · simp only [cntN, List.filter_cons]
        by_cases e1 : d = x.1
        · simp [e1]; omega
        · simp [e1, Ne.symm e1]
    · rw [if_neg hx]
      refine (InvC.fork l h (fun y hy h0 => hl y (List.mem_cons_of_mem _ hy) h0)).congr (fun d hd => ?_)
      simp only [cntN, List.filter_cons]
      rw [if_neg (by simp; omega)]
theorem Inv.fork (h : Inv D Ts k) (hf : Ts.length < 8) (hj : j < Ts.length) : Inv (forkD D Ts[j]) (Ts ++ [Ts[j]]) k := by
  refine ⟨(InvC.fork Ts[j] h.core (fun x hx h0 => ?_)).congr (fun d hd => ?_), fun N hN => ?_, by rw [List.length_append]; simp; omega⟩
  · obtain ⟨i, hi, rfl⟩ := List.getElem_of_mem hx
    exact cntS_pos hj hi
  · simp [cntS]
  · rcases List.mem_append.1 hN with h1 | h1
    · exact h.tab N h1
    · rw [List.mem_singleton.1 h1]; exact h.tab _ (List.getElem_mem hj)
theorem freeS_tab (all : Bool) (D : DS) (N : Ns) : ∀ i, (freeS all D N i).2.length = N.length ∧ ∀ x, i ≤ x → (freeS all D N i).2[x]? = N[x]?
  | 0 => ⟨rfl, fun _ _ => rfl⟩
  | i + 1 => by
    obtain ⟨h1, h2⟩ := freeS_tab all D N i
    rw [freeS]
    split
    · refine ⟨by simp only [List.length_set]; exact h1, fun x hx => ?_⟩
      simp only
      rw [List.getElem?_set_ne (by omega)]
      exact h2 x (by omega)
    · exact ⟨h1, fun x hx => h2 x (by omega)⟩
theorem freeS_at {all : Bool} {N : Ns} {i : Nat} (hi : i < N.length) (h : i < (freeS all D N i).2.length) : (freeS all D N i).2[i] = N[i] := by
  have := (freeS_tab all D N i).2 i (Nat.le_refl _)
  rw [List.getElem?_eq_getElem h, List.getElem?_eq_getElem hi] at this
  exact Option.some.inj this
theorem Inv.free (h : Inv D Ts k) (hk : k ≤ 900) (hj : j < Ts.length) (all : Bool) : ∀ i, i ≤ 8 → Inv (freeS all D Ts[j] i).1 (Ts.set j (freeS all D Ts[j] i).2) k
  | 0, _ => h.setSelf hj
  | i + 1, hi => by
    have ih := Inv.free h hk hj all i (by omega)
    rw [freeS]
    split
    · rename_i hc
      have hiN : i < Ts[j].length := by rw [h.len hj]; omega
      have hiF : i < (freeS all D Ts[j] i).2.length := by rw [(freeS_tab all D Ts[j] i).1]; exact hiN
      have hj1 : j < (Ts.set j (freeS all D Ts[j] i).2).length := by rw [List.length_set]; exact hj
      have hg1 := getT_set hj (freeS all D Ts[j] i).2 hj1
      have hgi : (Ts.set j (freeS all D Ts[j] i).2)[j][i]'(by rw [hg1]; exact hiF) = Ts[j][i] := by
        simp only [hg1]
        exact freeS_at hiN hiF
      have hD : Ts[j].getD i (0, false) = Ts[j][i] := by rw [List.getD_eq_getElem?_getD, List.getElem?_eq_getElem hiN]; rfl
      rw [hD] at hc ⊢
      have h2 := ih.close hk hj1 (i := i) (by rw [hg1]; exact hiF) (by rw [hgi]; exact hc.1)
      rw [hgi, hg1, set_setT] at h2
      exact h2
    · exact ih
end
end Go.Proofs.YtjkneekfijibiabGreatDoor

namespace Go.Proofs.YtjkneekfijibiabGreatDoor
open Go.RowKit Go.Maps

section
variable {w w' w2 w0 w1 : World} {f b n q k j : Nat} {D D' D1 D2 : DS} {g g' g1 : QG} {M M1 N N' N1 N2 : Ns} {d m : Int} {e : En} {T' : Wd} {Ts : List Ns}
theorem QGo.comp (h : QF w f D g n) (wt : Wt (fun i => (g.kap i).isSome = true ∨ i = b) w w1) (hx : Ext w D1 g g1) (h2 : QGo w1 w2 f D2 g1 b N2) (hs : ∀ d, (D.E d).isSome = true → (D2.E d).isSome = true → (D1.E d).isSome = true) : QGo w w2 f D2 g b N2 := by
  obtain ⟨⟨g2, n2, M2, a1, a2, a3⟩, wt2⟩ := h2
  refine ⟨⟨g2, n2, M2, a1, a2, ⟨fun i hi => (a3.kap i (Nat.lt_of_lt_of_le hi wt.size)).trans (hx.kap i hi), fun k d hk hd => a3.key k d (hx.key k d hk (hs d (h.key k d hk).1 hd)) hd, a3.r.trans hx.r⟩⟩, wt.weaken wt2 (fun i hi z => ?_)⟩
  rcases z with z | z
  · exact .inl (by rw [← hx.kap i hi]; exact z)
  · exact .inr z
/-- One number looked at. -/
theorem QGo.freed (h : QF w f D g n) (I : Inv D Ts k) (hk : k ≤ 900) (hj : j < Ts.length) (hN : Ts[j] = N) {all : Bool} {i : Nat} (hi : i < 8) (hiL : i < N.length) (h0 : 0 < N[i].1) (ha : all = true ∨ N[i].2 = true) (hG : QGo w w1 f (freeS all D N i).1 g b (freeS all D N i).2) :
    Calls Tryz.prog 101 #[wp f, wp b, .int .i64 (i : Int)] w1 fun x w' => x = .returned (.tuple #[]) ∧ QGo w w' f (freeS all D N (i + 1)).1 g b (freeS all D N (i + 1)).2 := by
  have hiF : i < (freeS all D N i).2.length := by rw [(freeS_tab all D N i).1]; exact hiL
  have hat := freeS_at (D := D) (all := all) hiL hiF
  have hD : N.getD i (0, false) = N[i] := by rw [List.getD_eq_getElem?_getD, List.getElem?_eq_getElem hiL]; rfl
  have e1 : freeS all D N (i + 1) = (closeK (freeS all D N i).1 N[i].1, (freeS all D N i).2.set i (0, false)) := by
    rw [freeS, hD, if_pos ⟨h0, ha⟩]
  have I1 := I.free hk hj all i (by omega)
  have I2 := I.free hk hj all (i + 1) (by omega)
  rw [hN] at I1 I2
  rw [e1] at I2 ⊢
  have hj1 : j < (Ts.set j (freeS all D N i).2).length := by rw [List.length_set]; exact hj
  have hj2 : j < (Ts.set j ((freeS all D N i).2.set i (0, false))).length := by rw [List.length_set]; exact hj
  have hg1 := getT_set hj (freeS all D N i).2 hj1
  have hg2 := getT_set hj ((freeS all D N i).2.set i (0, false)) hj2
  have hl := I2.live hj2
  rw [hg2] at hl
  have hcn := I1.cl hj1 (i := i) (by rw [hg1]; exact hiF)
  simp only [hg1] at hcn
  rw [hat] at hcn
  obtain ⟨e, cl⟩ := hcn h0
  obtain ⟨⟨g1, n1, M1, a1, a2, a3⟩, wt⟩ := hG
  have hf := a1.free_ok a2 hi hiF (by rw [hat]; exact h0) (e := e) (c := cntS N[i].1 (Ts.set j (freeS all D N i).2)) (by rw [hat]; exact cl) (by rw [hat]; exact hl)
  rw [hat] at hf
  refine hf.mono ?_
  rintro x w' ⟨rfl, hG2⟩
  exact ⟨rfl, QGo.comp h wt a3 hG2 (fun d _ hd => closeK_sub hd)⟩
theorem freeS_skip {all : Bool} {i : Nat} (hiL : i < N.length) (hc : ¬ (0 < N[i].1 ∧ (all = true ∨ N[i].2 = true))) : freeS all D N (i + 1) = freeS all D N i := by
  have hD : N.getD i (0, false) = N[i] := by rw [List.getD_eq_getElem?_getD, List.getElem?_eq_getElem hiL]; rfl
  rw [freeS, hD, if_neg hc]
/-- What a number of the table is, however far it was looked at. -/
theorem QGo.atIs {all : Bool} {i : Nat} (hi : i < 8) (hiL : i < N.length) (hG : QGo w w1 f (freeS all D N i).1 g b (freeS all D N i).2) : ∃ x : Int × Bool, Calls Tryz.prog 93 #[wp b, .int .i64 (i : Int)] w1 (fun e w' => e = .returned (.agg #[.int .i64 x.1, .bool x.2]) ∧ QGo w w' f (freeS all D N i).1 g b (freeS all D N i).2) ∧ (x.1 = 0 ↔ N[i].1 = 0) ∧ 0 ≤ N[i].1 ∧ x.2 = N[i].2 ∧ (x.1 = 0 → x.2 = false) := by
  have hiF : i < (freeS all D N i).2.length := by rw [(freeS_tab all D N i).1]; exact hiL
  have hat := freeS_at (D := D) (all := all) hiL hiF
  have hG' := hG
  obtain ⟨⟨g1, n1, M1, a1, a2, a3⟩, wt⟩ := hG
  have hM : i < M1.length := by rw [a2.tab.len]; exact hi
  have h1 := a2.tab.at_ok i
  rw [atM_in a2.tab.len hi] at h1
  have hp := (a2.pos a1 i hM hiF).2
  have hr := (a2.rel i hM hiF).1
  rw [hat] at hp hr
  have hnn := a2.nnAt i hiF
  rw [hat] at hnn
  refine ⟨M1[i], h1.mono ?_, hp, hnn, hr.symm, (a2.tab.nn hM).2.2⟩
  rintro e w' ⟨rfl, b1⟩
  exact ⟨rfl, ⟨⟨g1, n1, M1, a1.below b1, a2.below b1, a3⟩, wt.trans (Wt.below _ b1)⟩⟩
theorem QGo.behind (h : QGo w w1 f D' g b N') (hb : Below w1.heap.size w1 w2) : QGo w w2 f D' g b N' := by
  obtain ⟨⟨g1, n1, M1, a1, a2, a3⟩, wt⟩ := h
  exact ⟨⟨g1, n1, M1, a1.below hb, a2.below hb, a3⟩, wt.trans (Wt.below _ hb)⟩
set_option maxRecDepth 100000 in
set_option maxHeartbeats 4000000 in
theorem QF.clear_ok (h : QF w f D g n) (t : QTb w b g M N) (I : Inv D Ts k) (hk : k ≤ 900) (hj : j < Ts.length) (hN : Ts[j] = N) :
    Calls Tryz.prog 41 #[wp f, wp b] w fun y w' => y = .returned (.tuple #[]) ∧ QGo w w' f (freeS true D N 8).1 g b (freeS true D N 8).2 := by
  have hL : N.length = 8 := t.len
  have hG0 : QGo w w f (freeS true D N 0).1 g b (freeS true D N 0).2 := h.same t (Below.refl _ _)
  have HA : Aside (∀ i (hi : i < 8) (hiL : i < N.length) W, QGo w W f (freeS true D N i).1 g b (freeS true D N i).2 → ∃ x : Int × Bool, Calls Tryz.prog 93 #[wp b, .int .i64 (i : Int)] W (fun e w' => e = .returned (.agg #[.int .i64 x.1, .bool x.2]) ∧ QGo w w' f (freeS true D N i).1 g b (freeS true D N i).2) ∧ (x.1 = 0 ↔ N[i].1 = 0) ∧ 0 ≤ N[i].1 ∧ x.2 = N[i].2 ∧ (x.1 = 0 → x.2 = false)) := fun i hi hiL W hG => QGo.atIs hi hiL hG
  have HF : Aside (∀ i (hi : i < 8) (hiL : i < N.length) W, 0 < N[i].1 → (true = true ∨ N[i].2 = true) → QGo w W f (freeS true D N i).1 g b (freeS true D N i).2 → Calls Tryz.prog 101 #[wp f, wp b, .int .i64 (i : Int)] W fun x w' => x = .returned (.tuple #[]) ∧ QGo w w' f (freeS true D N (i + 1)).1 g b (freeS true D N (i + 1)).2) := fun i hi hiL W h0 ha hG => QGo.freed h I hk hj hN hi hiL h0 ha hG
  have HS : Aside (∀ i (hiL : i < N.length) W, ¬ (0 < N[i].1 ∧ (true = true ∨ N[i].2 = true)) → QGo w W f (freeS true D N i).1 g b (freeS true D N i).2 → QGo w W f (freeS true D N (i + 1)).1 g b (freeS true D N (i + 1)).2) := fun i hiL W h0 hG => by
    rw [freeS_skip hiL h0]; exact hG
  have HL : Aside (N.length = 8) := hL
  have hfm := num_mark
  clear h t I hk hN hj hL
  go_enter Tryz.func41, Tryz.ntmps41
  go_wp2_with fail
  go_loopg [4, 5] 8 (fun mm _ s5 wx => ∃ i : Nat, Aside (i + mm = 8) ∧ s5 = .int .i64 (i : Int) ∧ QGo w wx f (freeS true D N i).1 g b (freeS true D N i).2)
  case atStart => exact ⟨0, rfl, rfl, hG0⟩
  case round =>
    obtain ⟨i, HI, rfl, hG⟩ := hrel
    have hi9' : (i : Int) ≤ 8 := by have := HI.out; omega
    by_cases hlt : (i : Int) < 8
    · have HiL : Aside (i < N.length) := by show i < N.length; have := HL.out; omega
      have Hi8 : Aside (i < 8) := by show i < 8; omega
      obtain ⟨⟨X, Y⟩, hAt, hx0, hnn, hy, hfr⟩ := HA.out i Hi8.out HiL.out _ hG
      simp only at hAt hx0 hy hfr
      by_cases hX : X = 0
      · have HN0 : Aside (¬ (0 < (N[i]'HiL.out).1 ∧ (true = true ∨ (N[i]'HiL.out).2 = true))) := fun z => by have := hx0.1 hX; omega
        subst hX
        clear hG hx0 hnn hy hfr
        go_wp2_with (first
          | (go_at_call 93; refine hAt.mono ?_; rintro e w1 ⟨rfl, hG1⟩)
          | (go_at_call 94; refine (isFree_ok _ 0 _).mono ?_; rintro e w2 ⟨rfl, b2⟩))
        go_roundg (7 - i)
        case measure => have := HI.out; omega
        case rel => exact ⟨i + 1, (show i + 1 + (7 - i) = 8 by omega), by rfl, HS.out i HiL.out _ HN0.out (hG1.behind b2)⟩
      · have HN0 : Aside (0 < (N[i]'HiL.out).1 ∧ (true = true ∨ (N[i]'HiL.out).2 = true)) := ⟨by have : (N[i]'HiL.out).1 ≠ 0 := fun z => hX (hx0.2 z); omega, .inl rfl⟩
        have hX' : (X == 0) = false := by simpa using hX
        clear hG hx0 hnn hy hfr hX
        go_wp2_with (first
          | (go_at_call 93; refine hAt.mono ?_; rintro e w1 ⟨rfl, hG1⟩)
          | (go_at_call 94; refine (isFree_ok _ X _).mono ?_; rintro e w2 ⟨rfl, b2⟩; have hFr := HF.out i Hi8.out HiL.out _ HN0.out.1 HN0.out.2 (hG1.behind b2))
          | (go_at_call 101; refine hFr.mono ?_; rintro e w3 ⟨rfl, hG3⟩))
        go_roundg (7 - i)
        case measure => have := HI.out; omega
        case rel => exact ⟨i + 1, (show i + 1 + (7 - i) = 8 by omega), by rfl, hG3⟩
    · have H8 : Aside (i = 8) := by show i = 8; omega
      have hG8 : QGo w wr f (freeS true D N 8).1 g b (freeS true D N 8).2 := by rw [← H8.out]; exact hG
      clear hG
      go_wp2_with fail
      go_end0
      exact ⟨rfl, hG8⟩
set_option maxRecDepth 100000 in
set_option maxHeartbeats 4000000 in
theorem QF.exec_ok (h : QF w f D g n) (t : QTb w b g M N) (I : Inv D Ts k) (hk : k ≤ 900) (hj : j < Ts.length) (hN : Ts[j] = N) :
    Calls Tryz.prog 91 #[wp f, wp b] w fun y w' => y = .returned (.tuple #[]) ∧ QGo w w' f (freeS false D N 8).1 g b (freeS false D N 8).2 := by
  have hL : N.length = 8 := t.len
  have hG0 : QGo w w f (freeS false D N 0).1 g b (freeS false D N 0).2 := h.same t (Below.refl _ _)
  have HA : Aside (∀ i (hi : i < 8) (hiL : i < N.length) W, QGo w W f (freeS false D N i).1 g b (freeS false D N i).2 → ∃ x : Int × Bool, Calls Tryz.prog 93 #[wp b, .int .i64 (i : Int)] W (fun e w' => e = .returned (.agg #[.int .i64 x.1, .bool x.2]) ∧ QGo w w' f (freeS false D N i).1 g b (freeS false D N i).2) ∧ (x.1 = 0 ↔ N[i].1 = 0) ∧ 0 ≤ N[i].1 ∧ x.2 = N[i].2 ∧ (x.1 = 0 → x.2 = false)) := fun i hi hiL W hG => QGo.atIs hi hiL hG
  have HF : Aside (∀ i (hi : i < 8) (hiL : i < N.length) W, 0 < N[i].1 → (false = true ∨ N[i].2 = true) → QGo w W f (freeS false D N i).1 g b (freeS false D N i).2 → Calls Tryz.prog 101 #[wp f, wp b, .int .i64 (i : Int)] W fun x w' => x = .returned (.tuple #[]) ∧ QGo w w' f (freeS false D N (i + 1)).1 g b (freeS false D N (i + 1)).2) := fun i hi hiL W h0 ha hG => QGo.freed h I hk hj hN hi hiL h0 ha hG
  have HS : Aside (∀ i (hiL : i < N.length) W, ¬ (0 < N[i].1 ∧ (false = true ∨ N[i].2 = true)) → QGo w W f (freeS false D N i).1 g b (freeS false D N i).2 → QGo w W f (freeS false D N (i + 1)).1 g b (freeS false D N (i + 1)).2) := fun i hiL W h0 hG => by
    rw [freeS_skip hiL h0]; exact hG
  have HL : Aside (N.length = 8) := hL
  have hfm := num_mark
  clear h t I hk hN hj hL
  go_enter Tryz.func91, Tryz.ntmps91
  go_wp2_with fail
  go_loopg [4, 5] 8 (fun mm _ s5 wx => ∃ i : Nat, Aside (i + mm = 8) ∧ s5 = .int .i64 (i : Int) ∧ QGo w wx f (freeS false D N i).1 g b (freeS false D N i).2)
  case atStart => exact ⟨0, rfl, rfl, hG0⟩
  case round =>
    obtain ⟨i, HI, rfl, hG⟩ := hrel
    have hi9' : (i : Int) ≤ 8 := by have := HI.out; omega
    by_cases hlt : (i : Int) < 8
    · have HiL : Aside (i < N.length) := by show i < N.length; have := HL.out; omega
      have Hi8 : Aside (i < 8) := by show i < 8; omega
      obtain ⟨⟨X, Y⟩, hAt, hx0, hnn, hy, hfr⟩ := HA.out i Hi8.out HiL.out _ hG
      simp only at hAt hx0 hy hfr
      by_cases hX : Y = false
      · have HN0 : Aside (¬ (0 < (N[i]'HiL.out).1 ∧ (false = true ∨ (N[i]'HiL.out).2 = true))) := fun z => by rcases z.2 with z2 | z2; exact absurd z2 (by simp); rw [← hy, hX] at z2; cases z2
        subst hX
        clear hG hx0 hnn hy hfr
        go_wp2_with (go_at_call 93; refine hAt.mono ?_; rintro e w1 ⟨rfl, hG1⟩)
        go_roundg (7 - i)
        case measure => have := HI.out; omega
        case rel => exact ⟨i + 1, (show i + 1 + (7 - i) = 8 by omega), by rfl, HS.out i HiL.out _ HN0.out hG1⟩
      · have HN0 : Aside (0 < (N[i]'HiL.out).1 ∧ (false = true ∨ (N[i]'HiL.out).2 = true)) := ⟨by have : X ≠ 0 := fun z => hX (hfr z); have : (N[i]'HiL.out).1 ≠ 0 := fun z => this (hx0.2 z); omega, .inr (by rw [← hy]; simpa using hX)⟩
        have hX2 : Y = true := by simpa using hX
        have hfl := num_mark X Y
        rw [hX2] at hAt
        clear hG hx0 hnn hy hfr hX
        clear hX2 hfl
        go_wp2_with (first
          | (go_at_call 93; refine hAt.mono ?_; rintro e w1 ⟨rfl, hG1⟩; have hFr := HF.out i Hi8.out HiL.out _ HN0.out.1 HN0.out.2 hG1)
          | (go_at_call 101; refine hFr.mono ?_; rintro e w3 ⟨rfl, hG3⟩))
        go_roundg (7 - i)
        case measure => have := HI.out; omega
        case rel => exact ⟨i + 1, (show i + 1 + (7 - i) = 8 by omega), by rfl, hG3⟩
    · have H8 : Aside (i = 8) := by show i = 8; omega
      have hG8 : QGo w wr f (freeS false D N 8).1 g b (freeS false D N 8).2 := by rw [← H8.out]; exact hG
      clear hG
      go_wp2_with fail
      go_end0
      exact ⟨rfl, hG8⟩
end
end Go.Proofs.YtjkneekfijibiabGreatDoor
