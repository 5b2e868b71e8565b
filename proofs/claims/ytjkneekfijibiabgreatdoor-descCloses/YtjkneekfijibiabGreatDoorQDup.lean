/- What holds of all tables and of all that is open: each call keeps it. -/
import Derived.Test.YtjkneekfijibiabGreatDoorQLeave
import Derived.Test.YtjkneekfijibiabGreatDoorUUnlink
import Derived.Test.YtjkneekfijibiabGreatDoorQClose
namespace Go.Proofs.YtjkneekfijibiabGreatDoor
open Go.RowKit Go.Maps

/-- So it stands with all tables. -/
structure Inv (D : DS) (Ts : List Ns) (k : Nat) : Prop where
  core : InvC D (fun d => cntS d Ts) k
  tab : ∀ N ∈ Ts, N.length = 8 ∧ ∀ x ∈ N, 0 ≤ x.1 ∧ (x.1 = 0 → x.2 = false)
  few : Ts.length ≤ 8
/-- A number of the table is of an ENTRY with a count. -/
def Cnted (D : DS) (N : Ns) : Prop := ∀ i (hi : i < N.length), 0 < N[i].1 → ∃ e c, D.E N[i].1 = some e ∧ D.R N[i].1 = some c ∧ 0 ≤ c ∧ c < 100000
section
variable {D : DS} {Ts : List Ns} {k j i : Nat} {d : Int} {e : En}
theorem Cnted.live {N : Ns} (h : Cnted D N) : Live D N := fun i hi h0 => by
  obtain ⟨e, c, h1, _⟩ := h i hi h0
  rw [h1]; rfl
theorem Inv.more (h : Inv D Ts k) {k' : Nat} (hk : k ≤ k') : Inv D Ts k' := ⟨h.core.more hk, h.tab, h.few⟩
theorem Inv.len (h : Inv D Ts k) (hj : j < Ts.length) : Ts[j].length = 8 := (h.tab _ (List.getElem_mem hj)).1
theorem Inv.few64 (h : Inv D Ts k) (d : Int) : cntS d Ts ≤ 64 := by
  have := cntS_le d Ts (fun N hN => (h.tab N hN).1)
  have := h.few
  omega
theorem Inv.cl (h : Inv D Ts k) (hj : j < Ts.length) (hi : i < Ts[j].length) (h0 : 0 < Ts[j][i].1) : ∃ e, Cl D Ts[j][i].1 e (cntS Ts[j][i].1 Ts) :=
  h.core.cl h0 (cntS_pos hj hi) (by have := h.few64 Ts[j][i].1; omega)
theorem Inv.cnted (h : Inv D Ts k) (hj : j < Ts.length) : Cnted D Ts[j] := fun i hi h0 => by
  obtain ⟨e, c⟩ := h.cl hj hi h0
  exact ⟨e, _, c.ent, c.cnt, by omega, c.c1⟩
theorem Inv.live (h : Inv D Ts k) (hj : j < Ts.length) : Live D Ts[j] := (h.cnted hj).live
theorem tab_set {P : Ns → Prop} {N' : Ns} (h : ∀ N ∈ Ts, P N) (hN : P N') : ∀ N ∈ Ts.set j N', P N := fun N hm => by
  rcases List.mem_or_eq_of_mem_set hm with h1 | h1
  · exact h N h1
  · rw [h1]; exact hN
theorem row_set {N : Ns} (h : N.length = 8 ∧ ∀ x ∈ N, 0 ≤ x.1 ∧ (x.1 = 0 → x.2 = false)) (y : Int × Bool) (hy : 0 ≤ y.1 ∧ (y.1 = 0 → y.2 = false)) : (N.set i y).length = 8 ∧ ∀ x ∈ N.set i y, 0 ≤ x.1 ∧ (x.1 = 0 → x.2 = false) := by
  refine ⟨by rw [List.length_set]; exact h.1, fun x hx => ?_⟩
  rcases List.mem_or_eq_of_mem_set hx with h1 | h1
  · exact h.2 x h1
  · rw [h1]; exact hy
theorem Inv.close (h : Inv D Ts k) (hk : k ≤ 900) (hj : j < Ts.length) (hi : i < Ts[j].length) (h0 : 0 < Ts[j][i].1) : Inv (closeK D Ts[j][i].1) (Ts.set j (Ts[j].set i (0, false))) k := by
  have hb := h.few64 Ts[j][i].1
  refine ⟨(h.core.close hk h0 (cntS_pos hj hi) (by omega)).congr (fun x hx => ?_), tab_set h.tab (row_set (h.tab _ (List.getElem_mem hj)) _ ⟨by simp, fun _ => rfl⟩), by rw [List.length_set]; exact h.few⟩
  have ht := cnt_turn hj hi x (0, false)
  have hp := cntS_pos hj hi
  simp only at ht ⊢
  rw [if_neg (show ¬ (0 : Int) = x by omega)] at ht
  by_cases e1 : x = Ts[j][i].1
  · rw [if_pos e1]
    rw [if_pos e1.symm] at ht
    rw [← e1]
    omega
  · rw [if_neg e1]
    rw [if_neg (fun z => e1 z.symm)] at ht
    omega
/-- One number more, at a free place. -/
theorem Inv.dup (h : Inv D Ts k) (hj : j < Ts.length) (hi : i < Ts[j].length) (h0 : Ts[j][i].1 = 0) (hd : 0 < d) (hc : 0 < cntS d Ts) (c : Bool) : Inv (incR D d) (Ts.set j (Ts[j].set i (d, c))) k := by
  refine ⟨(h.core.inc hd hc).congr (fun x hx => ?_), tab_set h.tab (row_set (h.tab _ (List.getElem_mem hj)) _ ⟨by simp; omega, fun z => by simp at z; omega⟩), by rw [List.length_set]; exact h.few⟩
  have ht := cnt_turn hj hi x (d, c)
  simp only at ht ⊢
  rw [h0, if_neg (show ¬ (0 : Int) = x by omega)] at ht
  by_cases e1 : x = d
  · subst e1
    rw [if_pos rfl] at ht ⊢
    omega
  · rw [if_neg e1]
    rw [if_neg (fun z => e1 z.symm)] at ht
    omega
/-- Dup2 onto what is another one's. -/
theorem Inv.dup2 (h : Inv D Ts k) (hk : k ≤ 900) (hj : j < Ts.length) (hi : i < Ts[j].length) (h0 : 0 < Ts[j][i].1) (hd : 0 < d) (hc : 0 < cntS d Ts) : Inv (closeK (incR D d) Ts[j][i].1) (Ts.set j (Ts[j].set i (d, false))) k ∧ ∃ e c, Cl (incR D d) Ts[j][i].1 e c := by
  have h1 := h.core.inc hd hc
  have hp := cntS_pos hj hi
  have hb := h.few64 Ts[j][i].1
  have hb2 : (if Ts[j][i].1 = d then cntS d Ts + 1 else cntS Ts[j][i].1 Ts) < 100000 := by
    by_cases e1 : Ts[j][i].1 = d
    · rw [if_pos e1, ← e1]; omega
    · rw [if_neg e1]; omega
  have hp2 : 0 < (if Ts[j][i].1 = d then cntS d Ts + 1 else cntS Ts[j][i].1 Ts) := by
    by_cases e1 : Ts[j][i].1 = d
    · rw [if_pos e1]; omega
    · rw [if_neg e1]; omega
  obtain ⟨e, cl⟩ := h1.cl h0 hp2 hb2
  refine ⟨⟨(h1.close hk h0 hp2 hb2).congr (fun x hx => ?_), tab_set h.tab (row_set (h.tab _ (List.getElem_mem hj)) _ ⟨by simp; omega, fun z => by simp at z; omega⟩), by rw [List.length_set]; exact h.few⟩, e, _, cl⟩
  have ht := cnt_turn hj hi x (d, false)
  simp only at ht ⊢
  by_cases e1 : x = Ts[j][i].1
  · rw [if_pos e1]
    rw [if_pos e1.symm] at ht
    rw [← e1]
    by_cases e2 : x = d
    · subst e2
      rw [if_pos rfl] at ht ⊢
      omega
    · rw [if_neg e2]
      rw [if_neg (fun z => e2 z.symm)] at ht
      omega
  · rw [if_neg e1]
    rw [if_neg (fun z => e1 z.symm)] at ht
    by_cases e2 : x = d
    · subst e2
      rw [if_pos rfl] at ht ⊢
      omega
    · rw [if_neg e2]
      rw [if_neg (fun z => e2 z.symm)] at ht
      omega
theorem Inv.mark (h : Inv D Ts k) (hj : j < Ts.length) (x : Int) (c : Bool) : Inv D (Ts.set j (markN Ts[j] x c)) k := by
  unfold markN
  split
  · rename_i hx
    obtain ⟨i, rfl, hi, hiL, h0⟩ := hasN_at hx (h.len hj)
    rw [getD_in hiL, show (i : Int).toNat = i by omega]
    refine ⟨h.core.congr (fun x hx => ?_), tab_set h.tab (row_set (h.tab _ (List.getElem_mem hj)) _ ⟨by simp; omega, fun z => by simp at z; omega⟩), by rw [List.length_set]; exact h.few⟩
    have ht := cnt_turn hj hiL x (Ts[j][i].1, c)
    simp only at ht ⊢
    omega
  · rw [List.set_getElem_self]; exact h
/-- An ENTRY's own turn. -/
theorem Inv.putE (h : Inv D Ts k) (he : D.E d = some e) {e' : En} (hok : EnOk D e') : Inv { D with E := fun i => if i = d then some e' else D.E i } Ts k := by
  have hs : ∀ x, (if x = d then some e' else D.E x).isSome = (D.E x).isSome := fun x => by
    by_cases e1 : x = d
    · rw [if_pos e1, e1, he]; rfl
    · rw [if_neg e1]
  refine ⟨⟨⟨h.core.giv.n0, h.core.giv.n1, fun x hx => h.core.giv.e x (by rw [← hs]; exact hx), h.core.giv.r, h.core.giv.p⟩, h.core.lv, h.core.sm, fun x ex hx => ?_, fun x hx => by show (if x = d then some e' else D.E x).isSome = true ↔ _; rw [hs]; exact h.core.cE x hx, h.core.cR⟩, h.tab, h.few⟩
  have hx' : (if x = d then some e' else D.E x) = some ex := hx
  by_cases e1 : x = d
  · rw [if_pos e1] at hx'
    obtain rfl := Option.some.inj hx'
    exact hok.same (Int.le_refl _) rfl
  · rw [if_neg e1] at hx'
    exact (h.core.ent x ex hx').same (Int.le_refl _) rfl
/-- A pipe's own turn. -/
theorem Inv.putP (h : Inv D Ts k) {p : Int} {x y : Pi} (hp : D.P p = some x) (hy : y.1.length ≤ 16 ∧ 0 ≤ y.2.1 ∧ y.2.1 < 1000 ∧ 0 ≤ y.2.2 ∧ y.2.2 < 1000) : Inv { D with P := fun i => if i = p then some y else D.P i } Ts k := by
  refine ⟨⟨⟨h.core.giv.n0, h.core.giv.n1, h.core.giv.e, h.core.giv.r, fun q hq => ?_⟩, h.core.lv, h.core.sm, fun q ex hx => (h.core.ent q ex hx).keep (Int.le_refl _) (fun r z a b c d e f => ?_), h.core.cE, h.core.cR⟩, h.tab, h.few⟩
  · have hq' : (if q = p then some y else D.P q).isSome = true := hq
    by_cases e1 : q = p
    · rw [e1]; exact h.core.giv.p p (by rw [hp]; rfl)
    · rw [if_neg e1] at hq'; exact h.core.giv.p q hq'
  · by_cases e1 : r = p
    · exact ⟨y, if_pos e1, hy⟩
    · exact ⟨z, (if_neg e1).trans a, b, c, d, e, f⟩
/-- The tree's own turn. -/
theorem Inv.putT (h : Inv D Ts k) {T' : Wd} {k' : Nat} (hT : TrLv T') (hs : Sm k' T') : Inv { D with T := T' } Ts k' :=
  ⟨⟨⟨h.core.giv.n0, h.core.giv.n1, h.core.giv.e, h.core.giv.r, h.core.giv.p⟩, hT, hs, fun q ex hx => (h.core.ent q ex hx).same (Int.le_refl _) rfl, h.core.cE, h.core.cR⟩, h.tab, h.few⟩
theorem Inv.unlink (h : Inv D Ts k) (p : List UInt8) : Inv { D with T := unlinkN D.T p } Ts (k + 1) := h.putT (h.core.lv.unlink p) (h.core.sm.unlink p)
/-- A new ENTRY, for a free number. -/
theorem Inv.add (h : Inv D Ts k) (hn : D.nx < 899) (hj : j < Ts.length) (hl : ¬ leastN Ts[j] < 0) (hok : EnOk (addD D e) e) : Inv (addD D e) (Ts.set j (addN D Ts[j])) k := by
  have g := h.core.giv
  obtain ⟨n1, n2, n3⟩ := g.new
  rcases least_lt (N := Ts[j]) with hx9 | ⟨i, hi, hiL, hi0⟩
  · omega
  have hN : addN D Ts[j] = Ts[j].set i (D.nx + 1, false) := by unfold addN; rw [hi, show (i : Int).toNat = i by omega]
  have h0 := g.n0
  have hz : cntS (D.nx + 1) Ts = 0 := by
    have := h.core.cE (D.nx + 1) (by omega)
    rw [n1] at this
    simp at this
    exact this
  rw [hN]
  have hcnt : ∀ x, 0 < x → cntS x (Ts.set j (Ts[j].set i (D.nx + 1, false))) = if x = D.nx + 1 then 1 else cntS x Ts := fun x hx => by
    have ht := cnt_turn hj hiL x (D.nx + 1, false)
    simp only at ht
    rw [hi0, if_neg (show ¬ (0 : Int) = x by omega)] at ht
    by_cases e1 : x = D.nx + 1
    · rw [if_pos e1]
      rw [if_pos e1.symm, e1, hz] at ht
      rw [e1]; omega
    · rw [if_neg e1]
      rw [if_neg (fun z => e1 z.symm)] at ht
      omega
  refine ⟨⟨g.add hn e, h.core.lv, h.core.sm, fun x ex hx => ?_, fun x hx => ?_, fun x hx => ?_⟩, tab_set h.tab (row_set (h.tab _ (List.getElem_mem hj)) _ ⟨by simp; omega, fun z => by simp at z; omega⟩), by rw [List.length_set]; exact h.few⟩
  · have hx' : (if x = D.nx + 1 then some e else D.E x) = some ex := hx
    by_cases e1 : x = D.nx + 1
    · rw [if_pos e1] at hx'
      obtain rfl := Option.some.inj hx'
      exact hok
    · rw [if_neg e1] at hx'
      exact (h.core.ent x ex hx').same (by show D.nx ≤ D.nx + 1; omega) rfl
  · show (if x = D.nx + 1 then some e else D.E x).isSome = true ↔ _
    rw [hcnt x hx]
    by_cases e1 : x = D.nx + 1
    · rw [if_pos e1, if_pos e1]; simp
    · rw [if_neg e1, if_neg e1]; exact h.core.cE x hx
  · show (if x = D.nx + 1 then some 1 else D.R x) = _
    rw [hcnt x hx]
    by_cases e1 : x = D.nx + 1
    · simp [e1]
    · rw [if_neg e1, if_neg e1, h.core.cR x hx]
theorem getT_set {Ts : List Ns} {j : Nat} (_ : j < Ts.length) (N' : Ns) (h : j < (Ts.set j N').length) : (Ts.set j N')[j] = N' := List.getElem_set_self h
theorem set_setT (Ts : List Ns) (j : Nat) (a b : Ns) : (Ts.set j a).set j b = Ts.set j b := List.set_set _
theorem Inv.setSelf (h : Inv D Ts k) (hj : j < Ts.length) : Inv D (Ts.set j Ts[j]) k := by rw [List.set_getElem_self]; exact h
/-- File keeps it. -/
theorem Inv.file {n s : Nat} {p : List UInt8} {pr : Int} {mk : Bool} {x c : Int} {D' : DS} {N' : Ns} (h : Inv D Ts k) (hk : k ≤ 890) (hn : D.nx < 899) (hj : j < Ts.length) (hs : IsNum D.T s) (hF : FileO D Ts[j] n s p pr mk x c D' N') : Inv D' (Ts.set j N') (k + 2) := by
  have hlv := h.core.lv
  have hadd : ∀ T' nd, TrLv T' → Sm (k + 2) T' → 1 ≤ pr ∧ pr ≤ 3 → 0 ≤ nd → nd < 1000 → roomy Ts[j] n → Inv (addD { D with T := T' } ⟨1, pr, nd, 0, 0⟩) (Ts.set j (addN D Ts[j])) (k + 2) := fun T' nd hT' hS' hp h0 h1 hr =>
    (h.putT (T' := T') hT' hS').add (D := { D with T := T' }) (e := ⟨1, pr, nd, 0, 0⟩) hn hj hr.1 ⟨.inl rfl, fun _ => ⟨hp.1, hp.2, h0, h1, by simp, by simp⟩, fun z => by simp at z, fun z => by simp at z, fun z => absurd rfl z⟩
  cases hF with
  | opened hp hr hE hh =>
    have hkey := hlv.key _ (findT_some hlv.toTrOk hE)
    exact hadd _ _ (hlv.hold _ (.inl rfl) (fun b x hx => by have := (h.core.sm.2 _ b x hx).1; omega)) ((h.core.sm.hold _ 1 (by omega)).more (by omega)) hp hkey.1 (by omega) hr
  | made hp hr hE hm hM z hz =>
    have hz64 : z < 64 := by
      have hmh := made_hold hlv.toTrOk hM hz
      have hs60 := (makeE_zero hlv.toTrOk hM).2.2.2
      have h9 := hs.free (k := z.toNat) (fun i hi => hz.least i (by omega) (by have := hz.pos; omega))
      have := hz.pos
      omega
    have hlv1 := hlv.make hM hz hz64 false
    have hmh := made_hold hlv.toTrOk hM hz
    exact hadd _ _ (hlv1.hold _ (.inl rfl) (fun b x hx => by have := hmh.2 b x hx; omega)) ((h.core.sm.make p false z).hold _ 1 (by omega)) hp hz.pos (by omega) hr
  | _ => exact (h.setSelf hj).more (by omega)
end
end Go.Proofs.YtjkneekfijibiabGreatDoor

namespace Go.Proofs.YtjkneekfijibiabGreatDoor
open Go.RowKit Go.Maps

section
variable {w w' w2 : World} {f b n : Nat} {D D' : DS} {g g' : QG} {M N N' : Ns} {d k : Int} {e : En}
/-- give, for what is asked: a table's number is of an ENTRY. -/
theorem QF.give_go (h : QF w f D g n) (t : QTb w b g M N) {i : Nat} (hi : i < 8) (hk : g.K k = some d) (hd : 0 < d) (he : D.E d = some e) {c : Int} (hc : D.R d = some c) (hc0 : 0 ≤ c) (hc1 : c < 100000) :
    Calls Tryz.prog 78 #[wp f, wp b, .int .i64 (i : Int), .int .i64 k] w fun x w' => x = .returned (.tuple #[]) ∧ QF w' f (incR D d) g n ∧ QTb w' b g (M.set i (k, false)) (N.set i (d, false)) ∧ QGo w w' f (incR D d) g b (N.set i (d, false)) := by
  rw [incR_eq hc]
  refine (h.give_ok t hi hk hd he hc hc0 hc1).mono ?_
  rintro x w' ⟨rfl, a1, a2, wt⟩
  exact ⟨rfl, a1, a2, ⟨g, n, _, a1, a2, Ext.refl _ _ _⟩, wt⟩
theorem dupD_inc (hx : dupE N k = 0) : dupD D N k = incR D (N.getD k.toNat (0, false)).1 := if_pos hx

set_option maxRecDepth 100000 in
set_option maxHeartbeats 4000000 in
theorem QF.dup_ok (h : QF w f D g n) (t : QTb w b g M N) (x : Int) (hC : Cnted D N) :
    Calls Tryz.prog 43 #[wp f, wp b, .int .i64 x] w fun y w' => y = .returned (.tuple #[.int .i64 (dupK N x), uev (dupE N x)]) ∧ QGo w w' f (dupD D N x) g b (dupN N x) := by
  have hs : ∀ w', Below w.heap.size w w' → QGo w w' f D g b N := fun w' hb => h.same t hb
  have hLs : ∀ V, Below w.heap.size w V → Calls Tryz.prog 106 #[wp b] V fun y w' => y = .returned (.tuple #[.int .i64 (leastN N), .bool (decide (0 ≤ leastN N))]) ∧ Below w.heap.size w w' := fun V hV => by
    refine ((t.below hV).least_ok (h.below hV)).mono ?_
    rintro y w' ⟨rfl, b1⟩
    exact ⟨rfl, hV.trans (b1.mono hV.size)⟩
  by_cases hx : hasN N x = true
  · obtain ⟨i, rfl, hi, hiL, h0⟩ := hasN_at hx t.len
    have hF := h.find_yes t hi hiL h0
    obtain ⟨e, c, he, hc, hc0, hc1⟩ := hC i hiL h0
    have hM : i < M.length := by have := t.tab.len; omega
    have hk := t.keyOf hM hiL h0
    rcases least_lt (N := N) with hl | ⟨j, hl, hjL, hj0⟩
    · have e1 : dupE N i = 12 := by unfold dupE; rw [if_pos hx, hl]; rfl
      have e2 : dupD D N i = D := by unfold dupD; rw [if_neg (by rw [e1]; decide)]
      have e3 : dupN N i = N := by unfold dupN; rw [if_neg (by rw [e1]; decide)]
      have e4 : dupK N i = 0 := by unfold dupK; rw [if_neg (by rw [e1]; decide)]
      rw [e1, e2, e3, e4]
      rw [hl] at hLs
      generalize g.B N[i].1 = q at *
      clear h t hC e1 e2 e3 e4 hl he hc hc0 hc1 hk h0 hx
      go_enter Tryz.func43, Tryz.ntmps43
      go_wp2_with (first
        | (go_at_call 77; refine hF.mono ?_; rintro y w1 ⟨rfl, b1⟩)
        | (go_at_call 106; refine (hLs _ b1).mono ?_; rintro y w2 ⟨rfl, b2⟩))
      go_ret2
      exact ⟨rfl, hs _ b2⟩
    · have hj8 : j < 8 := by have := t.len; omega
      have e1 : dupE N i = 0 := by unfold dupE; rw [if_pos hx, hl, if_neg (by omega)]
      have e2 : dupD D N i = incR D N[i].1 := by rw [dupD_inc e1, getD_in hiL]
      have e3 : dupN N i = N.set j (N[i].1, false) := by unfold dupN; rw [if_pos e1, getD_in hiL, hl, show (j : Int).toNat = j by omega]
      have e4 : dupK N i = j := by unfold dupK; rw [if_pos e1, hl]
      rw [e1, e2, e3, e4]
      rw [hl, show decide ((0 : Int) ≤ (j : Int)) = true by simp] at hLs
      have hcell : ∀ V, Below w.heap.size w V → V.cell? ⟨b, i * 2, none⟩ = some (.int .i64 M[i].1) ∧ Calls Tryz.prog 78 #[wp f, wp b, .int .i64 (j : Int), .int .i64 M[i].1] V fun x w' => x = .returned (.tuple #[]) ∧ QGo w w' f (incR D N[i].1) g b (N.set j (N[i].1, false)) := fun V hV => by
        refine ⟨((t.below hV).tab.at hi).1, ((h.below hV).give_go (t.below hV) hj8 hk h0 he hc hc0 hc1).mono ?_⟩
        rintro x w' ⟨rfl, _, _, hG⟩
        exact ⟨rfl, hG.upon hV⟩
      generalize incR D N[i].1 = D2 at *
      generalize N.set j (N[i].1, false) = N2 at *
      generalize g.B N[i].1 = q at *
      generalize M[i].1 = X at *
      have hi8 : (i : Int) < 8 := by omega
      clear h t hC e1 e2 e3 e4 hl he hc hc0 hc1 hk h0 hx hj0 hs
      go_enter Tryz.func43, Tryz.ntmps43
      go_upto_region 7 with (first
        | (go_at_call 77; refine hF.mono ?_; rintro y w1 ⟨rfl, b1⟩)
        | (go_at_call 106; refine (hLs _ b1).mono ?_; rintro y w2 ⟨rfl, b2⟩))
      obtain ⟨c0, hGv⟩ := hcell _ b2
      clear hcell hLs hF
      go_wp2_with (go_at_call 78; refine hGv.mono ?_; rintro y w3 ⟨rfl, hG⟩)
      go_ret2
      exact ⟨rfl, hG⟩
  · have hx' : hasN N x = false := by simpa using hx
    have e1 : dupE N x = 7 := if_neg hx
    have e2 : dupD D N x = D := by unfold dupD; rw [if_neg (by rw [e1]; decide)]
    have e3 : dupN N x = N := by unfold dupN; rw [if_neg (by rw [e1]; decide)]
    have e4 : dupK N x = 0 := by unfold dupK; rw [if_neg (by rw [e1]; decide)]
    rw [e1, e2, e3, e4]
    have hF := h.find_no t x hx'
    clear h t hx hx' e1 e2 e3 e4 hC hLs
    go_enter Tryz.func43, Tryz.ntmps43
    go_wp2_with (go_at_call 77; refine hF.mono ?_; rintro y w1 ⟨rfl, b1⟩)
    go_ret2
    exact ⟨rfl, hs _ b1⟩
set_option maxRecDepth 100000 in
set_option maxHeartbeats 4000000 in
theorem QF.dup2_no (h : QF w f D g n) (t : QTb w b g M N) (x y : Int) (hx : hasN N x = false) : Calls Tryz.prog 83 #[wp f, wp b, .int .i64 x, .int .i64 y] w fun z w' => z = .returned (uer 7) ∧ QGo w w' f D g b N := by
  have hF := h.find_no t x hx
  have hs : ∀ w', Below w.heap.size w w' → QGo w w' f D g b N := fun w' hb => h.same t hb
  clear h t hx
  go_enter Tryz.func83, Tryz.ntmps83
  go_wp2_with (go_at_call 77; refine hF.mono ?_; rintro y w1 ⟨rfl, b1⟩)
  go_ret
  exact ⟨rfl, hs _ b1⟩
set_option maxRecDepth 100000 in
set_option maxHeartbeats 4000000 in
theorem QF.dup2_range (h : QF w f D g n) (t : QTb w b g M N) (x y : Int) (hx : hasN N x = true) (hy : ¬ (0 ≤ y ∧ y ≤ 7)) : Calls Tryz.prog 83 #[wp f, wp b, .int .i64 x, .int .i64 y] w fun z w' => z = .returned (uer 2) ∧ QGo w w' f D g b N := by
  obtain ⟨i, rfl, hi, hiL, h0⟩ := hasN_at hx t.len
  have hF := h.find_yes t hi hiL h0
  have hs : ∀ w', Below w.heap.size w w' → QGo w w' f D g b N := fun w' hb => h.same t hb
  generalize g.B N[i].1 = q at *
  clear h t hx h0
  by_cases hy0 : y < 0
  · clear hy
    go_enter Tryz.func83, Tryz.ntmps83
    go_wp2_with (go_at_call 77; refine hF.mono ?_; rintro y w1 ⟨rfl, b1⟩)
    go_ret
    exact ⟨rfl, hs _ b1⟩
  · have hy8 : 8 ≤ y := by omega
    clear hy
    go_enter Tryz.func83, Tryz.ntmps83
    go_wp2_with (go_at_call 77; refine hF.mono ?_; rintro y w1 ⟨rfl, b1⟩)
    go_ret
    exact ⟨rfl, hs _ b1⟩
set_option maxRecDepth 100000 in
set_option maxHeartbeats 4000000 in
theorem QF.dup2_same (h : QF w f D g n) (t : QTb w b g M N) (x : Int) (hx : hasN N x = true) : Calls Tryz.prog 83 #[wp f, wp b, .int .i64 x, .int .i64 x] w fun z w' => z = .returned .nilIface ∧ QGo w w' f D g b N := by
  obtain ⟨i, rfl, hi, hiL, h0⟩ := hasN_at hx t.len
  have hF := h.find_yes t hi hiL h0
  have hs : ∀ w', Below w.heap.size w w' → QGo w w' f D g b N := fun w' hb => h.same t hb
  generalize g.B N[i].1 = q at *
  clear h t hx h0
  have hi8 : (i : Int) < 8 := by omega
  go_enter Tryz.func83, Tryz.ntmps83
  go_wp2_with (go_at_call 77; refine hF.mono ?_; rintro y w1 ⟨rfl, b1⟩)
  go_ret
  exact ⟨rfl, hs _ b1⟩
set_option maxRecDepth 100000 in
set_option maxHeartbeats 4000000 in
theorem QF.dup2_go (h : QF w f D g n) (t : QTb w b g M N) {i j : Nat} (hi : i < 8) (hj : j < 8) (hiL : i < N.length) (hjL : j < N.length) (hne : i ≠ j) (h0 : 0 < N[i].1) (hC : Cnted D N) {D2 : DS}
    (hD2 : (N[j].1 = 0 ∧ D2 = incR D N[i].1) ∨ (0 < N[j].1 ∧ D2 = closeK (incR D N[i].1) N[j].1 ∧ (∃ e c, Cl (incR D N[i].1) N[j].1 e c))) (hl : Live D2 (N.set j (N[i].1, false))) :
    Calls Tryz.prog 83 #[wp f, wp b, .int .i64 (i : Int), .int .i64 (j : Int)] w fun z w' => z = .returned .nilIface ∧ QGo w w' f D2 g b (N.set j (N[i].1, false)) := by
  have hF := h.find_yes t hi hiL h0
  obtain ⟨e, c, he, hc, hc0, hc1⟩ := hC i hiL h0
  have hM : i < M.length := by have := t.tab.len; omega
  have hMj : j < M.length := by have := t.tab.len; omega
  have hk := t.keyOf hM hiL h0
  have hcell : ∀ V, Below w.heap.size w V → V.cell? ⟨b, i * 2, none⟩ = some (.int .i64 M[i].1) ∧ V.cell? ⟨b, j * 2, none⟩ = some (.int .i64 M[j].1) ∧ Calls Tryz.prog 78 #[wp f, wp b, .int .i64 (j : Int), .int .i64 M[i].1] V fun x w' => x = .returned (.tuple #[]) ∧ Calls Tryz.prog 131 #[wp f, .int .i64 M[j].1] w' fun y w2 => y = .returned (.tuple #[]) ∧ QGo w w2 f D2 g b (N.set j (N[i].1, false)) := fun V hV => by
    refine ⟨((t.below hV).tab.at hi).1, ((t.below hV).tab.at hj).1, ((h.below hV).give_go (t.below hV) hj hk h0 he hc hc0 hc1).mono ?_⟩
    rintro x w' ⟨rfl, a1, a2, hG⟩
    refine ⟨rfl, ?_⟩
    rcases hD2 with ⟨z0, rfl⟩ | ⟨z0, rfl, e2, c2, hcl⟩
    · have hz := (t.pos h j hMj hjL).2.2 z0
      rw [hz]
      refine a1.leave_none.mono ?_
      rintro y w2 ⟨rfl, rfl⟩
      exact ⟨rfl, hG.upon hV⟩
    · refine (a1.leave_ok (t.keyOf hMj hjL z0) hcl).mono ?_
      rintro y w2 ⟨rfl, ⟨g', n', b1, b2⟩, wt2⟩
      have hsz := hG.wt.size
      have hsV := hV.size
      refine ⟨rfl, ⟨⟨g', n', _, b1, a2.other b2 (wt2.block b a2.tab.lt (by rw [t.off]; simp)) hl, ⟨fun x hx => b2.kap x (by omega), b2.key, b2.r⟩⟩, (Wt.below _ hV).trans (hG.wt.trans (wt2.mono (fun x hx => .inl hx)))⟩⟩
  generalize N.set j (N[i].1, false) = N2 at *
  generalize g.B N[i].1 = q at *
  generalize M[i].1 = X at *
  generalize M[j].1 = Y at *
  have hi8 : (i : Int) < 8 := by omega
  have hj8 : (j : Int) < 8 := by omega
  have hij : ((i : Int) == (j : Int)) = false := by simp; omega
  clear h t hC hD2 hl he hc hc0 hc1 hk h0 hne
  go_enter Tryz.func83, Tryz.ntmps83
  go_upto_region 8 with (go_at_call 77; refine hF.mono ?_; rintro y w1 ⟨rfl, b1⟩)
  obtain ⟨c0, c1, hGv⟩ := hcell _ b1
  clear hcell hF
  go_wp2_with (first
    | (go_at_call 78; refine hGv.mono ?_; rintro y w3 ⟨rfl, hLv⟩)
    | (go_at_call 131; refine hLv.mono ?_; rintro y w4 ⟨rfl, hG⟩))
  go_ret
  exact ⟨rfl, hG⟩
end
end Go.Proofs.YtjkneekfijibiabGreatDoor
