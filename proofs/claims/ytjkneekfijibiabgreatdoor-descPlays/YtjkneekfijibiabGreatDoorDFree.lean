/- What holds of all tables and of all that is open: each call keeps it. -/
import Derived.Test.YtjkneekfijibiabGreatDoorDInv
import Derived.Test.YtjkneekfijibiabGreatDoorUAddT
import Derived.Test.YtjkneekfijibiabGreatDoorDNew
import Derived.Deep.WholeRow
import Derived.Deep.MidRow
namespace Go.Proofs.YtjkneekfijibiabGreatDoor
open Go.RowKit Go.Maps

/-- So it stands with all tables. -/
structure Inv (D : DS) (Ts : List Ns) (k : Nat) : Prop where
  core : InvC D (fun d => cntS d Ts) k
  tab : ∀ N ∈ Ts, N.length = 8 ∧ ∀ x ∈ N, 0 ≤ x.1 ∧ (x.1 = 0 → x.2 = false)
  few : Ts.length ≤ 8
/-- A number of the table is of an ENTRY with a count. -/
def Cnted (D : DS) (N : Ns) : Prop := ∀ i (hi : i < N.length), 0 < N[i].1 → ∃ e c, D.E N[i].1 = some e ∧ D.R N[i].1 = some c ∧ 0 ≤ c ∧ c < 100000
section
variable {D : DS} {Ts : List Ns} {k j i : Nat} {d : Int} {e : En}
theorem Cnted.live {N : Ns} (h : Cnted D N) : Live D N := fun i hi h0 => by
  obtain ⟨e, c, h1, _⟩ := h i hi h0
  rw [h1]; rfl
theorem Inv.more (h : Inv D Ts k) {k' : Nat} (hk : k ≤ k') : Inv D Ts k' := ⟨h.core.more hk, h.tab, h.few⟩
theorem Inv.len (h : Inv D Ts k) (hj : j < Ts.length) : Ts[j].length = 8 := (h.tab _ (List.getElem_mem hj)).1
theorem Inv.few64 (h : Inv D Ts k) (d : Int) : cntS d Ts ≤ 64 := by
  have := cntS_le d Ts (fun N hN => (h.tab N hN).1)
  have := h.few
  omega
theorem Inv.cl (h : Inv D Ts k) (hj : j < Ts.length) (hi : i < Ts[j].length) (h0 : 0 < Ts[j][i].1) : ∃ e, Cl D Ts[j][i].1 e (cntS Ts[j][i].1 Ts) :=
  h.core.cl h0 (cntS_pos hj hi) (by have := h.few64 Ts[j][i].1; omega)
theorem Inv.cnted (h : Inv D Ts k) (hj : j < Ts.length) : Cnted D Ts[j] := fun i hi h0 => by
  obtain ⟨e, c⟩ := h.cl hj hi h0
  exact ⟨e, _, c.ent, c.cnt, by omega, c.c1⟩
theorem Inv.live (h : Inv D Ts k) (hj : j < Ts.length) : Live D Ts[j] := (h.cnted hj).live
theorem tab_set {P : Ns → Prop} {N' : Ns} (h : ∀ N ∈ Ts, P N) (hN : P N') : ∀ N ∈ Ts.set j N', P N := fun N hm => by
  rcases List.mem_or_eq_of_mem_set hm with h1 | h1
  · exact h N h1
  · rw [h1]; exact hN
theorem row_set {N : Ns} (h : N.length = 8 ∧ ∀ x ∈ N, 0 ≤ x.1 ∧ (x.1 = 0 → x.2 = false)) (y : Int × Bool) (hy : 0 ≤ y.1 ∧ (y.1 = 0 → y.2 = false)) : (N.set i y).length = 8 ∧ ∀ x ∈ N.set i y, 0 ≤ x.1 ∧ (x.1 = 0 → x.2 = false) := by
  refine ⟨by rw [List.length_set]; exact h.1, fun x hx => ?_⟩
  rcases List.mem_or_eq_of_mem_set hx with h1 | h1
  · exact h.2 x h1
  · rw [h1]; exact hy
theorem Inv.close (h : Inv D Ts k) (hk : k ≤ 900) (hj : j < Ts.length) (hi : i < Ts[j].length) (h0 : 0 < Ts[j][i].1) : Inv (closeK D Ts[j][i].1) (Ts.set j (Ts[j].set i (0, false))) k := by
  have hb := h.few64 Ts[j][i].1
  refine ⟨(h.core.close hk h0 (cntS_pos hj hi) (by omega)).congr (fun x hx => ?_), tab_set h.tab (row_set (h.tab _ (List.getElem_mem hj)) _ ⟨by simp, fun _ => rfl⟩), by rw [List.length_set]; exact h.few⟩
  have ht := cnt_turn hj hi x (0, false)
  have hp := cntS_pos hj hi
  simp only at ht ⊢
  rw [if_neg (show ¬ (0 : Int) = x by omega)] at ht
  by_cases e1 : x = Ts[j][i].1
  · rw [if_pos e1]
    rw [if_pos e1.symm] at ht
    rw [← e1]
    omega
  · rw [if_neg e1]
    rw [if_neg (fun z => e1 z.symm)] at ht
    omega
/-- One number more, at a free place. -/
theorem Inv.dup (h : Inv D Ts k) (hj : j < Ts.length) (hi : i < Ts[j].length) (h0 : Ts[j][i].1 = 0) (hd : 0 < d) (hc : 0 < cntS d Ts) (c : Bool) : Inv (incR D d) (Ts.set j (Ts[j].set i (d, c))) k := by
  refine ⟨(h.core.inc hd hc).congr (fun x hx => ?_), tab_set h.tab (row_set (h.tab _ (List.getElem_mem hj)) _ ⟨by simp; omega, fun z => by simp at z; omega⟩), by rw [List.length_set]; exact h.few⟩
  have ht := cnt_turn hj hi x (d, c)
  simp only at ht ⊢
  rw [h0, if_neg (show ¬ (0 : Int) = x by omega)] at ht
  by_cases e1 : x = d
  · subst e1
    rw [if_pos rfl] at ht ⊢
    omega
  · rw [if_neg e1]
    rw [if_neg (fun z => e1 z.symm)] at ht
    omega
/-- Dup2 onto what is another one's. -/
theorem Inv.dup2 (h : Inv D Ts k) (hk : k ≤ 900) (hj : j < Ts.length) (hi : i < Ts[j].length) (h0 : 0 < Ts[j][i].1) (hd : 0 < d) (hc : 0 < cntS d Ts) : Inv (closeK (incR D d) Ts[j][i].1) (Ts.set j (Ts[j].set i (d, false))) k ∧ ∃ e c, Cl (incR D d) Ts[j][i].1 e c := by
  have h1 := h.core.inc hd hc
  have hp := cntS_pos hj hi
  have hb := h.few64 Ts[j][i].1
  have hb2 : (if Ts[j][i].1 = d then cntS d Ts + 1 else cntS Ts[j][i].1 Ts) < 100000 := by
    by_cases e1 : Ts[j][i].1 = d
    · rw [if_pos e1, ← e1]; omega
    · rw [if_neg e1]; omega
  have hp2 : 0 < (if Ts[j][i].1 = d then cntS d Ts + 1 else cntS Ts[j][i].1 Ts) := by
    by_cases e1 : Ts[j][i].1 = d
    · rw [if_pos e1]; omega
    · rw [if_neg e1]; omega
  obtain ⟨e, cl⟩ := h1.cl h0 hp2 hb2
  refine ⟨⟨(h1.close hk h0 hp2 hb2).congr (fun x hx => ?_), tab_set h.tab (row_set (h.tab _ (List.getElem_mem hj)) _ ⟨by simp; omega, fun z => by simp at z; omega⟩), by rw [List.length_set]; exact h.few⟩, e, _, cl⟩
  have ht := cnt_turn hj hi x (d, false)
  simp only at ht ⊢
  by_cases e1 : x = Ts[j][i].1
  · rw [if_pos e1]
    rw [if_pos e1.symm] at ht
    rw [← e1]
    by_cases e2 : x = d
    · subst e2
      rw [if_pos rfl] at ht ⊢
      omega
    · rw [if_neg e2]
      rw [if_neg (fun z => e2 z.symm)] at ht
      omega
  · rw [if_neg e1]
    rw [if_neg (fun z => e1 z.symm)] at ht
    by_cases e2 : x = d
    · subst e2
      rw [if_pos rfl] at ht ⊢
      omega
    · rw [if_neg e2]
      rw [if_neg (fun z => e2 z.symm)] at ht
      omega
theorem Inv.mark (h : Inv D Ts k) (hj : j < Ts.length) (x : Int) (c : Bool) : Inv D (Ts.set j (markN Ts[j] x c)) k := by
  unfold markN
  split
  · rename_i hx
    obtain ⟨i, rfl, hi, hiL, h0⟩ := hasN_at hx (h.len hj)
    rw [getD_in hiL, show (i : Int).toNat = i by omega]
    refine ⟨h.core.congr (fun x hx => ?_), tab_set h.tab (row_set (h.tab _ (List.getElem_mem hj)) _ ⟨by simp; omega, fun z => by simp at z; omega⟩), by rw [List.length_set]; exact h.few⟩
    have ht := cnt_turn hj hiL x (Ts[j][i].1, c)
    simp only at ht ⊢
    omega
  · rw [List.set_getElem_self]; exact h
/-- An ENTRY's own turn. -/
theorem Inv.putE (h : Inv D Ts k) (he : D.E d = some e) {e' : En} (hok : EnOk D e') : Inv { D with E := fun i => if i = d then some e' else D.E i } Ts k := by
  have hs : ∀ x, (if x = d then some e' else D.E x).isSome = (D.E x).isSome := fun x => by
    by_cases e1 : x = d
    · rw [if_pos e1, e1, he]; rfl
    · rw [if_neg e1]
  refine ⟨⟨⟨h.core.giv.n0, h.core.giv.n1, fun x hx => h.core.giv.e x (by rw [← hs]; exact hx), h.core.giv.r, h.core.giv.p⟩, h.core.lv, h.core.sm, fun x ex hx => ?_, fun x hx => by show (if x = d then some e' else D.E x).isSome = true ↔ _; rw [hs]; exact h.core.cE x hx, h.core.cR⟩, h.tab, h.few⟩
  have hx' : (if x = d then some e' else D.E x) = some ex := hx
  by_cases e1 : x = d
  · rw [if_pos e1] at hx'
    obtain rfl := Option.some.inj hx'
    exact hok.same (Int.le_refl _) rfl
  · rw [if_neg e1] at hx'
    exact (h.core.ent x ex hx').same (Int.le_refl _) rfl
/-- A pipe's own turn. -/
theorem Inv.putP (h : Inv D Ts k) {p : Int} {x y : Pi} (hp : D.P p = some x) (hy : y.1.length ≤ 16 ∧ 0 ≤ y.2.1 ∧ y.2.1 < 1000 ∧ 0 ≤ y.2.2 ∧ y.2.2 < 1000) : Inv { D with P := fun i => if i = p then some y else D.P i } Ts k := by
  refine ⟨⟨⟨h.core.giv.n0, h.core.giv.n1, h.core.giv.e, h.core.giv.r, fun q hq => ?_⟩, h.core.lv, h.core.sm, fun q ex hx => (h.core.ent q ex hx).keep (Int.le_refl _) (fun r z a b c d e f => ?_), h.core.cE, h.core.cR⟩, h.tab, h.few⟩
  · have hq' : (if q = p then some y else D.P q).isSome = true := hq
    by_cases e1 : q = p
    · rw [e1]; exact h.core.giv.p p (by rw [hp]; rfl)
    · rw [if_neg e1] at hq'; exact h.core.giv.p q hq'
  · by_cases e1 : r = p
    · exact ⟨y, if_pos e1, hy⟩
    · exact ⟨z, (if_neg e1).trans a, b, c, d, e, f⟩
/-- The tree's own turn. -/
theorem Inv.putT (h : Inv D Ts k) {T' : Wd} {k' : Nat} (hT : TrLv T') (hs : Sm k' T') : Inv { D with T := T' } Ts k' :=
  ⟨⟨⟨h.core.giv.n0, h.core.giv.n1, h.core.giv.e, h.core.giv.r, h.core.giv.p⟩, hT, hs, fun q ex hx => (h.core.ent q ex hx).same (Int.le_refl _) rfl, h.core.cE, h.core.cR⟩, h.tab, h.few⟩
theorem Inv.unlink (h : Inv D Ts k) (p : List UInt8) : Inv { D with T := unlinkN D.T p } Ts (k + 1) := h.putT (h.core.lv.unlink p) (h.core.sm.unlink p)
/-- A new ENTRY, for a free number. -/
theorem Inv.add (h : Inv D Ts k) (hn : D.nx < 899) (hj : j < Ts.length) (hl : ¬ leastN Ts[j] < 0) (hok : EnOk (addD D e) e) : Inv (addD D e) (Ts.set j (addN D Ts[j])) k := by
  have g := h.core.giv
  obtain ⟨n1, n2, n3⟩ := g.new
  rcases least_lt (N := Ts[j]) with hx9 | ⟨i, hi, hiL, hi0⟩
  · omega
  have hN : addN D Ts[j] = Ts[j].set i (D.nx + 1, false) := by unfold addN; rw [hi, show (i : Int).toNat = i by omega]
  have h0 := g.n0
  have hz : cntS (D.nx + 1) Ts = 0 := by
    have := h.core.cE (D.nx + 1) (by omega)
    rw [n1] at this
    simp at this
    exact this
  rw [hN]
  have hcnt : ∀ x, 0 < x → cntS x (Ts.set j (Ts[j].set i (D.nx + 1, false))) = if x = D.nx + 1 then 1 else cntS x Ts := fun x hx => by
    have ht := cnt_turn hj hiL x (D.nx + 1, false)
    simp only at ht
    rw [hi0, if_neg (show ¬ (0 : Int) = x by omega)] at ht
    by_cases e1 : x = D.nx + 1
    · rw [if_pos e1]
      rw [if_pos e1.symm, e1, hz] at ht
      rw [e1]; omega
    · rw [if_neg e1]
      rw [if_neg (fun z => e1 z.symm)] at ht
      omega
  refine ⟨⟨g.add hn e, h.core.lv, h.core.sm, fun x ex hx => ?_, fun x hx => ?_, fun x hx => ?_⟩, tab_set h.tab (row_set (h.tab _ (List.getElem_mem hj)) _ ⟨by simp; omega, fun z => by simp at z; omega⟩), by rw [List.length_set]; exact h.few⟩
  · have hx' : (if x = D.nx + 1 then some e else D.E x) = some ex := hx
    by_cases e1 : x = D.nx + 1
    · rw [if_pos e1] at hx'
      obtain rfl := Option.some.inj hx'
      exact hok
    · rw [if_neg e1] at hx'
      exact (h.core.ent x ex hx').same (by show D.nx ≤ D.nx + 1; omega) rfl
  · show (if x = D.nx + 1 then some e else D.E x).isSome = true ↔ _
    rw [hcnt x hx]
    by_cases e1 : x = D.nx + 1
    · rw [if_pos e1, if_pos e1]; simp
    · rw [if_neg e1, if_neg e1]; exact h.core.cE x hx
  · show (if x = D.nx + 1 then some 1 else D.R x) = _
    rw [hcnt x hx]
    by_cases e1 : x = D.nx + 1
    · simp [e1]
    · rw [if_neg e1, if_neg e1, h.core.cR x hx]
theorem getT_set {Ts : List Ns} {j : Nat} (_ : j < Ts.length) (N' : Ns) (h : j < (Ts.set j N').length) : (Ts.set j N')[j] = N' := List.getElem_set_self h
theorem set_setT (Ts : List Ns) (j : Nat) (a b : Ns) : (Ts.set j a).set j b = Ts.set j b := List.set_set _
theorem Inv.setSelf (h : Inv D Ts k) (hj : j < Ts.length) : Inv D (Ts.set j Ts[j]) k := by rw [List.set_getElem_self]; exact h
/-- File keeps it. -/
theorem Inv.file {n s : Nat} {p : List UInt8} {pr : Int} {mk : Bool} {x c : Int} {D' : DS} {N' : Ns} (h : Inv D Ts k) (hk : k ≤ 890) (hn : D.nx < 899) (hj : j < Ts.length) (hs : IsNum D.T s) (hF : FileO D Ts[j] n s p pr mk x c D' N') : Inv D' (Ts.set j N') (k + 2) := by
  have hlv := h.core.lv
  have hadd : ∀ T' nd, TrLv T' → Sm (k + 2) T' → 1 ≤ pr ∧ pr ≤ 3 → 0 ≤ nd → nd < 1000 → roomy Ts[j] n → Inv (addD { D with T := T' } ⟨1, pr, nd, 0, 0⟩) (Ts.set j (addN D Ts[j])) (k + 2) := fun T' nd hT' hS' hp h0 h1 hr =>
    (h.putT (T' := T') hT' hS').add (D := { D with T := T' }) (e := ⟨1, pr, nd, 0, 0⟩) hn hj hr.1 ⟨.inl rfl, fun _ => ⟨hp.1, hp.2, h0, h1, by simp, by simp⟩, fun z => by simp at z, fun z => by simp at z, fun z => absurd rfl z⟩
  cases hF with
  | opened hp hr hE hh =>
    have hkey := hlv.key _ (findT_some hlv.toTrOk hE)
    exact hadd _ _ (hlv.hold _ (.inl rfl) (fun b x hx => by have := (h.core.sm.2 _ b x hx).1; omega)) ((h.core.sm.hold _ 1 (by omega)).more (by omega)) hp hkey.1 (by omega) hr
  | made hp hr hE hm hM z hz =>
    have hz64 : z < 64 := by
      have hmh := made_hold hlv.toTrOk hM hz
      have hs60 := (makeE_zero hlv.toTrOk hM).2.2.2
      have h9 := hs.free (k := z.toNat) (fun i hi => hz.least i (by omega) (by have := hz.pos; omega))
      have := hz.pos
      omega
    have hlv1 := hlv.make hM hz hz64 false
    have hmh := made_hold hlv.toTrOk hM hz
    exact hadd _ _ (hlv1.hold _ (.inl rfl) (fun b x hx => by have := hmh.2 b x hx; omega)) ((h.core.sm.make p false z).hold _ 1 (by omega)) hp hz.pos (by omega) hr
  | _ => exact (h.setSelf hj).more (by omega)
end
end Go.Proofs.YtjkneekfijibiabGreatDoor

namespace Go.Proofs.YtjkneekfijibiabGreatDoor
open Go.RowKit Go.Maps

/-- A table that is forked: all its numbers are doubled. -/
def forkD (D : DS) (N : Ns) : DS := N.foldl (fun D x => if 0 < x.1 then incR D x.1 else D) D
/-- Numbers freed, so many looked at: all, or those that are MARKED. -/
noncomputable def freeS (all : Bool) (D : DS) (N : Ns) : Nat → DS × Ns
  | 0 => (D, N)
  | i + 1 => if 0 < (N.getD i (0, false)).1 ∧ (all = true ∨ (N.getD i (0, false)).2 = true) then (closeK (freeS all D N i).1 (N.getD i (0, false)).1, (freeS all D N i).2.set i (0, false)) else freeS all D N i
section
variable {D : DS} {Ts : List Ns} {k j i : Nat} {d : Int} {e : En}
theorem Inv.seek (h : Inv D Ts k) (hj : j < Ts.length) (x a : Int) : Inv (seekD D Ts[j] x a) Ts k := by
  unfold seekD
  split
  · rename_i hz
    unfold seekE at hz
    split at hz
    · cases he : D.E (Ts[j].getD x.toNat (0, false)).1 with
      | none => exact h
      | some e =>
        rw [he] at hz
        simp only at hz ⊢
        have hok := h.core.ent _ e he
        by_cases hk : e.kind = 1
        · rw [if_neg (fun z => z hk)] at hz
          by_cases ha : 0 ≤ a ∧ a ≤ 200
          · refine h.putE he ⟨hok.kind, fun hk => ?_, hok.frm, hok.into, hok.pipe⟩
            have := hok.file hk
            exact ⟨this.1, this.2.1, this.2.2.1, this.2.2.2.1, ha.1, ha.2⟩
          · rw [if_neg ha] at hz; omega
        · rw [if_pos hk] at hz; omega
    · omega
  · exact h
theorem readS_end {T : Wd} {x a c : Int} (hs : Sm k T) (h0 : 0 ≤ a) (h1 : a ≤ 200) : a + (readS T x a c).length ≤ 200 := by
  unfold readS
  split
  · rename_i b y e
    have := (hs.2 x b y e).2
    split
    · simp; omega
    · rw [List.length_take, List.length_drop]; omega
  · simp; omega
theorem Inv.read (h : Inv D Ts k) (hj : j < Ts.length) (x a : Int) : Inv (readO D Ts[j] x a).2.2 Ts k := by
  unfold readO
  split
  · split
    · exact h
    · rename_i e he
      have hok := h.core.ent _ e he
      split
      · exact h
      · split
        · rename_i hk
          refine h.putE he ⟨hok.kind, fun hk => ?_, hok.frm, hok.into, hok.pipe⟩
          obtain ⟨a1, a2, a3, a4, a5, a6⟩ := hok.file hk
          have := readS_end (x := e.node) (c := a) h.core.sm a5 a6
          exact ⟨a1, a2, a3, a4, by simp only; omega, this⟩
        · rename_i hk
          obtain ⟨a1, a2, p, a3, a4, a5, a6, a7, a8⟩ := hok.pipe hk
          rw [a3]
          exact h.putP a3 ⟨by simp; omega, a5, a6, a7, a8⟩
  · exact h
theorem writeE_len {T : Wd} {x a : Int} {s : List UInt8} (h : writeE T x a s = 0) : a + s.length ≤ 200 := by
  unfold writeE at h
  split at h
  · omega
  · split at h
    · omega
    · split at h
      · omega
      · omega
theorem Inv.write (h : Inv D Ts k) (hj : j < Ts.length) (x : Int) (s : List UInt8) (a : Int) : Inv (writeO D Ts[j] x s a).2.2 Ts (k + 1) := by
  have h1 := h.more (Nat.le_succ k)
  unfold writeO
  split
  · split
    · exact h1
    · rename_i e he
      have hok := h.core.ent _ e he
      split
      · exact h1
      · split
        · rename_i hk
          split
          · exact h1
          · split
            · exact h1
            · rename_i hE
              have hE' : writeE D.T e.node e.pos s = 0 := by omega
              have h2 := h.putT (h.core.lv.write e.node e.pos s) (h.core.sm.write e.node e.pos s)
              refine h2.putE (D := { D with T := writeN D.T e.node e.pos s }) he ⟨hok.kind, fun hk => ?_, hok.frm, hok.into, hok.pipe⟩
              obtain ⟨a1, a2, a3, a4, a5, a6⟩ := hok.file hk
              have := writeE_len hE'
              exact ⟨a1, a2, a3, a4, by simp only; omega, this⟩
        · rename_i hk
          obtain ⟨a1, a2, p, a3, a4, a5, a6, a7, a8⟩ := hok.pipe hk
          rw [a3]
          exact h1.putP a3 ⟨wrB_len _ _ _ a4, a5, a6, a7, a8⟩
  · exact h1
theorem Inv.dupO (h : Inv D Ts k) (hj : j < Ts.length) (x : Int) : Inv (dupD D Ts[j] x) (Ts.set j (dupN Ts[j] x)) k := by
  by_cases hz : dupE Ts[j] x = 0
  · have hx : hasN Ts[j] x = true := by
      unfold dupE at hz
      by_cases e1 : hasN Ts[j] x = true
      · exact e1
      · rw [if_neg e1] at hz; omega
    obtain ⟨i, rfl, hi, hiL, h0⟩ := hasN_at hx (h.len hj)
    unfold dupE at hz
    rw [if_pos hx] at hz
    rcases least_lt (N := Ts[j]) with hl | ⟨y, hl, hyL, hy0⟩
    · rw [hl] at hz; simp at hz
    have e0 : dupE Ts[j] i = 0 := by unfold dupE; rw [if_pos hx]; exact hz
    have e1 : dupD D Ts[j] i = incR D Ts[j][i].1 := by unfold dupD; rw [if_pos e0, getD_in hiL]; rfl
    have e2 : dupN Ts[j] i = Ts[j].set y (Ts[j][i].1, false) := by unfold dupN; rw [if_pos e0, getD_in hiL, hl, show (y : Int).toNat = y by omega]
    rw [e1, e2]
    exact h.dup hj hyL hy0 h0 (cntS_pos hj hiL) false
  · rw [show dupD D Ts[j] x = D from if_neg hz, show dupN Ts[j] x = Ts[j] from if_neg hz]
    exact h.setSelf hj
/-- A new pipe, and its two ends. -/
theorem Inv.pipe (h : Inv D Ts k) (hn : D.nx < 890) (hj : j < Ts.length) (hl1 : ¬ leastN Ts[j] < 0) (hl2 : ¬ leastN (pipeN1 D Ts[j]) < 0) : Inv (pipeD D) (Ts.set j (pipeN D Ts[j])) k := by
  have g := h.core.giv
  obtain ⟨n1, n2, n3⟩ := g.new
  have g0 := g.n0
  have hz : cntS (D.nx + 1) Ts = 0 := by
    have := h.core.cE (D.nx + 1) (by omega)
    rw [n1] at this
    simp at this
    exact this
  have h0 : Inv (pipeD0 D) Ts k := by
    refine ⟨⟨g.pipe0 (by omega), h.core.lv, h.core.sm, fun x ex hx => (h.core.ent x ex hx).keep (by show D.nx ≤ D.nx + 1; omega) (fun p y a b c d e f => ?_), h.core.cE, h.core.cR⟩, h.tab, h.few⟩
    have : p ≠ D.nx + 1 := fun e => by rw [e, n3] at a; cases a
    exact ⟨y, (if_neg this).trans a, b, c, d, e, f⟩
  have hP0 : (pipeD0 D).P (D.nx + 1) = some ([], 1, 1) := if_pos rfl
  have h1 : Inv (pipeD1 D) (Ts.set j (pipeN1 D Ts[j])) k := h0.add (D := pipeD0 D) (e := ⟨2, 1, 0, D.nx + 1, 0⟩) (by show D.nx + 1 < 899; omega) hj hl1 ⟨.inr (.inl rfl), fun z => by simp at z, fun _ => rfl, fun z => by simp at z, fun _ => ⟨by simp only; omega, by show D.nx + 1 ≤ D.nx + 1 + 1; omega, _, hP0, by simp, by simp, by simp, by simp, by simp⟩⟩
  have hj1 : j < (Ts.set j (pipeN1 D Ts[j])).length := by rw [List.length_set]; exact hj
  have hg1 := getT_set hj (pipeN1 D Ts[j]) hj1
  have h2 := h1.add (D := pipeD1 D) (j := j) (e := ⟨3, 2, 0, D.nx + 1, 0⟩) (by show D.nx + 1 + 1 < 899; omega) hj1 (by rw [hg1]; exact hl2) ⟨.inr (.inr rfl), fun z => by simp at z, fun z => by simp at z, fun _ => rfl, fun _ => ⟨by simp only; omega, by show D.nx + 1 ≤ D.nx + 1 + 1 + 1; omega, _, hP0, by simp, by simp, by simp, by simp, by simp⟩⟩
  rw [hg1, set_setT] at h2
  exact h2
theorem InvC.fork : ∀ (l : Ns) {D : DS} {C : Int → Nat}, InvC D C k → (∀ x ∈ l, 0 < x.1 → 0 < C x.1) → InvC (forkD D l) (fun d => C d + cntN d l) k
  | [], D, C, h, _ => h.congr (fun d _ => by simp [cntN])
  | x :: l, D, C, h, hl => by
    unfold forkD
    rw [List.foldl_cons]
    by_cases hx : 0 < x.1
    · rw [if_pos hx]
      refine (InvC.fork l (h.inc hx (hl x List.mem_cons_self hx)) (fun y hy h0 => ?_)).congr (fun d hd => ?_)
      · show 0 < (if y.1 = x.1 then C x.1 + 1 else C y.1)
        split
        · omega
        · exact hl y (List.mem_cons_of_mem _ hy) h0
      · simp only [cntN, List.filter_cons]
        by_cases e1 : d = x.1
        · simp [e1]; omega
        · simp [e1, Ne.symm e1]
    · rw [if_neg hx]
      refine (InvC.fork l h (fun y hy h0 => hl y (List.mem_cons_of_mem _ hy) h0)).congr (fun d hd => ?_)
      simp only [cntN, List.filter_cons]
      rw [if_neg (by simp; omega)]
theorem Inv.fork (h : Inv D Ts k) (hf : Ts.length < 8) (hj : j < Ts.length) : Inv (forkD D Ts[j]) (Ts ++ [Ts[j]]) k := by
  refine ⟨(InvC.fork Ts[j] h.core (fun x hx h0 => ?_)).congr (fun d hd => ?_), fun N hN => ?_, by rw [List.length_append]; simp; omega⟩
  · obtain ⟨i, hi, rfl⟩ := List.getElem_of_mem hx
    exact cntS_pos hj hi
  · simp [cntS]
  · rcases List.mem_append.1 hN with h1 | h1
    · exact h.tab N h1
    · rw [List.mem_singleton.1 h1]; exact h.tab _ (List.getElem_mem hj)
theorem freeS_tab (all : Bool) (D : DS) (N : Ns) : ∀ i, (freeS all D N i).2.length = N.length ∧ ∀ x, i ≤ x → (freeS all D N i).2[x]? = N[x]?
  | 0 => ⟨rfl, fun _ _ => rfl⟩
  | i + 1 => by
    obtain ⟨h1, h2⟩ := freeS_tab all D N i
    rw [freeS]
    split
    · refine ⟨by simp only [List.length_set]; exact h1, fun x hx => ?_⟩
      simp only
      rw [List.getElem?_set_ne (by omega)]
      exact h2 x (by omega)
    · exact ⟨h1, fun x hx => h2 x (by omega)⟩
theorem freeS_at {all : Bool} {N : Ns} {i : Nat} (hi : i < N.length) (h : i < (freeS all D N i).2.length) : (freeS all D N i).2[i] = N[i] := by
  have := (freeS_tab all D N i).2 i (Nat.le_refl _)
  rw [List.getElem?_eq_getElem h, List.getElem?_eq_getElem hi] at this
  exact Option.some.inj this
theorem Inv.free (h : Inv D Ts k) (hk : k ≤ 900) (hj : j < Ts.length) (all : Bool) : ∀ i, i ≤ 8 → Inv (freeS all D Ts[j] i).1 (Ts.set j (freeS all D Ts[j] i).2) k
  | 0, _ => h.setSelf hj
  | i + 1, hi => by
    have ih := Inv.free h hk hj all i (by omega)
    rw [freeS]
    split
    · rename_i hc
      have hiN : i < Ts[j].length := by rw [h.len hj]; omega
      have hiF : i < (freeS all D Ts[j] i).2.length := by rw [(freeS_tab all D Ts[j] i).1]; exact hiN
      have hj1 : j < (Ts.set j (freeS all D Ts[j] i).2).length := by rw [List.length_set]; exact hj
      have hg1 := getT_set hj (freeS all D Ts[j] i).2 hj1
      have hgi : (Ts.set j (freeS all D Ts[j] i).2)[j][i]'(by rw [hg1]; exact hiF) = Ts[j][i] := by
        simp only [hg1]
        exact freeS_at hiN hiF
      have hD : Ts[j].getD i (0, false) = Ts[j][i] := by rw [List.getD_eq_getElem?_getD, List.getElem?_eq_getElem hiN]; rfl
      rw [hD] at hc ⊢
      have h2 := ih.close hk hj1 (i := i) (by rw [hg1]; exact hiF) (by rw [hgi]; exact hc.1)
      rw [hgi, hg1, set_setT] at h2
      exact h2
    · exact ih
end
end Go.Proofs.YtjkneekfijibiabGreatDoor

namespace Go.Proofs.YtjkneekfijibiabGreatDoor
open Go.RowKit Go.Maps

theorem wpList_store_run {P : Program} {ops : Array Oper} {rest : List Oper} {op : Oper} {a : Act} {w : World} {Q : Exit → Act → World → Prop} (hgd : op.guard = none) (ty : TypeId) (x y : Operand) (ho : op.op = .store ty x y) (v u : Value) (hx : a.eval x = v) (hy : a.eval y = u) (w' : World) (hr : (Instr.storeAt ty v u).run P w = .ok () w')
    (h : wpList P ops Q rest (a.put op.dst undef) w') : wpList P ops Q (op :: rest) a w :=
  wpList_plain hgd fun _ hK => by
    unfold Oper.wp execOp
    simp only [ho, hx, hy, Sem.run_bind, hr, Sem.run_pure, Result.andThen_ok]
    exact hK _ _ h
theorem wpList_load_run {P : Program} {ops : Array Oper} {rest : List Oper} {op : Oper} {a : Act} {w : World} {Q : Exit → Act → World → Prop} (hgd : op.guard = none) (ty : TypeId) (x : Operand) (ho : op.op = .load ty x) (v u : Value) (hx : a.eval x = v) (hr : (Instr.loadAt ty v).run P w = .ok u w)
    (h : wpList P ops Q rest (a.put op.dst u) w) : wpList P ops Q (op :: rest) a w :=
  wpList_plain hgd fun _ hK => by
    unfold Oper.wp execOp
    simp only [ho, hx, Sem.run_bind, hr, Sem.run_pure, Result.andThen_ok]
    exact hK _ _ h
theorem fork_takeR {D : DS} {N : Ns} {i : Nat} (hi : i < N.length) : forkD D (N.take (i + 1)) = if 0 < N[i].1 then incR (forkD D (N.take i)) N[i].1 else forkD D (N.take i) := by
  unfold forkD
  rw [List.take_succ_eq_append_getElem hi, List.foldl_append]
  rfl
theorem fork_T (D : DS) : ∀ l : Ns, (forkD D l).T = D.T
  | [] => rfl
  | x :: l => by
    unfold forkD
    rw [List.foldl_cons]
    have h := fork_T (if 0 < x.1 then incR D x.1 else D) l
    unfold forkD at h
    rw [h]
    split <;> rfl
theorem nv_one (N : Ns) : (nv N).toArray.all (·.oneCell') = true := by
  rw [List.all_toArray, List.all_eq_true]
  intro v hv
  unfold nv at hv
  obtain ⟨x, _, hx⟩ := List.mem_flatMap.1 hv
  simp at hx
  rcases hx with rfl | rfl <;> rfl
theorem nvx0 (a b c d e f g h : Int × Bool) (w : World) : (Instr.index 75 (.agg #[.int .i64 a.1, .bool a.2, .int .i64 b.1, .bool b.2, .int .i64 c.1, .bool c.2, .int .i64 d.1, .bool d.2, .int .i64 e.1, .bool e.2, .int .i64 f.1, .bool f.2, .int .i64 g.1, .bool g.2, .int .i64 h.1, .bool h.2]) (.int .i64 0)).run Tryz.prog w = .ok (.agg #[.int .i64 a.1, .bool a.2]) w := by kernel_rfl
theorem nvx1 (a b c d e f g h : Int × Bool) (w : World) : (Instr.index 75 (.agg #[.int .i64 a.1, .bool a.2, .int .i64 b.1, .bool b.2, .int .i64 c.1, .bool c.2, .int .i64 d.1, .bool d.2, .int .i64 e.1, .bool e.2, .int .i64 f.1, .bool f.2, .int .i64 g.1, .bool g.2, .int .i64 h.1, .bool h.2]) (.int .i64 1)).run Tryz.prog w = .ok (.agg #[.int .i64 b.1, .bool b.2]) w := by kernel_rfl
theorem nvx2 (a b c d e f g h : Int × Bool) (w : World) : (Instr.index 75 (.agg #[.int .i64 a.1, .bool a.2, .int .i64 b.1, .bool b.2, .int .i64 c.1, .bool c.2, .int .i64 d.1, .bool d.2, .int .i64 e.1, .bool e.2, .int .i64 f.1, .bool f.2, .int .i64 g.1, .bool g.2, .int .i64 h.1, .bool h.2]) (.int .i64 2)).run Tryz.prog w = .ok (.agg #[.int .i64 c.1, .bool c.2]) w := by kernel_rfl
theorem nvx3 (a b c d e f g h : Int × Bool) (w : World) : (Instr.index 75 (.agg #[.int .i64 a.1, .bool a.2, .int .i64 b.1, .bool b.2, .int .i64 c.1, .bool c.2, .int .i64 d.1, .bool d.2, .int .i64 e.1, .bool e.2, .int .i64 f.1, .bool f.2, .int .i64 g.1, .bool g.2, .int .i64 h.1, .bool h.2]) (.int .i64 3)).run Tryz.prog w = .ok (.agg #[.int .i64 d.1, .bool d.2]) w := by kernel_rfl
theorem nvx4 (a b c d e f g h : Int × Bool) (w : World) : (Instr.index 75 (.agg #[.int .i64 a.1, .bool a.2, .int .i64 b.1, .bool b.2, .int .i64 c.1, .bool c.2, .int .i64 d.1, .bool d.2, .int .i64 e.1, .bool e.2, .int .i64 f.1, .bool f.2, .int .i64 g.1, .bool g.2, .int .i64 h.1, .bool h.2]) (.int .i64 4)).run Tryz.prog w = .ok (.agg #[.int .i64 e.1, .bool e.2]) w := by kernel_rfl
theorem nvx5 (a b c d e f g h : Int × Bool) (w : World) : (Instr.index 75 (.agg #[.int .i64 a.1, .bool a.2, .int .i64 b.1, .bool b.2, .int .i64 c.1, .bool c.2, .int .i64 d.1, .bool d.2, .int .i64 e.1, .bool e.2, .int .i64 f.1, .bool f.2, .int .i64 g.1, .bool g.2, .int .i64 h.1, .bool h.2]) (.int .i64 5)).run Tryz.prog w = .ok (.agg #[.int .i64 f.1, .bool f.2]) w := by kernel_rfl
theorem nvx6 (a b c d e f g h : Int × Bool) (w : World) : (Instr.index 75 (.agg #[.int .i64 a.1, .bool a.2, .int .i64 b.1, .bool b.2, .int .i64 c.1, .bool c.2, .int .i64 d.1, .bool d.2, .int .i64 e.1, .bool e.2, .int .i64 f.1, .bool f.2, .int .i64 g.1, .bool g.2, .int .i64 h.1, .bool h.2]) (.int .i64 6)).run Tryz.prog w = .ok (.agg #[.int .i64 g.1, .bool g.2]) w := by kernel_rfl
theorem nvx7 (a b c d e f g h : Int × Bool) (w : World) : (Instr.index 75 (.agg #[.int .i64 a.1, .bool a.2, .int .i64 b.1, .bool b.2, .int .i64 c.1, .bool c.2, .int .i64 d.1, .bool d.2, .int .i64 e.1, .bool e.2, .int .i64 f.1, .bool f.2, .int .i64 g.1, .bool g.2, .int .i64 h.1, .bool h.2]) (.int .i64 7)).run Tryz.prog w = .ok (.agg #[.int .i64 h.1, .bool h.2]) w := by kernel_rfl
theorem nv_index {N : Ns} (hL : N.length = 8) {i : Nat} (hi : i < N.length) (w : World) : (Instr.index 75 (.agg (nv N).toArray) (.int .i64 (i : Int))).run Tryz.prog w = .ok (.agg #[.int .i64 N[i].1, .bool N[i].2]) w := by
  match N, hL with
  | [a, b, c, d, e, f, g, h], _ =>
    have : i = 0 ∨ i = 1 ∨ i = 2 ∨ i = 3 ∨ i = 4 ∨ i = 5 ∨ i = 6 ∨ i = 7 := by simp at hi; omega
    rcases this with rfl | rfl | rfl | rfl | rfl | rfl | rfl | rfl
    · exact nvx0 a b c d e f g h w
    · exact nvx1 a b c d e f g h w
    · exact nvx2 a b c d e f g h w
    · exact nvx3 a b c d e f g h w
    · exact nvx4 a b c d e f g h w
    · exact nvx5 a b c d e f g h w
    · exact nvx6 a b c d e f g h w
    · exact nvx7 a b c d e f g h w
section
variable {w w' : World} {f r gN s gE gR gP sE sR sP b k j : Nat} {D : DS} {G : Int → Nat} {N : Ns} {Ts : List Ns}
theorem FdT.load (h : FdT w b N) : (Instr.loadAt 75 (wp b)).run Tryz.prog w = .ok (.agg (nv N).toArray) w :=
  run_loadAt_mid w b 0 75 (nv N) _ (fun j v hv => by
    rw [cell_of_row _ _ _ _ _ _ h.1]
    simpa using hv) Tryz.underlying75 rfl (by rw [nv_len, h.2]; kernel_rfl)
theorem fds_store (w : World) (c : Array Value) (hc : c.size = 16) (hL : N.length = 8) : (Instr.storeAt 75 (.pointer (some ⟨w.heap.size, 0, none⟩)) (.agg (nv N).toArray)).run Tryz.prog (w.alloc (.cells c 75)) = .ok () (w.alloc (.cells (nv N).toArray 75)) := by
  have hs : (nv N).toArray.size = 16 := by rw [List.size_toArray, nv_len, hL]
  exact run_storeAt_new w 75 c (nv N).toArray (by rw [hs]; kernel_rfl) (by rw [hs, hc]) (nv_one N)
/-- So many counts turned. -/
structure RkS (w W : World) (f r gN s : Nat) (G : Int → Nat) (gE gR gP sE sP b : Nat) (D : DS) (N : Ns) (i : Nat) : Prop where
  q : ∃ sR, RFt W f (forkD D (N.take i)) r gN s G gE gR gP sE sR sP w.heap.size N
  t : FdT W b N
  wt : Wt (fown f r gN D.T G gE gR gP) w W
theorem RkS.first (h : RFt w f D r gN s G gE gR gP sE sR sP b N) : RkS w (w.alloc (.cells (nv N).toArray 75)) f r gN s G gE gR gP sE sP b D N 0 := by
  have bA : Below w.heap.size w (w.alloc (.cells (nv N).toArray 75)) := (Below.refl _ w).alloc (Nat.le_refl _) _
  have h2 := h.below bA
  refine ⟨⟨sR, h2.toRFm, ⟨?_, h.tab.2⟩, fun z => ?_⟩, h2.tab, Wt.below _ bA⟩
  · show (w.heap.push _)[w.heap.size]? = _
    rw [Array.getElem?_push, if_pos rfl]
  · have := h.toRFm.lt z; omega
theorem RkS.below {W : World} {i : Nat} (h : RkS w W f r gN s G gE gR gP sE sP b D N i) (hb : Below W.heap.size W w') : RkS w w' f r gN s G gE gR gP sE sP b D N i := by
  obtain ⟨sR, q⟩ := h.q
  exact ⟨⟨sR, q.below hb⟩, h.t.below hb, h.wt.trans (Wt.below _ hb)⟩
theorem RkS.skip {W : World} {i : Nat} (h : RkS w W f r gN s G gE gR gP sE sP b D N i) (hi : i < N.length) (h0 : ¬ 0 < N[i].1) : RkS w W f r gN s G gE gR gP sE sP b D N (i + 1) :=
  ⟨by rw [fork_takeR hi, if_neg h0]; exact h.q, h.t, h.wt⟩
/-- One count more. -/
theorem RkS.inc {W : World} {i : Nat} (h : RkS w W f r gN s G gE gR gP sE sP b D N i) (I : Inv D Ts k) (hj : j < Ts.length) (hN : Ts[j] = N) (hi : i < N.length) (h0 : 0 < N[i].1) (hbo : ¬ fown f r gN D.T G gE gR gP b) :
    ∃ c w5, W.cell? ⟨f, 2, none⟩ = some (.map (some gR)) ∧ (Instr.lookup 85 (.map (some gR)) (.int .i64 N[i].1) false).run Tryz.prog W = .ok (.int .i64 c) W ∧ wrap64 (c + 1) = c + 1 ∧ IntKind.i64.wrap (c + 1) = c + 1 ∧ (Instr.mapUpdate 85 (.map (some gR)) (.int .i64 N[i].1) (.int .i64 (c + 1))).run Tryz.prog W = .ok () w5 ∧ RkS w w5 f r gN s G gE gR gP sE sP b D N (i + 1) := by
  obtain ⟨sR, q⟩ := h.q
  have hIc := InvC.fork (N.take i) I.core (fun x hx hx0 => by
    rw [← hN] at hx
    obtain ⟨y, hy, rfl⟩ := List.getElem_of_mem (List.mem_of_mem_take hx)
    exact cntS_pos hj hy)
  have hcp : 0 < cntS N[i].1 Ts := by
    have := cntS_pos (Ts := Ts) (j := j) (i := i) hj (by rw [hN]; exact hi)
    simp only [hN] at this
    exact this
  have h64 := I.few64 N[i].1
  have hcl := cntN_le N[i].1 (N.take i)
  rw [List.length_take] at hcl
  have hL := h.t.2
  obtain ⟨e, cl⟩ := hIc.cl h0 (by omega) (by omega)
  have hwk : (Lit.int .i64 N[i].1).wf = true := wf_few (by omega) (by have := cl.k1; omega)
  obtain ⟨_, hsR, _⟩ := q.toRFm.few hIc.giv
  have hf2 := q.toRFm.cells.2.2.1
  have hlk := q.toRFm.lookR hwk cl.cnt
  generalize hC : ((cntS N[i].1 Ts + cntN N[i].1 (N.take i) : Nat) : Int) = C at *
  have hC0 : 0 ≤ C ∧ C < 100000 := by omega
  obtain ⟨w5, hrun, pm5, g5⟩ := q.mR.put Tryz.underlying85 (by unfold maxLen; omega) N[i].1 hwk (.int .i64 (C + 1))
  have q5 := q.putR g5 pm5
  have hD : forkD D (N.take (i + 1)) = { forkD D (N.take i) with R := fun x => if x = N[i].1 then some (C + 1) else (forkD D (N.take i)).R x } := by
    rw [fork_takeR hi, if_pos h0, incR_eq cl.cnt]
  rw [← hD] at q5
  refine ⟨C, w5, hf2, hlk, by unfold wrap64; omega, by rw [IntKind.wrap_i64]; omega, hrun, ⟨⟨_, q5⟩, ?_, ?_⟩⟩
  · exact h.t.keep (g5.block b h.t.lt (fun z => hbo (.inr (.inr (.inl (Option.some.inj z))))))
  · exact h.wt.trans (Wt.grown g5 (.inr (.inr (.inl rfl))))
set_option maxRecDepth 100000 in
set_option maxHeartbeats 8000000 in
theorem RFt.fork_ok (h : RFt w f D r gN s G gE gR gP sE sR sP b N) (I : Inv D Ts k) (hj : j < Ts.length) (hN : Ts[j] = N) :
    Calls Tryz.prog 30 #[wp f, wp b] w fun y w' => y = .returned (wp w.heap.size) ∧ RkS w w' f r gN s G gE gR gP sE sP b D N 8 := by
  have hL : N.length = 8 := h.tab.2
  have hF0 := RkS.first h
  have hld := h.tab.load
  have hst : ∀ c : Array Value, c.size = 16 → (Instr.storeAt 75 (.pointer (some ⟨w.heap.size, 0, none⟩)) (.agg (nv N).toArray)).run Tryz.prog (w.alloc (.cells c 75)) = .ok () (w.alloc (.cells (nv N).toArray 75)) := fun c hc => fds_store w c hc hL
  have hst0 := hst #[.int .i64 0, .bool false, .int .i64 0, .bool false, .int .i64 0, .bool false, .int .i64 0, .bool false, .int .i64 0, .bool false, .int .i64 0, .bool false, .int .i64 0, .bool false, .int .i64 0, .bool false] rfl
  obtain ⟨sR0, q0⟩ := hF0.q
  have hld2 := q0.tab.load
  have HI : Aside (∀ (W : World) (i : Nat), RkS w W f r gN s G gE gR gP sE sP b D N i → ∀ hi : i < N.length, 0 < N[i].1 → ∃ c w5, W.cell? ⟨f, 2, none⟩ = some (.map (some gR)) ∧ (Instr.lookup 85 (.map (some gR)) (.int .i64 N[i].1) false).run Tryz.prog W = .ok (.int .i64 c) W ∧ wrap64 (c + 1) = c + 1 ∧ IntKind.i64.wrap (c + 1) = c + 1 ∧ (Instr.mapUpdate 85 (.map (some gR)) (.int .i64 N[i].1) (.int .i64 (c + 1))).run Tryz.prog W = .ok () w5 ∧ RkS w w5 f r gN s G gE gR gP sE sP b D N (i + 1)) := fun W i hR hi h0 => hR.inc I hj hN hi h0 h.off
  have HX : Aside (∀ (i : Nat) (hi : i < N.length) (V : World), (Instr.index 75 (.agg (nv N).toArray) (.int .i64 (i : Int))).run Tryz.prog V = .ok (.agg #[.int .i64 N[i].1, .bool N[i].2]) V) := fun i hi V => nv_index hL hi V
  have HL : Aside (N.length = 8) := hL
  clear h I hj hN hst q0 hL
  generalize (nv N).toArray = R at *
  go_enter Tryz.func30, Tryz.ntmps30
  go_wp2_with (first
    | (refine wpList_load_run rfl 75 _ rfl _ _ rfl hld ?_)
    | (refine wpList_load_run rfl 75 _ rfl _ _ rfl hld2 ?_)
    | (refine wpList_store_run rfl 75 _ _ rfl _ _ rfl rfl _ hst0 ?_))
  clear hld hld2 hst0
  go_loopg [7, 12] 8 (fun mm _ s12 wx => ∃ i : Nat, Aside (i + mm = 8) ∧ s12 = .int .i64 (i : Int) ∧ RkS w wx f r gN s G gE gR gP sE sP b D N i)
  case atStart => exact ⟨0, rfl, rfl, hF0⟩
  case round =>
    obtain ⟨i, HI8, rfl, hR⟩ := hrel
    have hi9' : (i : Int) ≤ 8 := by have := HI8.out; omega
    by_cases hlt : (i : Int) < 8
    · have HiL : Aside (i < N.length) := by show i < N.length; have := HL.out; omega
      have hix := HX.out i HiL.out
      by_cases h0 : 0 < (N[i]'HiL.out).1
      · have hbA : ∀ o, Below wr.heap.size wr (wr.alloc o).drew := fun o => below_dr ((Below.refl _ wr).alloc (Nat.le_refl _) o)
        obtain ⟨c, w5, d1, d2, d3, d4, d5, hR5⟩ := HI.out _ i (hR.below (hbA (.cells #[.int .i64 (N[i]'HiL.out).1, .bool (N[i]'HiL.out).2] 73))) HiL.out h0
        obtain ⟨c0, c1⟩ := new_pair wr (.int .i64 (N[i]'HiL.out).1) (.bool (N[i]'HiL.out).2) 73
        generalize (N[i]'HiL.out).1 = X at *
        generalize (N[i]'HiL.out).2 = Y at *
        clear hR hbA
        go_upto_region 6 with fail
        clear hix
        go_region
        all_goals
          go_wp2_with fail
          go_roundg (7 - i)
          case measure => have := HI8.out; omega
          case rel => exact ⟨i + 1, (show i + 1 + (7 - i) = 8 by omega), by rfl, hR5⟩
      · have hR2 := (hR.skip HiL.out h0).below ((Below.refl _ wr).alloc (Nat.le_refl _) (.cells #[.int .i64 (N[i]'HiL.out).1, .bool (N[i]'HiL.out).2] 73))
        obtain ⟨c0, c1⟩ := new_pair wr (.int .i64 (N[i]'HiL.out).1) (.bool (N[i]'HiL.out).2) 73
        generalize (N[i]'HiL.out).1 = X at *
        generalize (N[i]'HiL.out).2 = Y at *
        clear hR
        go_wp2_with fail
        go_roundg (7 - i)
        case measure => have := HI8.out; omega
        case rel => exact ⟨i + 1, (show i + 1 + (7 - i) = 8 by omega), by rfl, hR2⟩
    · have h8 : i = 8 := by omega
      subst h8
      go_wp2_with fail
      go_ret
      exact ⟨rfl, hR⟩
end
end Go.Proofs.YtjkneekfijibiabGreatDoor

namespace Go.Proofs.YtjkneekfijibiabGreatDoor
open Go.RowKit Go.Maps

theorem RTr.numR {w : World} {r gN s : Nat} {T : Wd} {G : Int → Nat} (h : RTr w r gN s T G) : IsNum T s := h.map.num (f := fun k => ndv G k)
section
variable {w w' w1 w2 : World} {f r gN s gE gR gP sE sR sP b k j : Nat} {D D1 D2 : DS} {G : Int → Nat} {N N1 N2 : Ns} {Ts : List Ns}
theorem town_close {d : Int} : ∀ i, town r gN (closeK D d).T G i → town r gN D.T G i := by
  intro i h
  unfold closeK at h
  split at h
  · split at h
    · exact h
    · split at h
      · exact town_hold i h
      · exact h
  · exact h
theorem RFt.closeI (h : RFt w f D r gN s G gE gR gP sE sR sP b N) (I : Inv D Ts k) (hk : k ≤ 900) (hj : j < Ts.length) (hN : Ts[j] = N) {i : Nat} (hi : i < 8) (hiL : i < N.length) (h0 : 0 < N[i].1) :
    Calls Tryz.prog 87 #[wp f, wp b, .int .i64 (i : Int)] w fun e w' => e = .returned (.int .i64 0) ∧ RGo w w' f D (closeK D N[i].1) r gN G gE gR gP b (N.set i (0, false)) := by
  have hcl := I.cl hj (i := i) (by rw [hN]; exact hiL)
  simp only [hN] at hcl
  obtain ⟨e, cl⟩ := hcl h0
  obtain ⟨_, hsR, hsP⟩ := h.toRFm.few I.core.giv
  have hn := hasN_yes hi hiL h0
  have hs64 := h.tree.numR.few I.core.lv.toTrOk
  by_cases hm : 0 < (cntS N[i].1 Ts : Int) - 1
  · exact h.close_more hi hiL cl.toCanClose hsR hm hn
  · by_cases hkd : e.kind = 1
    · exact h.close_file hi hiL cl.toCanClose hsR hm hn hkd I.core.lv.toTrOk (by omega) (fun x C e => by have := I.core.sm.1 x C e; omega) (fun b x e => by have := (I.core.sm.2 _ b x e).1; omega)
    · exact h.close_end hi hiL cl.toCanClose hsR hm hn hkd hsP
/-- Free, so far. -/
def RFr (w W : World) (f : Nat) (D : DS) (r gN : Nat) (G : Int → Nat) (gE gR gP b : Nat) (N : Ns) (all : Bool) (i : Nat) : Prop := RGo w W f D (freeS all D N i).1 r gN G gE gR gP b (freeS all D N i).2 ∧ ∀ x, town r gN (freeS all D N i).1.T G x → town r gN D.T G x
theorem RFr.step {all : Bool} {i : Nat} (h : RFr w w1 f D r gN G gE gR gP b N all i) (I : Inv D Ts k) (hk : k ≤ 900) (hj : j < Ts.length) (hN : Ts[j] = N) (hi : i < 8) (hiL : i < N.length) (h0 : 0 < N[i].1) (ha : all = true ∨ N[i].2 = true) :
    Calls Tryz.prog 87 #[wp f, wp b, .int .i64 (i : Int)] w1 fun e w' => e = .returned (.int .i64 0) ∧ RFr w w' f D r gN G gE gR gP b N all (i + 1) := by
  have hiF : i < (freeS all D N i).2.length := by rw [(freeS_tab all D N i).1]; exact hiL
  have hat := freeS_at (D := D) (all := all) hiL hiF
  have hD : N.getD i (0, false) = N[i] := by rw [List.getD_eq_getElem?_getD, List.getElem?_eq_getElem hiL]; rfl
  have e1 : freeS all D N (i + 1) = (closeK (freeS all D N i).1 N[i].1, (freeS all D N i).2.set i (0, false)) := by
    rw [freeS, hD, if_pos ⟨h0, ha⟩]
  have I1 := I.free hk hj all i (by omega)
  rw [hN] at I1
  have hj1 : j < (Ts.set j (freeS all D N i).2).length := by rw [List.length_set]; exact hj
  have hg1 := getT_set hj (freeS all D N i).2 hj1
  obtain ⟨hG, htw⟩ := h
  have hG' := hG
  obtain ⟨s1, sE1, sR1, sP1, q, wt⟩ := hG
  have hc := q.closeI I1 hk hj1 hg1 hi hiF (by rw [hat]; exact h0)
  rw [hat] at hc
  refine hc.mono ?_
  rintro e w' ⟨rfl, hG2⟩
  unfold RFr
  rw [e1]
  exact ⟨rfl, RGo.upon htw hG' hG2, fun x hx => htw x (town_close x hx)⟩
theorem RFr.skip {all : Bool} {i : Nat} (h : RFr w w1 f D r gN G gE gR gP b N all i) (hiL : i < N.length) (hc : ¬ (0 < N[i].1 ∧ (all = true ∨ N[i].2 = true))) : RFr w w1 f D r gN G gE gR gP b N all (i + 1) := by
  have hD : N.getD i (0, false) = N[i] := by rw [List.getD_eq_getElem?_getD, List.getElem?_eq_getElem hiL]; rfl
  unfold RFr
  rw [freeS, hD, if_neg hc]
  exact h
theorem RFr.at {all : Bool} {i : Nat} (h : RFr w w1 f D r gN G gE gR gP b N all i) (hi : i < 8) (hiL : i < N.length) : w1.cell? ⟨b, i * 2, none⟩ = some (.int .i64 N[i].1) ∧ w1.cell? ⟨b, i * 2 + 1, none⟩ = some (.bool N[i].2) := by
  have hiF : i < (freeS all D N i).2.length := by rw [(freeS_tab all D N i).1]; exact hiL
  have hat := freeS_at (D := D) (all := all) hiL hiF
  obtain ⟨⟨s1, sE1, sR1, sP1, q, wt⟩, htw⟩ := h
  have := q.tab.at hi
  simp only [hat] at this
  exact this
set_option maxRecDepth 100000 in
set_option maxHeartbeats 8000000 in
theorem RFt.free_ok (h : RFt w f D r gN s G gE gR gP sE sR sP b N) (I : Inv D Ts k) (hk : k ≤ 900) (hj : j < Ts.length) (hN : Ts[j] = N) (all : Bool) :
    Calls Tryz.prog 92 #[wp f, wp b, .bool all] w fun y w' => y = .returned (.tuple #[]) ∧ RFr w w' f D r gN G gE gR gP b N all 8 := by
  have hF0 : RFr w w f D r gN G gE gR gP b N all 0 := ⟨h.same (Below.refl _ _), fun x hx => hx⟩
  have HL : Aside (N.length = 8) := h.tab.2
  have HC : Aside (∀ (W : World) (i : Nat), RFr w W f D r gN G gE gR gP b N all i → i < 8 → ∀ hiL : i < N.length, 0 < N[i].1 → (all = true ∨ N[i].2 = true) → Calls Tryz.prog 87 #[wp f, wp b, .int .i64 (i : Int)] W fun e w' => e = .returned (.int .i64 0) ∧ RFr w w' f D r gN G gE gR gP b N all (i + 1)) := fun W i hR hi hiL h0 ha => hR.step I hk hj hN hi hiL h0 ha
  clear h I hk hj hN
  go_enter Tryz.func92, Tryz.ntmps92
  go_wp2_with fail
  go_loopg [6, 7] 8 (fun mm _ s7 wx => ∃ i : Nat, Aside (i + mm = 8) ∧ s7 = .int .i64 (i : Int) ∧ RFr w wx f D r gN G gE gR gP b N all i)
  case atStart => exact ⟨0, rfl, rfl, hF0⟩
  case round =>
    obtain ⟨i, HI8, rfl, hR⟩ := hrel
    have hi9' : (i : Int) ≤ 8 := by have := HI8.out; omega
    by_cases hlt : (i : Int) < 8
    · have HiL : Aside (i < N.length) := by show i < N.length; have := HL.out; omega
      have Hi8 : Aside (i < 8) := by show i < 8; omega
      obtain ⟨c0, c1⟩ := hR.at Hi8.out HiL.out
      by_cases h0 : 0 < (N[i]'HiL.out).1
      · cases all with
        | true =>
          have hC := HC.out _ i hR Hi8.out HiL.out h0 (.inl rfl)
          generalize (N[i]'HiL.out).1 = X at *
          generalize (N[i]'HiL.out).2 = Y at *
          clear hR
          go_wp2_with (go_at_call 87; refine hC.mono ?_; rintro e w2 ⟨rfl, hR2⟩)
          go_roundg (7 - i)
          case measure => have := HI8.out; omega
          case rel => exact ⟨i + 1, (show i + 1 + (7 - i) = 8 by omega), by rfl, hR2⟩
        | false =>
          by_cases hY : (N[i]'HiL.out).2 = true
          · have hC := HC.out _ i hR Hi8.out HiL.out h0 (.inr hY)
            rw [hY] at c1
            clear hY hR
            generalize (N[i]'HiL.out).1 = X at *
            go_wp2_with (go_at_call 87; refine hC.mono ?_; rintro e w2 ⟨rfl, hR2⟩)
            go_roundg (7 - i)
            case measure => have := HI8.out; omega
            case rel => exact ⟨i + 1, (show i + 1 + (7 - i) = 8 by omega), by rfl, hR2⟩
          · have hR2 := hR.skip HiL.out (fun z => by rcases z.2 with z2 | z2; exact absurd z2 (by simp); exact hY z2)
            have hY' : (N[i]'HiL.out).2 = false := by simpa using hY
            rw [hY'] at c1
            clear hY hY' hR
            generalize (N[i]'HiL.out).1 = X at *
            go_wp2_with fail
            go_roundg (7 - i)
            case measure => have := HI8.out; omega
            case rel => exact ⟨i + 1, (show i + 1 + (7 - i) = 8 by omega), by rfl, hR2⟩
      · have hR2 := hR.skip HiL.out (fun z => h0 z.1)
        generalize (N[i]'HiL.out).1 = X at *
        generalize (N[i]'HiL.out).2 = Y at *
        clear hR
        go_wp2_with fail
        go_roundg (7 - i)
        case measure => have := HI8.out; omega
        case rel => exact ⟨i + 1, (show i + 1 + (7 - i) = 8 by omega), by rfl, hR2⟩
    · have h8 : i = 8 := by omega
      subst h8
      go_wp2_with fail
      go_end0
      exact ⟨rfl, hR⟩
end
end Go.Proofs.YtjkneekfijibiabGreatDoor
