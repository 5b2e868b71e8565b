/- Close, Dup2, Pipe, plainly. -/
import Derived.Test.YtjkneekfijibiabGreatDoorDFree
import Derived.Test.YtjkneekfijibiabGreatDoorDNew
namespace Go.Proofs.YtjkneekfijibiabGreatDoor
open Go.RowKit Go.Maps

theorem holdN_no {T : Wd} {x : Int} (h : holdE T x 1 ≠ 0) : holdN T x 1 = T := by
  unfold holdE at h; unfold holdN
  cases hn : T x with
  | none => rfl
  | some nd => cases nd with
    | dir C => rfl
    | file b y =>
      rw [hn] at h
      simp only at h ⊢
      by_cases h9 : (y : Int) + 1 < 0
      · omega
      · rw [if_neg h9] at h; exact absurd rfl h
/-- How many there are. -/
def IsN {α : Type} (F : Int → Option α) (n : Nat) : Prop := ∃ ks : List Int, ks.Nodup ∧ ks.length = n ∧ ∀ x, x ∈ ks ↔ (F x).isSome = true
theorem IsN.one {α : Type} {F : Int → Option α} {n n' : Nat} (h : IsN F n) (h' : IsN F n') : n = n' := by
  obtain ⟨a, ha, rfl, ma⟩ := h
  obtain ⟨b, hb, rfl, mb⟩ := h'
  exact perm_len ha hb (fun x => (ma x).trans (mb x).symm)
theorem IsN.few {α : Type} {F : Int → Option α} {n : Nat} (h : IsN F n) {B : Int} (h0 : 0 ≤ B) (hB : ∀ x, (F x).isSome = true → 0 < x ∧ x ≤ B) : (n : Int) ≤ B := by
  obtain ⟨ks, h1, rfl, h2⟩ := h
  have h5 := int_sub (b := ((List.range B.toNat).map (fun i : Nat => (i : Int) + 1))) h1 (fun x hx => by
    have := hB x ((h2 x).1 hx)
    exact List.mem_map.2 ⟨(x - 1).toNat, List.mem_range.2 (by omega), by omega⟩)
  simp at h5
  omega
noncomputable def closeD (D : DS) (N : Ns) (x : Int) : DS := if hasN N x = true then closeK D (N.getD x.toNat (0, false)).1 else D
def closeN (N : Ns) (x : Int) : Ns := if hasN N x = true then N.set x.toNat (0, false) else N
def dup2E (N : Ns) (x y : Int) : Int := if hasN N x = true then (if 0 ≤ y ∧ y ≤ 7 then 0 else 2) else 7
noncomputable def dup2D (D : DS) (N : Ns) (x y : Int) : DS := if dup2E N x y = 0 ∧ x ≠ y then (if (N.getD y.toNat (0, false)).1 = 0 then incR D (N.getD x.toNat (0, false)).1 else closeK (incR D (N.getD x.toNat (0, false)).1) (N.getD y.toNat (0, false)).1) else D
def dup2N (N : Ns) (x y : Int) : Ns := if dup2E N x y = 0 ∧ x ≠ y then N.set y.toNat ((N.getD x.toNat (0, false)).1, false) else N
def noPipe (N : Ns) (n : Nat) : Prop := usedN N + 2 > 8 ∨ n + 2 > 40
/-- What Pipe comes to. -/
def PipeO (D : DS) (N : Ns) (n : Nat) (x y c : Int) (D' : DS) (N' : Ns) : Prop := (noPipe N n ∧ x = 0 ∧ y = 0 ∧ c = 12 ∧ D' = D ∧ N' = N) ∨ (¬ noPipe N n ∧ x = leastN N ∧ y = leastN (pipeN1 D N) ∧ c = 0 ∧ D' = pipeD D ∧ N' = pipeN D N)
section
variable {D : DS} {Ts : List Ns} {k j i : Nat} {d : Int} {e : En}
theorem used_set : ∀ (N : Ns) (i : Nat) (y : Int × Bool), usedN (N.set i y) ≤ usedN N + 1
  | [], _, _ => by simp [usedN]
  | x :: N, 0, y => by
    simp only [List.set_cons_zero, usedN, List.filter_cons]
    split <;> split <;> simp <;> omega
  | x :: N, i + 1, y => by
    have := used_set N i y
    simp only [List.set_cons_succ, usedN, List.filter_cons] at this ⊢
    split
    · simp; omega
    · exact this
theorem Inv.nn (h : Inv D Ts k) (hj : j < Ts.length) : ∀ x ∈ Ts[j], 0 ≤ x.1 := fun x hx => ((h.tab _ (List.getElem_mem hj)).2 x hx).1
theorem Inv.pipe_room (h : Inv D Ts k) (hj : j < Ts.length) {n : Nat} (hf : ¬ noPipe Ts[j] n) : ¬ leastN Ts[j] < 0 ∧ ¬ leastN (pipeN1 D Ts[j]) < 0 := by
  have h0 := h.core.giv.n0
  have hl := h.len hj
  have hu : usedN Ts[j] + 2 ≤ 8 := by unfold noPipe at hf; omega
  have e1 : ¬ leastN Ts[j] < 0 := fun z => by
    have := (used_least (h.nn hj)).1 z; omega
  refine ⟨e1, fun z => ?_⟩
  have h2 : ∀ x ∈ pipeN1 D Ts[j], 0 ≤ x.1 := fun x hx => by
    unfold pipeN1 addN at hx
    rcases List.mem_or_eq_of_mem_set hx with h1 | h1
    · exact h.nn hj x h1
    · rw [h1]; show 0 ≤ D.nx + 1 + 1; omega
  have h3 := (used_least h2).1 z
  have h4 : usedN (pipeN1 D Ts[j]) ≤ usedN Ts[j] + 1 := used_set _ _ _
  have h5 : (pipeN1 D Ts[j]).length = 8 := by unfold pipeN1 addN; rw [List.length_set]; exact hl
  omega
theorem Inv.closeO (h : Inv D Ts k) (hk : k ≤ 900) (hj : j < Ts.length) (x : Int) : Inv (closeD D Ts[j] x) (Ts.set j (closeN Ts[j] x)) k := by
  unfold closeD closeN
  by_cases hx : hasN Ts[j] x = true
  · obtain ⟨i, rfl, hi, hiL, h0⟩ := hasN_at hx (h.len hj)
    rw [if_pos hx, if_pos hx, getD_in hiL, show (i : Int).toNat = i by omega]
    exact h.close hk hj hiL h0
  · rw [if_neg hx, if_neg hx]; exact h.setSelf hj
theorem Inv.dup2O (h : Inv D Ts k) (hk : k ≤ 900) (hj : j < Ts.length) (x y : Int) : Inv (dup2D D Ts[j] x y) (Ts.set j (dup2N Ts[j] x y)) k := by
  unfold dup2D dup2N
  by_cases hz : dup2E Ts[j] x y = 0 ∧ x ≠ y
  · rw [if_pos hz, if_pos hz]
    obtain ⟨hz, hne⟩ := hz
    unfold dup2E at hz
    by_cases hx : hasN Ts[j] x = true
    · rw [if_pos hx] at hz
      by_cases hy : 0 ≤ y ∧ y ≤ 7
      · obtain ⟨i, rfl, hi, hiL, h0⟩ := hasN_at hx (h.len hj)
        obtain ⟨i2, rfl⟩ : ∃ i2 : Nat, y = i2 := ⟨y.toNat, by omega⟩
        have hiL2 : i2 < Ts[j].length := by rw [h.len hj]; omega
        rw [getD_in hiL, getD_in hiL2, show (i2 : Int).toNat = i2 by omega]
        by_cases e0 : Ts[j][i2].1 = 0
        · rw [if_pos e0]
          exact h.dup hj hiL2 e0 h0 (cntS_pos hj hiL) false
        · rw [if_neg e0]
          have := h.nn hj _ (List.getElem_mem hiL2)
          exact (h.dup2 hk hj hiL2 (by omega) h0 (cntS_pos hj hiL)).1
      · rw [if_neg hy] at hz; omega
    · rw [if_neg hx] at hz; omega
  · rw [if_neg hz, if_neg hz]; exact h.setSelf hj
end
end Go.Proofs.YtjkneekfijibiabGreatDoor

namespace Go.Proofs.YtjkneekfijibiabGreatDoor
open Go.RowKit Go.Maps

/-- The document's files at f, their tree at r, the tables at bs; A: all that is theirs. -/
structure RD (w : World) (f r : Nat) (ek : Nat × Nat) (D : DS) (bs : List Nat) (Ts : List Ns) (A : Nat → Prop) : Prop where
  st : ∃ gN s G gE gR gP sE sR sP, RFm w f D r gN s G gE gR gP sE sR sP ∧ (∀ j (h : j < bs.length) (h' : j < Ts.length), FdT w bs[j] Ts[j] ∧ ¬ fown f r gN D.T G gE gR gP bs[j]) ∧ ∀ i, fown f r gN D.T G gE gR gP i → A i
  len : bs.length = Ts.length
  nd : bs.Nodup
  bsA : ∀ b ∈ bs, A b
  lt : ∀ i, A i → i < w.heap.size
  lk : w.cell? ⟨f, 1, none⟩ = some (.map (some ek.2)) ∧ w.cell? ⟨r, 0, none⟩ = some (.map (some ek.1))
section
variable {w w' w2 w0 w1 : World} {f r b n k k' j gN s gE gR gP sE sR sP : Nat} {G : Int → Nat} {D D' : DS} {bs : List Nat} {Ts : List Ns} {N N' : Ns} {d m : Int} {A : Nat → Prop} {ek : Nat × Nat}
theorem RFm.lk {w w' : World} {f : Nat} {D D' : DS} {r gN s s' : Nat} {G G' : Int → Nat} {gE gR gP sE sR sP gR' gP' sE' sR' sP' : Nat} (q : RFm w f D r gN s G gE gR gP sE sR sP) (q' : RFm w' f D' r gN s' G' gE gR' gP' sE' sR' sP') (h : w.cell? ⟨f, 1, none⟩ = some (.map (some ek.2)) ∧ w.cell? ⟨r, 0, none⟩ = some (.map (some ek.1))) : w'.cell? ⟨f, 1, none⟩ = some (.map (some ek.2)) ∧ w'.cell? ⟨r, 0, none⟩ = some (.map (some ek.1)) :=
  ⟨q'.cells.2.1.trans (q.cells.2.1.symm.trans h.1), q'.tree.c0.trans (q.tree.c0.symm.trans h.2)⟩
theorem RD.jT (h : RD w f r ek D bs Ts A) (hj : j < bs.length) : j < Ts.length := by rw [← h.len]; exact hj
theorem RD.keep (h : RD w f r ek D bs Ts A) (hk : ∀ i, A i → w'.heap[i]? = w.heap[i]?) (hs : w.heap.size ≤ w'.heap.size) : RD w' f r ek D bs Ts A := by
  obtain ⟨gN, s, G, gE, gR, gP, sE, sR, sP, q, ht, hA⟩ := h.st
  exact ⟨⟨gN, s, G, gE, gR, gP, sE, sR, sP, q.keep (fun i hi => hk i (hA i hi)), fun j hj hj' => ⟨(ht j hj hj').1.keep (hk _ (h.bsA _ (List.getElem_mem hj))), (ht j hj hj').2⟩, hA⟩, h.len, h.nd, h.bsA, fun i hi => Nat.lt_of_lt_of_le (h.lt i hi) hs, q.lk (q.keep (fun i hi => hk i (hA i hi))) h.lk⟩
theorem RD.below (h : RD w f r ek D bs Ts A) (hb : Below w.heap.size w w') : RD w' f r ek D bs Ts A := h.keep (fun i hi => hb.block i (h.lt i hi)) hb.size
theorem fown_sub {T T' : Wd} (ht : ∀ i, town r gN T' G i → town r gN T G i) (i : Nat) (h : fown f r gN T' G gE gR gP i) : fown f r gN T G gE gR gP i := by
  rcases h with e | e | e | e | e
  · exact .inl e
  · exact .inr (.inl e)
  · exact .inr (.inr (.inl e))
  · exact .inr (.inr (.inr (.inl e)))
  · exact .inr (.inr (.inr (.inr (ht i e))))
/-- A call that turns one table. -/
theorem RD.call (h : RD w f r ek D bs Ts A) (hj : j < bs.length) {fn : FuncId} {args : Array Value} {Q : Ending → DS → Ns → Prop}
    (hc : ∀ gN s G gE gR gP sE sR sP (h' : j < Ts.length), RFt w f D r gN s G gE gR gP sE sR sP bs[j] Ts[j] → Calls Tryz.prog fn args w fun y w' => ∃ D' N', Q y D' N' ∧ RGo w w' f D D' r gN G gE gR gP bs[j] N' ∧ ∀ i, town r gN D'.T G i → town r gN D.T G i) :
    Calls Tryz.prog fn args w fun y w' => ∃ D' N' A', Q y D' N' ∧ RD w' f r ek D' bs (Ts.set j N') A' ∧ Stp w w' A A' := by
  obtain ⟨gN, s, G, gE, gR, gP, sE, sR, sP, q, ht, hA⟩ := h.st
  have hj' := h.jT hj
  refine (hc gN s G gE gR gP sE sR sP hj' ⟨q, (ht j hj hj').1, (ht j hj hj').2⟩).mono ?_
  rintro y w' ⟨D', N', hQ, ⟨s', sE', sR', sP', q', wt⟩, htw⟩
  have hst : Stp w w' A (fun i => A i ∨ (w.heap.size ≤ i ∧ i < w'.heap.size)) := ⟨wt.mono (fun i hi => by
    rcases hi with hi | rfl
    · exact hA i hi
    · exact h.bsA _ (List.getElem_mem hj)), fun i hi => by
    rcases hi with hi | hi
    · exact .inl hi
    · exact .inr hi.1⟩
  refine ⟨D', N', _, hQ, ⟨⟨gN, s', G, gE, gR, gP, sE', sR', sP', q'.toRFm, fun x hx hx' => ?_, fun i hi => .inl (hA i (fown_sub htw i hi))⟩, by rw [List.length_set]; exact h.len, h.nd, fun b hb => .inl (h.bsA b hb), fun i hi => ?_, q.lk q'.toRFm h.lk⟩, hst⟩
  · by_cases e1 : x = j
    · subst e1
      rw [List.getElem_set_self]
      exact ⟨q'.tab, q'.off⟩
    · rw [List.length_set] at hx'
      rw [List.getElem_set_ne (Ne.symm e1)]
      obtain ⟨t1, t2⟩ := ht x hx hx'
      refine ⟨t1.keep (wt.block _ t1.lt ?_), fun z => t2 (fown_sub htw _ z)⟩
      rintro (z | z)
      · exact t2 z
      · exact e1 ((List.getElem_inj h.nd).1 z)
  · rcases hi with hi | hi
    · exact Nat.lt_of_lt_of_le (h.lt i hi) wt.size
    · exact hi.2
theorem RFm.numE (q : RFm w f D r gN s G gE gR gP sE sR sP) : IsN D.E sE := by
  obtain ⟨Dt, _, _, h1, h2, h3⟩ := q.mE.data
  exact ⟨_, h1, h2, fun x => by rw [h3 x, Option.isSome_map]⟩
theorem addT_dir {T : Wd} {d z x : Int} {nm : Nm} {C : List (Nm × Int)} (h : addT T d nm z x = some (.dir C)) : ∃ C', T x = some (.dir C') := by
  cases hd : T d with
  | none => rw [show addT T d nm z = T by unfold addT; rw [hd]] at h; exact ⟨C, h⟩
  | some nd => cases nd with
    | file b y => rw [show addT T d nm z = T by unfold addT; rw [hd]] at h; exact ⟨C, h⟩
    | dir C0 =>
      rw [addT_eq hd] at h
      by_cases e1 : x = d
      · exact ⟨C0, by rw [e1]; exact hd⟩
      · rw [setT_other _ e1] at h; exact ⟨C, h⟩
set_option maxRecDepth 100000 in
set_option maxHeartbeats 1000000 in
theorem RFt.close_no (h : RFt w f D r gN s G gE gR gP sE sR sP b N) (x : Int) (hx : hasN N x = false) : Calls Tryz.prog 87 #[wp f, wp b, .int .i64 x] w fun y w' => y = .returned (.int .i64 7) ∧ RGo w w' f D D r gN G gE gR gP b N := by
  have hH := h.tab.has_ok x
  rw [hx] at hH
  have hfin := h.same (Below.refl _ w)
  clear h hx
  go_enter Tryz.func87, Tryz.ntmps87
  go_wp2_with (go_at_call 35; refine hH.mono ?_; rintro e w1 ⟨rfl, hw1⟩; subst w1)
  go_ret
  exact ⟨rfl, hfin⟩
theorem town_make {T : Wd} {p : List UInt8} {z : Int} : ∀ i, town r gN (makeN T p false z) G i → town r gN T G i := by
  intro i h
  rcases h with e | e | ⟨x, C, e, e2⟩
  · exact .inl e
  · exact .inr (.inl e)
  · unfold makeN at e
    obtain ⟨C', hC'⟩ := addT_dir e
    by_cases ex : x = z
    · subst ex
      rw [setT_same] at hC'
      cases hC'
    · rw [setT_other _ ex] at hC'
      exact .inr (.inr ⟨x, C', hC', e2⟩)
theorem free64 {T : Wd} {s : Nat} {p : List UInt8} {z : Int} (hT : TrOk T) (hs : IsNum T s) (hM : makeE T s p = 0) (hz : IsFree T z) : z < 64 := by
  have hs60 := (makeE_zero hT hM).2.2.2
  have h9 := hs.free (k := z.toNat) (fun i hi => hz.least i (by omega) (by have := hz.pos; omega))
  have := hz.pos
  omega
theorem RD.file (h : RD w f r ek D bs Ts A) (I : Inv D Ts k) (hk : k ≤ 890) (hm : w.cell? ⟨2, 0, none⟩ = some (.int .i64 m)) (hj : j < bs.length) {n s : Nat} (hN : IsN D.E n) (hs : IsNum D.T s) (p : List UInt8) (hp : p.length < 100000) (pr : Int) (mk : Bool) :
    Calls Tryz.prog 79 #[wp f, wp bs[j], tx p, .int .i64 pr, .bool mk] w fun y w' => ∃ D' N' A', (∃ x c, y = .returned (.tuple #[.int .i64 x, .int .i64 c]) ∧ FileO D (Ts[j]'(h.jT hj)) n s p pr mk x c D' N') ∧ RD w' f r ek D' bs (Ts.set j N') A' ∧ Stp w w' A A' := by
  refine h.call hj (Q := fun y D' N' => ∃ x c, y = .returned (.tuple #[.int .i64 x, .int .i64 c]) ∧ FileO D (Ts[j]'(h.jT hj)) n s p pr mk x c D' N') (fun gN s9 G gE gR gP sE sR sP hj' q => ?_)
  obtain rfl := hN.one q.toRFm.numE
  obtain rfl := hs.one q.tree.numR
  have hlv := I.core.lv
  have hs64 := hs.few hlv.toTrOk
  obtain ⟨hsE, hsR, hsP⟩ := q.toRFm.few I.core.giv
  have hCs : ∀ k C, D.T k = some (.dir C) → C.length ≤ 900 := fun x C e => by have := I.core.sm.1 x C e; omega
  by_cases hpr : 1 ≤ pr ∧ pr ≤ 3
  · by_cases hr : roomy (Ts[j]'hj') n
    · by_cases h7 : (findT D.T p).2 = 7 ∧ mk = true
      · obtain ⟨hE, rfl⟩ := h7
        by_cases hM : makeE D.T s p = 0
        · refine (q.file_new I.core.giv p pr hpr hr hlv.toTrOk hp hm hE (by omega) hM hCs (fun z hz => hlv.toTrOk.make hM hz (free64 hlv.toTrOk hs hM hz) false) (fun z hz x C e => ?_) (fun z hz => by have := free64 hlv.toTrOk hs hM hz; omega)).mono ?_
          · have := (I.core.sm.make p false z).1 x C e; omega
          · rintro y w' ⟨z, hz, rfl, hG⟩
            exact ⟨_, _, ⟨_, 0, rfl, .made hpr hr hE rfl hM z hz⟩, hG, fun i hi => town_make i (town_hold i hi)⟩
        · refine (q.file_unmade p pr hpr hr hlv.toTrOk hp hm hE (by omega) hM).mono ?_
          rintro y w' ⟨rfl, hG⟩
          exact ⟨_, _, ⟨0, _, rfl, .unmade hpr hr hE rfl hM⟩, hG, fun i hi => hi⟩
      · by_cases hE : (findT D.T p).2 = 0
        · have hkey := hlv.key _ (findT_some hlv.toTrOk hE)
          have hx : ∀ b x, D.T (findT D.T p).1 = some (.file b x) → x + 1 ≤ 1000 := fun b x e => by have := (I.core.sm.2 _ b x e).1; omega
          by_cases hh : holdE D.T (findT D.T p).1 1 = 0
          · refine (q.file_open I.core.giv p pr mk hpr hr hlv.toTrOk hp hm hE hh ⟨hkey.1, by omega⟩ (by omega) (fun x C e => by have := hCs x C e; omega) hx).mono ?_
            rintro y w' ⟨rfl, hG⟩
            exact ⟨_, _, ⟨_, 0, rfl, .opened hpr hr hE hh⟩, hG, fun i hi => town_hold i hi⟩
          · refine (q.file_dir p pr mk hpr hr hlv.toTrOk hp hm hE hh (holdN_no hh) ⟨hkey.1, by omega⟩ (by omega) (fun x C e => by have := hCs x C e; omega) hx).mono ?_
            rintro y w' ⟨rfl, hG⟩
            exact ⟨_, _, ⟨0, _, rfl, .dir hpr hr hE hh⟩, hG, fun i hi => hi⟩
        · refine (q.file_no p pr mk hpr hr hlv.toTrOk hp hm hE h7).mono ?_
          rintro y w' ⟨rfl, hG⟩
          exact ⟨_, _, ⟨0, _, rfl, .no hpr hr hE h7⟩, hG, fun i hi => hi⟩
    · refine (q.file_full p pr mk hpr hr hsE).mono ?_
      rintro y w' ⟨rfl, hG⟩
      exact ⟨_, _, ⟨0, 12, rfl, .full hpr hr⟩, hG, fun i hi => hi⟩
  · refine (q.file_arg p pr mk hpr).mono ?_
    rintro y w' ⟨rfl, hG⟩
    exact ⟨_, _, ⟨0, 1, rfl, .arg hpr⟩, hG, fun i hi => hi⟩
theorem RD.dup (h : RD w f r ek D bs Ts A) (I : Inv D Ts k) (hj : j < bs.length) (x : Int) :
    Calls Tryz.prog 82 #[wp f, wp bs[j], .int .i64 x] w fun y w' => ∃ D' N' A', (y = .returned (.tuple #[.int .i64 (dupK (Ts[j]'(h.jT hj)) x), .int .i64 (dupE (Ts[j]'(h.jT hj)) x)]) ∧ D' = dupD D (Ts[j]'(h.jT hj)) x ∧ N' = dupN (Ts[j]'(h.jT hj)) x) ∧ RD w' f r ek D' bs (Ts.set j N') A' ∧ Stp w w' A A' := by
  refine h.call hj (Q := fun y D' N' => y = .returned (.tuple #[.int .i64 (dupK (Ts[j]'(h.jT hj)) x), .int .i64 (dupE (Ts[j]'(h.jT hj)) x)]) ∧ D' = dupD D (Ts[j]'(h.jT hj)) x ∧ N' = dupN (Ts[j]'(h.jT hj)) x) (fun gN s9 G gE gR gP sE sR sP hj' q => ?_)
  obtain ⟨hsE, hsR, hsP⟩ := q.toRFm.few I.core.giv
  refine (q.dup_ok x (fun i hi h0 => ?_) hsR).mono ?_
  · obtain ⟨e, cl⟩ := I.cl hj' hi h0
    exact ⟨cl.k1, _, cl.cnt, by omega, cl.c1⟩
  · rintro y w' ⟨rfl, hG⟩
    refine ⟨_, _, ⟨rfl, rfl, rfl⟩, hG, fun i hi => ?_⟩
    unfold dupD at hi
    split at hi <;> exact hi
theorem RD.seek (h : RD w f r ek D bs Ts A) (I : Inv D Ts k) (hj : j < bs.length) (x a : Int) :
    Calls Tryz.prog 90 #[wp f, wp bs[j], .int .i64 x, .int .i64 a] w fun y w' => ∃ D' N' A', (y = .returned (.int .i64 (seekE D (Ts[j]'(h.jT hj)) x a)) ∧ D' = seekD D (Ts[j]'(h.jT hj)) x a ∧ N' = Ts[j]'(h.jT hj)) ∧ RD w' f r ek D' bs (Ts.set j N') A' ∧ Stp w w' A A' := by
  refine h.call hj (Q := fun y D' N' => y = .returned (.int .i64 (seekE D (Ts[j]'(h.jT hj)) x a)) ∧ D' = seekD D (Ts[j]'(h.jT hj)) x a ∧ N' = Ts[j]'(h.jT hj)) (fun gN s9 G gE gR gP sE sR sP hj' q => ?_)
  obtain ⟨hsE, hsR, hsP⟩ := q.toRFm.few I.core.giv
  refine (q.seek_ok x a (fun i hi h0 => ?_) hsE).mono ?_
  · obtain ⟨e, cl⟩ := I.cl hj' hi h0
    exact ⟨cl.k1, e, cl.ent⟩
  · rintro y w' ⟨rfl, hG⟩
    refine ⟨_, _, ⟨rfl, rfl, rfl⟩, hG, fun i hi => ?_⟩
    unfold seekD at hi
    split at hi
    · split at hi <;> exact hi
    · exact hi
theorem RD.mark (h : RD w f r ek D bs Ts A) (hj : j < bs.length) (x : Int) (c : Bool) :
    Calls Tryz.prog 86 #[wp f, wp bs[j], .int .i64 x, .bool c] w fun y w' => ∃ D' N' A', (y = .returned (.int .i64 (if hasN (Ts[j]'(h.jT hj)) x = true then 0 else 7)) ∧ D' = D ∧ N' = markN (Ts[j]'(h.jT hj)) x c) ∧ RD w' f r ek D' bs (Ts.set j N') A' ∧ Stp w w' A A' := by
  refine h.call hj (Q := fun y D' N' => y = .returned (.int .i64 (if hasN (Ts[j]'(h.jT hj)) x = true then 0 else 7)) ∧ D' = D ∧ N' = markN (Ts[j]'(h.jT hj)) x c) (fun gN s9 G gE gR gP sE sR sP hj' q => ?_)
  refine (q.mark_ok x c).mono ?_
  rintro y w' ⟨rfl, hG⟩
  exact ⟨_, _, ⟨rfl, rfl, rfl⟩, hG, fun i hi => hi⟩
theorem RD.close (h : RD w f r ek D bs Ts A) (I : Inv D Ts k) (hk : k ≤ 900) (hj : j < bs.length) (x : Int) :
    Calls Tryz.prog 87 #[wp f, wp bs[j], .int .i64 x] w fun y w' => ∃ D' N' A', (y = .returned (.int .i64 (if hasN (Ts[j]'(h.jT hj)) x = true then 0 else 7)) ∧ D' = closeD D (Ts[j]'(h.jT hj)) x ∧ N' = closeN (Ts[j]'(h.jT hj)) x) ∧ RD w' f r ek D' bs (Ts.set j N') A' ∧ Stp w w' A A' := by
  refine h.call hj (Q := fun y D' N' => y = .returned (.int .i64 (if hasN (Ts[j]'(h.jT hj)) x = true then 0 else 7)) ∧ D' = closeD D (Ts[j]'(h.jT hj)) x ∧ N' = closeN (Ts[j]'(h.jT hj)) x) (fun gN s9 G gE gR gP sE sR sP hj' q => ?_)
  by_cases hx : hasN (Ts[j]'hj') x = true
  · obtain ⟨i, rfl, hi, hiL, h0⟩ := hasN_at hx q.tab.2
    have e1 : closeD D (Ts[j]'hj') i = closeK D (Ts[j]'hj')[i].1 := by unfold closeD; rw [if_pos hx, getD_in hiL]
    have e2 : closeN (Ts[j]'hj') i = (Ts[j]'hj').set i (0, false) := by unfold closeN; rw [if_pos hx, show (i : Int).toNat = i by omega]
    refine (q.closeI I hk hj' rfl hi hiL h0).mono ?_
    rintro y w' ⟨rfl, hG⟩
    exact ⟨_, _, ⟨by rw [if_pos hx], rfl, rfl⟩, by rw [e1, e2]; exact hG, fun i hi => by rw [e1] at hi; exact town_close i hi⟩
  · have hx' : hasN (Ts[j]'hj') x = false := by simpa using hx
    refine (q.close_no x hx').mono ?_
    rintro y w' ⟨rfl, hG⟩
    exact ⟨_, _, ⟨by rw [if_neg hx], (if_neg hx).symm, (if_neg hx).symm⟩, hG, fun i hi => hi⟩
end
end Go.Proofs.YtjkneekfijibiabGreatDoor

namespace Go.Proofs.YtjkneekfijibiabGreatDoor
open Go.RowKit Go.Maps

section
variable {w w' w2 w0 w1 : World} {f r b n k k' j gN s gE gR gP sE sR sP : Nat} {G : Int → Nat} {D D' : DS} {bs : List Nat} {Ts : List Ns} {N N' : Ns} {d m : Int} {A : Nat → Prop} {ek : Nat × Nat}
theorem RD.pipe (h : RD w f r ek D bs Ts A) (I : Inv D Ts k) (hn : D.nx < 890) (hj : j < bs.length) {n : Nat} (hN : IsN D.E n) :
    Calls Tryz.prog 81 #[wp f, wp bs[j]] w fun z w' => ∃ D' N' A', (∃ x y c, z = .returned (.tuple #[.int .i64 x, .int .i64 y, .int .i64 c]) ∧ PipeO D (Ts[j]'(h.jT hj)) n x y c D' N') ∧ RD w' f r ek D' bs (Ts.set j N') A' ∧ Stp w w' A A' := by
  refine h.call hj (Q := fun z D' N' => ∃ x y c, z = .returned (.tuple #[.int .i64 x, .int .i64 y, .int .i64 c]) ∧ PipeO D (Ts[j]'(h.jT hj)) n x y c D' N') (fun gN s9 G gE gR gP sE sR sP hj' q => ?_)
  obtain rfl := hN.one q.toRFm.numE
  obtain ⟨hsE, hsR, hsP⟩ := q.toRFm.few I.core.giv
  by_cases hf : noPipe (Ts[j]'hj') n
  · refine (q.pipe_no hf hsE).mono ?_
    rintro y w' ⟨rfl, hG⟩
    exact ⟨_, _, ⟨0, 0, 12, rfl, .inl ⟨hf, rfl, rfl, rfl, rfl, rfl⟩⟩, hG, fun i hi => hi⟩
  · obtain ⟨l1, l2⟩ := I.pipe_room hj' hf
    refine (q.pipe_yes I.core.giv hn hf l1 l2).mono ?_
    rintro y w' ⟨rfl, hG⟩
    exact ⟨_, _, ⟨_, _, 0, rfl, .inr ⟨hf, rfl, rfl, rfl, rfl, rfl⟩⟩, hG, fun i hi => hi⟩
theorem RD.read (h : RD w f r ek D bs Ts A) (I : Inv D Ts k) (hj : j < bs.length) (x a : Int) :
    Calls Tryz.prog 88 #[wp f, wp bs[j], .int .i64 x, .int .i64 a] w fun y w' => ∃ D' N' A', (y = .returned (.tuple #[tx (readO D (Ts[j]'(h.jT hj)) x a).1, .int .i64 (readO D (Ts[j]'(h.jT hj)) x a).2.1]) ∧ D' = (readO D (Ts[j]'(h.jT hj)) x a).2.2 ∧ N' = Ts[j]'(h.jT hj)) ∧ RD w' f r ek D' bs (Ts.set j N') A' ∧ Stp w w' A A' := by
  refine h.call hj (Q := fun y D' N' => y = .returned (.tuple #[tx (readO D (Ts[j]'(h.jT hj)) x a).1, .int .i64 (readO D (Ts[j]'(h.jT hj)) x a).2.1]) ∧ D' = (readO D (Ts[j]'(h.jT hj)) x a).2.2 ∧ N' = Ts[j]'(h.jT hj)) (fun gN s9 G gE gR gP sE sR sP hj' q => ?_)
  obtain ⟨hsE, hsR, hsP⟩ := q.toRFm.few I.core.giv
  by_cases hx : hasN (Ts[j]'hj') x = true
  · obtain ⟨i, rfl, hi, hiL, h0⟩ := hasN_at hx q.tab.2
    obtain ⟨e, cl⟩ := I.cl hj' hiL h0
    have he := cl.ent
    have ok := I.core.ent _ e he
    by_cases hp2 : e.prot = 2
    · rw [readO_false hi hiL h0 he hp2]
      refine (q.read_false hi hiL a h0 cl.k1 he hx hp2).mono ?_
      rintro y w' ⟨rfl, hG⟩
      exact ⟨_, _, ⟨rfl, rfl, rfl⟩, hG, fun i hi => hi⟩
    · by_cases hk : e.kind = 1
      · obtain ⟨a1, a2, a3, a4, a5, a6⟩ := ok.file hk
        rw [readO_file hi hiL h0 he hk hp2]
        have hl := readS_end (x := e.node) (c := a) I.core.sm a5 a6
        refine (q.read_file hi hiL a h0 cl.k1 he hx hk (by omega) ⟨a3, by omega⟩ ⟨a5, by omega⟩ I.core.lv.toTrOk hsE (by omega)).mono ?_
        rintro y w' ⟨rfl, hG⟩
        exact ⟨_, _, ⟨rfl, rfl, rfl⟩, hG, fun i hi => hi⟩
      · obtain ⟨a1, a2, p, a3, a4, a5, a6, a7, a8⟩ := ok.pipe hk
        have hk2 : e.kind = 2 := by
          rcases ok.kind with z | z | z
          · exact absurd z hk
          · exact z
          · exact absurd (ok.into z) hp2
        have hn1 := I.core.giv.n1
        rw [readO_end hi hiL h0 he hk hp2 a3]
        refine (q.read_end hi hiL a h0 cl.k1 he hx hk2 (ok.frm hk2) ⟨by omega, by omega⟩ a3 a4 hsP).mono ?_
        rintro y w' ⟨rfl, hG⟩
        exact ⟨_, _, ⟨rfl, rfl, rfl⟩, hG, fun i hi => hi⟩
  · have hx' : hasN (Ts[j]'hj') x = false := by simpa using hx
    rw [readO_no hx']
    refine (q.read_no x a hx').mono ?_
    rintro y w' ⟨rfl, hG⟩
    exact ⟨_, _, ⟨rfl, rfl, rfl⟩, hG, fun i hi => hi⟩
theorem RD.write (h : RD w f r ek D bs Ts A) (I : Inv D Ts k) (hj : j < bs.length) (x : Int) (s9 : List UInt8) (hs : s9.length ≤ 1000) (a : Int) (ha : a < 9223372036854775808) :
    Calls Tryz.prog 89 #[wp f, wp bs[j], .int .i64 x, tx s9, .int .i64 a] w fun y w' => ∃ D' N' A', (y = .returned (.tuple #[.int .i64 (writeO D (Ts[j]'(h.jT hj)) x s9 a).1, .int .i64 (writeO D (Ts[j]'(h.jT hj)) x s9 a).2.1]) ∧ D' = (writeO D (Ts[j]'(h.jT hj)) x s9 a).2.2 ∧ N' = Ts[j]'(h.jT hj)) ∧ RD w' f r ek D' bs (Ts.set j N') A' ∧ Stp w w' A A' := by
  refine h.call hj (Q := fun y D' N' => y = .returned (.tuple #[.int .i64 (writeO D (Ts[j]'(h.jT hj)) x s9 a).1, .int .i64 (writeO D (Ts[j]'(h.jT hj)) x s9 a).2.1]) ∧ D' = (writeO D (Ts[j]'(h.jT hj)) x s9 a).2.2 ∧ N' = Ts[j]'(h.jT hj)) (fun gN s G gE gR gP sE sR sP hj' q => ?_)
  obtain ⟨hsE, hsR, hsP⟩ := q.toRFm.few I.core.giv
  have hs64 := q.tree.numR.few I.core.lv.toTrOk
  have hsm : s < maxLen := by unfold maxLen; omega
  by_cases hx : hasN (Ts[j]'hj') x = true
  · obtain ⟨i, rfl, hi, hiL, h0⟩ := hasN_at hx q.tab.2
    obtain ⟨e, cl⟩ := I.cl hj' hiL h0
    have he := cl.ent
    have ok := I.core.ent _ e he
    by_cases hp1 : e.prot = 1
    · rw [writeO_false hi hiL h0 he hp1]
      refine (q.write_false hi hiL s9 a h0 cl.k1 he hx hp1).mono ?_
      rintro y w' ⟨rfl, hG⟩
      exact ⟨_, _, ⟨rfl, rfl, rfl⟩, hG, fun i hi => hi⟩
    · by_cases hk : e.kind = 1
      · obtain ⟨a1, a2, a3, a4, a5, a6⟩ := ok.file hk
        by_cases hl : tooMuch s9 a e.pos
        · rw [writeO_limit hi hiL h0 he hk hp1 hl]
          refine (q.write_limit hi hiL s9 a h0 cl.k1 he hx hk (by omega) ⟨a5, by omega⟩ (by omega) hl ha).mono ?_
          rintro y w' ⟨rfl, hG⟩
          exact ⟨_, _, ⟨rfl, rfl, rfl⟩, hG, fun i hi => hi⟩
        · by_cases hE : writeE D.T e.node e.pos s9 = 0
          · rw [writeO_file hi hiL h0 he hk hp1 hl hE]
            refine (q.write_file hi hiL s9 a h0 cl.k1 he hx hk (by omega) ⟨a3, by omega⟩ ⟨a5, by omega⟩ I.core.lv.toTrOk hsE hsm (by omega) hl hE ha).mono ?_
            rintro y w' ⟨rfl, hG⟩
            exact ⟨_, _, ⟨rfl, rfl, rfl⟩, hG, fun i hi => town_write i hi⟩
          · rw [writeO_bad hi hiL h0 he hk hp1 hl hE]
            refine (q.write_bad hi hiL s9 a h0 cl.k1 he hx hk (by omega) ⟨a3, by omega⟩ ⟨a5, by omega⟩ I.core.lv.toTrOk hsm (by omega) hl hE ha).mono ?_
            rintro y w' ⟨rfl, hG⟩
            exact ⟨_, _, ⟨rfl, rfl, rfl⟩, hG, fun i hi => hi⟩
      · obtain ⟨a1, a2, p, a3, a4, a5, a6, a7, a8⟩ := ok.pipe hk
        have hk3 : e.kind = 3 := by
          rcases ok.kind with z | z | z
          · exact absurd z hk
          · exact absurd (ok.frm z) hp1
          · exact z
        have hn1 := I.core.giv.n1
        rw [writeO_end hi hiL h0 he hk hp1 a3]
        refine (q.write_end hi hiL s9 a h0 cl.k1 he hx hk3 (ok.into hk3) ⟨by omega, by omega⟩ a3 a4 hsP hs).mono ?_
        rintro y w' ⟨rfl, hG⟩
        exact ⟨_, _, ⟨rfl, rfl, rfl⟩, hG, fun i hi => hi⟩
  · have hx' : hasN (Ts[j]'hj') x = false := by simpa using hx
    rw [writeO_no hx']
    refine (q.write_no x s9 a hx').mono ?_
    rintro y w' ⟨rfl, hG⟩
    exact ⟨_, _, ⟨rfl, rfl, rfl⟩, hG, fun i hi => hi⟩
theorem RD.free (h : RD w f r ek D bs Ts A) (I : Inv D Ts k) (hk : k ≤ 900) (hj : j < bs.length) (all : Bool) :
    Calls Tryz.prog 92 #[wp f, wp bs[j], .bool all] w fun y w' => ∃ D' N' A', (y = .returned (.tuple #[]) ∧ D' = (freeS all D (Ts[j]'(h.jT hj)) 8).1 ∧ N' = (freeS all D (Ts[j]'(h.jT hj)) 8).2) ∧ RD w' f r ek D' bs (Ts.set j N') A' ∧ Stp w w' A A' := by
  refine h.call hj (Q := fun y D' N' => y = .returned (.tuple #[]) ∧ D' = (freeS all D (Ts[j]'(h.jT hj)) 8).1 ∧ N' = (freeS all D (Ts[j]'(h.jT hj)) 8).2) (fun gN s9 G gE gR gP sE sR sP hj' q => ?_)
  refine (q.free_ok I hk hj' rfl all).mono ?_
  rintro y w' ⟨rfl, hG, ht⟩
  exact ⟨_, _, ⟨rfl, rfl, rfl⟩, hG, ht⟩
theorem RD.fork (h : RD w f r ek D bs Ts A) (I : Inv D Ts k) (hj : j < bs.length) :
    Calls Tryz.prog 30 #[wp f, wp bs[j]] w fun y w' => ∃ A', y = .returned (wp w.heap.size) ∧ RD w' f r ek (forkD D (Ts[j]'(h.jT hj))) (bs ++ [w.heap.size]) (Ts ++ [Ts[j]'(h.jT hj)]) A' ∧ Stp w w' A A' := by
  obtain ⟨gN, s, G, gE, gR, gP, sE, sR, sP, q, ht, hA⟩ := h.st
  have hj' := h.jT hj
  have hft := fork_T D (Ts[j]'hj')
  refine (RFt.fork_ok ⟨q, (ht j hj hj').1, (ht j hj hj').2⟩ I hj' rfl).mono ?_
  rintro y w' ⟨rfl, ⟨sR', q'⟩, t', wt⟩
  rw [List.take_of_length_le (by rw [t'.2]; omega)] at q'
  have hst : Stp w w' A (fun i => A i ∨ (w.heap.size ≤ i ∧ i < w'.heap.size)) := ⟨wt.mono hA, fun i hi => by
    rcases hi with hi | hi
    · exact .inl hi
    · exact .inr hi.1⟩
  have hbl : ∀ x ∈ bs, x < w.heap.size := fun x hx => h.lt x (h.bsA x hx)
  have hT9 : ∀ i, fown f r gN (forkD D (Ts[j]'hj')).T G gE gR gP i → fown f r gN D.T G gE gR gP i := fun i hi => by rw [hft] at hi; exact hi
  refine ⟨_, rfl, ⟨⟨gN, s, G, gE, gR, gP, sE, sR', sP, q'.toRFm, fun x hx hx' => ?_, fun i hi => .inl (hA i (hT9 i hi))⟩, by rw [List.length_append, List.length_append, h.len]; rfl, ?_, fun b hb => ?_, fun i hi => ?_, q.lk q'.toRFm h.lk⟩, hst⟩
  · by_cases e1 : x < bs.length
    · have e2 : x < Ts.length := by rw [← h.len]; exact e1
      rw [List.getElem_append_left e1, List.getElem_append_left e2]
      obtain ⟨t1, t2⟩ := ht x e1 e2
      exact ⟨t1.keep (wt.block _ t1.lt t2), fun z => t2 (hT9 _ z)⟩
    · have e3 : x = bs.length := by rw [List.length_append] at hx; simp at hx; omega
      have e4 := h.len
      subst e3
      rw [List.getElem_concat_length rfl]
      have : (Ts ++ [Ts[j]])[bs.length]'hx' = Ts[j] := by
        rw [List.getElem_append_right (by omega)]
        simp
      rw [this]
      exact ⟨q'.tab, q'.off⟩
  · rw [List.nodup_append]
    exact ⟨h.nd, by simp, fun a ha b hb e => by rw [List.mem_singleton.1 hb] at e; have := hbl a ha; omega⟩
  · rcases List.mem_append.1 hb with z | z
    · exact .inl (h.bsA b z)
    · rw [List.mem_singleton.1 z]
      exact .inr ⟨Nat.le_refl _, q'.tab.lt⟩
  · rcases hi with hi | hi
    · exact Nat.lt_of_lt_of_le (h.lt i hi) wt.size
    · exact hi.2
end
end Go.Proofs.YtjkneekfijibiabGreatDoor

namespace Go.Proofs.YtjkneekfijibiabGreatDoor
open Go.RowKit Go.Maps

section
variable {w w' w2 w0 w1 : World} {f r b n k k' j gN s gE gR gP sE sR sP : Nat} {G : Int → Nat} {D D' : DS} {bs : List Nat} {Ts : List Ns} {N N' : Ns} {d m : Int} {A : Nat → Prop} {T : Wd} {ek : Nat × Nat}
theorem town_unlink {p : List UInt8} : ∀ i, town r gN (unlinkN T p) G i → town r gN T G i := by
  intro i h
  rcases h with e | e | ⟨x, C, e, e2⟩
  · exact .inl e
  · exact .inr (.inl e)
  · refine .inr (.inr ?_)
    unfold unlinkN at e
    split at e
    · exact ⟨x, C, e, e2⟩
    · have e3 := sweepT_sub e
      obtain ⟨C', hC'⟩ := delT_dir e3
      exact ⟨x, C', hC', e2⟩
theorem RD.dup2 (h : RD w f r ek D bs Ts A) (I : Inv D Ts k) (hk : k ≤ 900) (hj : j < bs.length) (x y9 : Int) :
    Calls Tryz.prog 84 #[wp f, wp bs[j], .int .i64 x, .int .i64 y9] w fun y w' => ∃ D' N' A', (y = .returned (.int .i64 (dup2E (Ts[j]'(h.jT hj)) x y9)) ∧ D' = dup2D D (Ts[j]'(h.jT hj)) x y9 ∧ N' = dup2N (Ts[j]'(h.jT hj)) x y9) ∧ RD w' f r ek D' bs (Ts.set j N') A' ∧ Stp w w' A A' := by
  refine h.call hj (Q := fun y D' N' => y = .returned (.int .i64 (dup2E (Ts[j]'(h.jT hj)) x y9)) ∧ D' = dup2D D (Ts[j]'(h.jT hj)) x y9 ∧ N' = dup2N (Ts[j]'(h.jT hj)) x y9) (fun gN s9 G gE gR gP sE sR sP hj' q => ?_)
  obtain ⟨hsE, hsR, hsP⟩ := q.toRFm.few I.core.giv
  by_cases hx : hasN (Ts[j]'hj') x = true
  · by_cases hy : 0 ≤ y9 ∧ y9 ≤ 7
    · have e0 : dup2E (Ts[j]'hj') x y9 = 0 := by unfold dup2E; rw [if_pos hx, if_pos hy]
      by_cases hne : x = y9
      · subst hne
        have e1 : dup2D D (Ts[j]'hj') x x = D := if_neg (fun z => z.2 rfl)
        have e2 : dup2N (Ts[j]'hj') x x = Ts[j]'hj' := if_neg (fun z => z.2 rfl)
        refine (q.dup2_same x hx hy).mono ?_
        rintro y w' ⟨rfl, hG⟩
        exact ⟨_, _, ⟨by rw [e0], rfl, rfl⟩, by rw [e1, e2]; exact hG, fun i hi => by rw [e1] at hi; exact hi⟩
      · obtain ⟨i, rfl, hi, hiL, h0⟩ := hasN_at hx q.tab.2
        obtain ⟨i2, rfl⟩ : ∃ i2 : Nat, y9 = i2 := ⟨y9.toNat, by omega⟩
        have hiL2 : i2 < (Ts[j]'hj').length := by rw [q.tab.2]; omega
        have hii : i ≠ i2 := fun z => hne (by rw [z])
        have e1 : dup2D D (Ts[j]'hj') i i2 = if (Ts[j]'hj')[i2].1 = 0 then incR D (Ts[j]'hj')[i].1 else closeK (incR D (Ts[j]'hj')[i].1) (Ts[j]'hj')[i2].1 := by
          unfold dup2D; rw [if_pos ⟨e0, hne⟩, getD_in hiL, getD_in hiL2]
        have e2 : dup2N (Ts[j]'hj') i i2 = (Ts[j]'hj').set i2 ((Ts[j]'hj')[i].1, false) := by
          unfold dup2N; rw [if_pos ⟨e0, hne⟩, getD_in hiL, show (i2 : Int).toNat = i2 by omega]
        obtain ⟨e, cl⟩ := I.cl hj' hiL h0
        have hnn := I.nn hj' _ (List.getElem_mem hiL2)
        have hinc := incR_eq cl.cnt
        by_cases z0 : (Ts[j]'hj')[i2].1 = 0
        · rw [if_pos z0] at e1
          refine (q.dup2_go (N2 := Ts[j]'hj') (D2 := incR D (Ts[j]'hj')[i].1) hi hiL (k := i2) (by omega) hii hx h0 cl.k1 cl.cnt (by omega) cl.c1 hsR (fun V hV => ?_) q.tab.2 rfl (fun i hi => hi)).mono ?_
          · rw [← hinc] at hV
            obtain ⟨s1, sE1, sR1, sP1, q1, wt1⟩ := hV
            refine (q1.close_no i2 (by unfold hasN; rw [getD_in hiL2, z0]; simp)).mono ?_
            rintro y w' ⟨rfl, hG⟩
            exact ⟨7, rfl, RGo.andThen (D1 := incR D (Ts[j]'hj')[i].1) rfl ⟨s1, sE1, sR1, sP1, q1, wt1⟩ hG⟩
          · rintro y w' ⟨rfl, hG⟩
            exact ⟨_, _, ⟨by rw [e0], rfl, rfl⟩, by rw [e1, e2]; exact hG, fun i hi => by rw [e1] at hi; exact hi⟩
        · rw [if_neg z0] at e1
          obtain ⟨I2, e3, c3, cl3⟩ := I.dup2 hk hj' hiL2 (by omega) h0 (cntS_pos hj' hiL)
          have hset : ((Ts[j]'hj').set i2 (0, false)).set i2 ((Ts[j]'hj')[i].1, false) = (Ts[j]'hj').set i2 ((Ts[j]'hj')[i].1, false) := List.set_set _
          refine (q.dup2_go (N2 := (Ts[j]'hj').set i2 (0, false)) (D2 := closeK (incR D (Ts[j]'hj')[i].1) (Ts[j]'hj')[i2].1) hi hiL (k := i2) (by omega) hii hx h0 cl.k1 cl.cnt (by omega) cl.c1 hsR (fun V hV => ?_) (by rw [List.length_set]; exact q.tab.2) (by rw [List.getElem_set_ne (Ne.symm hii)]) (fun x hx9 => town_close (D := incR D _) x hx9)).mono ?_
          · rw [← hinc] at hV
            obtain ⟨s1, sE1, sR1, sP1, q1, wt1⟩ := hV
            have hsm : s1 ≤ 64 := q1.tree.numR.few I.core.lv.toTrOk
            have Ig : Given (incR D (Ts[j]'hj')[i].1) := (I.core.inc h0 (cntS_pos hj' hiL)).giv
            obtain ⟨_, hsR1, hsP1⟩ := q1.toRFm.few Ig
            have hn2 : hasN (Ts[j]'hj') i2 = true := hasN_yes (by omega) hiL2 (by omega)
            have hcall : Calls Tryz.prog 87 #[wp f, wp bs[j], .int .i64 (i2 : Int)] V fun e w' => e = .returned (.int .i64 0) ∧ RGo V w' f (incR D (Ts[j]'hj')[i].1) (closeK (incR D (Ts[j]'hj')[i].1) (Ts[j]'hj')[i2].1) r gN G gE gR gP bs[j] ((Ts[j]'hj').set i2 (0, false)) := by
              by_cases hm : 0 < c3 - 1
              · exact q1.close_more (by omega) hiL2 cl3.toCanClose hsR1 hm hn2
              · by_cases hkd : e3.kind = 1
                · exact q1.close_file (by omega) hiL2 cl3.toCanClose hsR1 hm hn2 hkd I.core.lv.toTrOk (by omega) (fun x C e => by have := I.core.sm.1 x C e; omega) (fun b x e => by have := (I.core.sm.2 _ b x e).1; omega)
                · exact q1.close_end (by omega) hiL2 cl3.toCanClose hsR1 hm hn2 hkd hsP1
            refine hcall.mono ?_
            rintro y w' ⟨rfl, hG⟩
            exact ⟨0, rfl, RGo.andThen (D1 := incR D (Ts[j]'hj')[i].1) rfl ⟨s1, sE1, sR1, sP1, q1, wt1⟩ hG⟩
          · rintro y w' ⟨rfl, hG⟩
            rw [hset] at hG
            exact ⟨_, _, ⟨by rw [e0], rfl, rfl⟩, by rw [e1, e2]; exact hG, fun i hi => by rw [e1] at hi; exact town_close (D := incR D _) i hi⟩
    · have e0 : dup2E (Ts[j]'hj') x y9 = 2 := by unfold dup2E; rw [if_pos hx, if_neg hy]
      have e1 : dup2D D (Ts[j]'hj') x y9 = D := if_neg (fun z => by rw [e0] at z; omega)
      have e2 : dup2N (Ts[j]'hj') x y9 = Ts[j]'hj' := if_neg (fun z => by rw [e0] at z; omega)
      refine (q.dup2_range x y9 hx hy).mono ?_
      rintro y w' ⟨rfl, hG⟩
      exact ⟨_, _, ⟨by rw [e0], rfl, rfl⟩, by rw [e1, e2]; exact hG, fun i hi => by rw [e1] at hi; exact hi⟩
  · have hx' : hasN (Ts[j]'hj') x = false := by simpa using hx
    have e0 : dup2E (Ts[j]'hj') x y9 = 7 := if_neg hx
    have e1 : dup2D D (Ts[j]'hj') x y9 = D := if_neg (fun z => by rw [e0] at z; omega)
    have e2 : dup2N (Ts[j]'hj') x y9 = Ts[j]'hj' := if_neg (fun z => by rw [e0] at z; omega)
    refine (q.dup2_no x y9 hx').mono ?_
    rintro y w' ⟨rfl, hG⟩
    exact ⟨_, _, ⟨by rw [e0], rfl, rfl⟩, by rw [e1, e2]; exact hG, fun i hi => by rw [e1] at hi; exact hi⟩
theorem RD.used (h : RD w f r ek D bs Ts A) (hj : j < bs.length) : Calls Tryz.prog 33 #[wp bs[j]] w fun y w' => y = .returned (.int .i64 (usedN (Ts[j]'(h.jT hj)) : Int)) ∧ Below w.heap.size w w' := by
  obtain ⟨gN, s, G, gE, gR, gP, sE, sR, sP, q, ht, hA⟩ := h.st
  exact (ht j hj (h.jT hj)).1.used_ok
theorem RD.has (h : RD w f r ek D bs Ts A) (hj : j < bs.length) (x : Int) : Calls Tryz.prog 35 #[wp bs[j], .int .i64 x] w fun y w' => y = .returned (.bool (hasN (Ts[j]'(h.jT hj)) x)) ∧ w' = w := by
  obtain ⟨gN, s, G, gE, gR, gP, sE, sR, sP, q, ht, hA⟩ := h.st
  exact (ht j hj (h.jT hj)).1.has_ok x
/-- What is read of it directly. -/
theorem RD.lens (h : RD w f r ek D bs Ts A) : ∃ n s, w.cell? ⟨f, 0, none⟩ = some (wp r) ∧ w.cell? ⟨f, 1, none⟩ = some (.map (some ek.2)) ∧ w.cell? ⟨r, 0, none⟩ = some (.map (some ek.1)) ∧ IsN D.E n ∧ IsNum D.T s ∧ (∀ ty, (Builtin.len_ #[84] ty #[.map (some ek.2)]).run Tryz.prog w = .ok (.int .i64 n) w) ∧ ∀ ty, (Builtin.len_ #[33] ty #[.map (some ek.1)]).run Tryz.prog w = .ok (.int .i64 s) w := by
  obtain ⟨gN, s, G, gE, gR, gP, sE, sR, sP, q, ht, hA⟩ := h.st
  have e1 : gE = ek.2 := by have := q.cells.2.1.symm.trans h.lk.1; simpa using this
  have e2 : gN = ek.1 := by have := q.tree.c0.symm.trans h.lk.2; simpa using this
  rw [← e1, ← e2]
  exact ⟨sE, s, q.cells.1, q.cells.2.1, q.tree.c0, q.numE, q.tree.numR, fun ty => q.mE.len Tryz.underlying84 ty, fun ty => q.tree.map.len Tryz.underlying33 ty⟩
theorem RD.unlink (h : RD w f r ek D bs Ts A) (I : Inv D Ts k) (hk : k ≤ 900) (hm : w.cell? ⟨2, 0, none⟩ = some (.int .i64 m)) (p : List UInt8) (hp : p.length < 100000) :
    Calls Tryz.prog 37 #[wp r, tx p] w fun y w' => ∃ A', y = .returned (.int .i64 (unlinkE D.T p)) ∧ RD w' f r ek { D with T := unlinkN D.T p } bs Ts A' ∧ Stp w w' A A' := by
  obtain ⟨gN, s, G, gE, gR, gP, sE, sR, sP, q, ht, hA⟩ := h.st
  have hs64 := q.tree.numR.few I.core.lv.toTrOk
  refine (q.tree.unlink_ok I.core.lv.toTrOk p hp m hm (by omega) (fun i C e => by have := I.core.sm.1 i C e; omega)).mono ?_
  rintro y w' ⟨rfl, s', t', wt⟩
  have hst : Stp w w' A (fun i => A i ∨ (w.heap.size ≤ i ∧ i < w'.heap.size)) := ⟨wt.mono (fun i hi => hA i (.inr (.inr (.inr (.inr hi))))), fun i hi => by
    rcases hi with hi | hi
    · exact .inl hi
    · exact .inr hi.1⟩
  have htw : ∀ i, town r gN (unlinkN D.T p) G i → town r gN D.T G i := town_unlink
  have hk9 : ∀ i, i < w.heap.size → ¬ town r gN D.T G i → w'.heap[i]? = w.heap[i]? := fun i hi hn => wt.block i hi hn
  have ha := q.apart
  have q' : RFm w' f { D with T := unlinkN D.T p } r gN s' G gE gR gP sE sR sP :=
    ⟨(hk9 f (q.lt (.inl rfl)) (fun e => (ha f e).1 rfl)).trans q.head, t', q.mE.keep (hk9 _ q.mE.lt (fun e => (ha _ e).2.1 rfl)), q.mR.keep (hk9 _ q.mR.lt (fun e => (ha _ e).2.2.1 rfl)), q.mP.keep (hk9 _ q.mP.lt (fun e => (ha _ e).2.2.2 rfl)), q.er, q.ep, q.rp, fun i hi => ha i (htw i hi)⟩
  refine ⟨_, rfl, ⟨⟨gN, s', G, gE, gR, gP, sE, sR, sP, q', fun x hx hx' => ?_, fun i hi => .inl (hA i (fown_sub htw i hi))⟩, h.len, h.nd, fun b hb => .inl (h.bsA b hb), fun i hi => ?_, q.lk q' h.lk⟩, hst⟩
  · obtain ⟨t1, t2⟩ := ht x hx hx'
    exact ⟨t1.keep (hk9 _ t1.lt (fun z => t2 (.inr (.inr (.inr (.inr z)))))), fun z => t2 (fown_sub htw _ z)⟩
  · rcases hi with hi | hi
    · exact Nat.lt_of_lt_of_le (h.lt i hi) wt.size
    · exact hi.2
end
end Go.Proofs.YtjkneekfijibiabGreatDoor
