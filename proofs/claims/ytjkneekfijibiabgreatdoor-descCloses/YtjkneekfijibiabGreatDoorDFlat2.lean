/- The greatest number that was given: what each call makes of it. -/
import Derived.Test.YtjkneekfijibiabGreatDoorQFile
import Derived.Test.YtjkneekfijibiabGreatDoorDFlat
namespace Go.Proofs.YtjkneekfijibiabGreatDoor
open Go.RowKit Go.Maps

section
variable {D : DS}
theorem nx_close (D : DS) (d : Int) : (closeK D d).nx = D.nx := by
  unfold closeK
  split
  · split
    · rfl
    · split <;> rfl
  · rfl
theorem nx_free (all : Bool) (D : DS) (N : Ns) : ∀ i, (freeS all D N i).1.nx = D.nx
  | 0 => rfl
  | i + 1 => by
    rw [freeS]
    split
    · simp only; rw [nx_close]; exact nx_free all D N i
    · exact nx_free all D N i
theorem nx_file {N : Ns} {n s : Nat} {p : List UInt8} {pr : Int} {mk : Bool} {x c : Int} {D' : DS} {N' : Ns} (h : FileO D N n s p pr mk x c D' N') : D'.nx ≤ D.nx + 3 := by
  cases h <;> (try simp only [addD]) <;> omega
theorem nx_pipe {N : Ns} {n : Nat} {x y c : Int} {D' : DS} {N' : Ns} (h : PipeO D N n x y c D' N') : D'.nx ≤ D.nx + 3 := by
  rcases h with ⟨_, _, _, _, rfl, _⟩ | ⟨_, _, _, _, rfl, _⟩
  · omega
  · simp only [pipeD, pipeD1, pipeD0, addD]; omega
theorem nx_dup (D : DS) (N : Ns) (x : Int) : (dupD D N x).nx = D.nx := by unfold dupD; split <;> rfl
theorem nx_dup2 (D : DS) (N : Ns) (x y : Int) : (dup2D D N x y).nx = D.nx := by
  unfold dup2D
  split
  · split
    · rfl
    · rw [nx_close]; rfl
  · rfl
theorem nx_closeD (D : DS) (N : Ns) (x : Int) : (closeD D N x).nx = D.nx := by
  unfold closeD
  split
  · rw [nx_close]
  · rfl
theorem nx_seek (D : DS) (N : Ns) (x a : Int) : (seekD D N x a).nx = D.nx := by
  unfold seekD
  split
  · split <;> rfl
  · rfl
theorem nx_read (D : DS) (N : Ns) (x a : Int) : (readO D N x a).2.2.nx = D.nx := by
  unfold readO
  split
  · split
    · rfl
    · split
      · rfl
      · split
        · rfl
        · split <;> rfl
  · rfl
theorem nx_write (D : DS) (N : Ns) (x : Int) (s : List UInt8) (a : Int) : (writeO D N x s a).2.2.nx = D.nx := by
  unfold writeO
  split
  · split
    · rfl
    · split
      · rfl
      · split
        · split
          · rfl
          · split <;> rfl
        · split <;> rfl
  · rfl
end
end Go.Proofs.YtjkneekfijibiabGreatDoor

namespace Go.Proofs.YtjkneekfijibiabGreatDoor
open Go.RowKit Go.Maps

abbrev FlD (D : DS) : Prop := Fl D.T (knE D.E)
theorem kn_del (E : Int → Option En) (d : Int) : knE (fun i => if i = d then none else E i) = fun i => if i = d then none else knE E i := by
  funext i; unfold knE; dsimp only; split <;> rfl
theorem kn_add (E : Int → Option En) (d : Int) (e : En) : knE (fun i => if i = d then some e else E i) = fun i => if i = d then some (e.kind, e.node) else knE E i := by
  funext i; unfold knE; dsimp only; split <;> rfl
theorem kn_put {E : Int → Option En} {d : Int} {e e' : En} (h : E d = some e) (hk : e'.kind = e.kind) (hn : e'.node = e.node) : knE (fun i => if i = d then some e' else E i) = knE E := by
  funext i; unfold knE; dsimp only
  split
  · rename_i z; rw [z, h]; simp [hk, hn]
  · rfl
theorem some_put {E : Int → Option En} {d : Int} {e e' : En} (h : E d = some e) (x : Int) : (if x = d then some e' else E x).isSome = (E x).isSome := by
  split
  · rename_i z; rw [z, h]; rfl
  · rfl
section
variable {D : DS} {Ts : List Ns} {k j i : Nat} {d : Int} {e : En}
theorem FlD.close {c : Int} (h : FlD D) (cl : CanClose D d e c) : FlD (closeK D d) := by
  by_cases hm : 0 < c - 1
  · rw [closeK_more cl hm]; exact h
  · have hK : knE D.E d = some (e.kind, e.node) := by unfold knE; rw [cl.ent]; rfl
    by_cases hk : e.kind = 1
    · rw [closeK_file cl hm hk]
      rw [hk] at hK
      obtain ⟨b, x, hn⟩ := h.has d _ hK
      show Fl (holdN D.T e.node (-1)) (knE (fun i => if i = d then none else D.E i))
      rw [kn_del]
      obtain ⟨h1, h2⟩ := h.drop (b' := b) hn hK
      unfold holdN
      rw [hn]
      simp only
      rw [if_neg (by omega), show ((x : Int) + -1).toNat = x - 1 by omega]
      exact h2.sweep
    · rw [closeK_end cl hm hk]
      show Fl D.T (knE (fun i => if i = d then none else D.E i))
      rw [kn_del]
      exact h.delO hK hk
/-- The root's names stay. -/
theorem root_close {c : Int} {C : List (Nm × Int)} (h : FlD D) (cl : CanClose D d e c) (h0 : D.T 0 = some (.dir C)) : (closeK D d).T 0 = some (.dir C) := by
  by_cases hm : 0 < c - 1
  · rw [closeK_more cl hm]; exact h0
  · by_cases hk : e.kind = 1
    · rw [closeK_file cl hm hk]
      have hK : knE D.E d = some (1, e.node) := by unfold knE; rw [cl.ent, ← hk]; rfl
      obtain ⟨b, x, hn⟩ := h.has d _ hK
      show holdN D.T e.node (-1) 0 = _
      have h9 : (0 : Int) ≠ e.node := fun z => by rw [← z, h0] at hn; cases hn
      unfold holdN
      rw [hn]
      simp only
      split
      · exact h0
      · exact sweep_root (by rw [setT_other _ h9]; exact h0)
    · rw [closeK_end cl hm hk]; exact h0
theorem fork_TE (N : Ns) : ∀ D : DS, (forkD D N).T = D.T ∧ (forkD D N).E = D.E ∧ (forkD D N).nx = D.nx := by
  unfold forkD
  induction N with
  | nil => intro D; exact ⟨rfl, rfl, rfl⟩
  | cons x N ih =>
    intro D
    rw [List.foldl_cons]
    obtain ⟨a, b, c⟩ := ih (if 0 < x.1 then incR D x.1 else D)
    rw [a, b, c]
    split <;> exact ⟨rfl, rfl, rfl⟩
theorem FlD.fork (h : FlD D) (N : Ns) : FlD (forkD D N) := by
  obtain ⟨a, b, _⟩ := fork_TE N D
  unfold FlD; rw [a, b]; exact h
/-- Clear: what it leaves. -/
theorem free_flat (h : FlD D) (I : Inv D Ts k) (hk : k ≤ 900) (hj : j < Ts.length) (all : Bool) {C : List (Nm × Int)} (h0 : D.T 0 = some (.dir C)) : ∀ i, i ≤ 8 → FlD (freeS all D Ts[j] i).1 ∧ (freeS all D Ts[j] i).1.T 0 = some (.dir C)
  | 0, _ => ⟨h, h0⟩
  | i + 1, hi => by
    obtain ⟨f1, f2⟩ := free_flat h I hk hj all h0 i (by omega)
    have ih := I.free hk hj all i (by omega)
    rw [freeS]
    split
    · rename_i hc
      have hiN : i < Ts[j].length := by rw [I.len hj]; omega
      have hiF : i < (freeS all D Ts[j] i).2.length := by rw [(freeS_tab all D Ts[j] i).1]; exact hiN
      have hj1 : j < (Ts.set j (freeS all D Ts[j] i).2).length := by rw [List.length_set]; exact hj
      have hg1 := getT_set hj (freeS all D Ts[j] i).2 hj1
      have hgi : (Ts.set j (freeS all D Ts[j] i).2)[j][i]'(by rw [hg1]; exact hiF) = Ts[j][i] := by
        simp only [hg1]
        exact freeS_at hiN hiF
      have hD : Ts[j].getD i (0, false) = Ts[j][i] := by rw [List.getD_eq_getElem?_getD, List.getElem?_eq_getElem hiN]; rfl
      rw [hD] at hc ⊢
      obtain ⟨e, cl⟩ := ih.cl hj1 (i := i) (by rw [hg1]; exact hiF) (by rw [hgi]; exact hc.1)
      rw [hgi] at cl
      exact ⟨FlD.close f1 cl.toCanClose, root_close f1 cl.toCanClose f2⟩
    · exact ⟨f1, f2⟩
theorem used_zero {N : Ns} (h : ∀ x ∈ N, ¬ 0 < x.1) : usedN N = 0 := by
  unfold usedN
  rw [List.length_eq_zero_iff, List.filter_eq_nil_iff]
  intro x hx
  simp only [decide_eq_true_eq]
  exact h x hx
theorem free_used (D : DS) (N : Ns) : ∀ i y, y < i → ∀ z, (freeS true D N i).2[y]? = some z → ¬ 0 < z.1
  | 0, y, hy, _, _ => by omega
  | i + 1, y, hy, z, hz => by
    rw [freeS] at hz
    have hN := (freeS_tab true D N i).2 i (Nat.le_refl _)
    split at hz
    · simp only at hz
      by_cases e : i = y
      · subst e
        rw [List.getElem?_set_self'] at hz
        cases h9 : (freeS true D N i).2[i]? with
        | none => rw [h9] at hz; cases hz
        | some q => rw [h9] at hz; cases hz; simp
      · rw [List.getElem?_set_ne e] at hz
        exact free_used D N i y (by omega) z hz
    · rename_i hc
      by_cases e : y = i
      · subst e
        rw [hN] at hz
        intro h0
        apply hc
        rw [List.getD_eq_getElem?_getD, hz]
        exact ⟨h0, .inl rfl⟩
      · exact free_used D N i y (by omega) z hz
theorem free_none (D : DS) {N : Ns} (h8 : N.length = 8) : usedN (freeS true D N 8).2 = 0 := used_zero (fun x hx => by
  obtain ⟨y, hy, rfl⟩ := List.getElem_of_mem hx
  exact free_used D N 8 y (by rw [(freeS_tab true D N 8).1, h8] at hy; exact hy) _ (List.getElem?_eq_getElem hy))
/-- So it stands behind a call: what is told is c. -/
structure Aft (D : DS) (N : Ns) (c : Int) (D' : DS) (N' : Ns) : Prop where
  fl : FlD D'
  no : c ≠ 0 → usedN N' = usedN N ∧ ∀ x, (D'.E x).isSome = (D.E x).isSome
  few : ∀ n n', IsN D.E n → n ≤ 40 → IsN D'.E n' → n' ≤ 40
  nx : D'.nx ≤ D.nx + 3
theorem few_same {D' : DS} (h : ∀ x, (D'.E x).isSome = true → (D.E x).isSome = true) : ∀ n n', IsN D.E n → n ≤ 40 → IsN D'.E n' → n' ≤ 40 := fun n n' a b c => by
  have := a.le c h; omega
theorem Aft.same (h : FlD D) (N : Ns) (c : Int) : Aft D N c D N := ⟨h, fun _ => ⟨rfl, fun _ => rfl⟩, few_same (fun _ z => z), by omega⟩
theorem hold_file {T : Wd} {n : Int} (h : holdE T n 1 = 0) : ∃ b x, T n = some (.file b x) ∧ holdN T n 1 = sweepT (setT T n (.file b (x + 1))) := by
  unfold holdE at h
  unfold holdN
  cases hn : T n with
  | none => rw [hn] at h; simp [fileT, hn] at h
  | some nd => cases nd with
    | dir C => rw [hn] at h; simp [fileT, hn] at h
    | file b x =>
      refine ⟨b, x, rfl, ?_⟩
      simp only
      rw [if_neg (by omega), show ((x : Int) + 1).toNat = x + 1 by omega]
theorem add_few {n n' : Nat} {T' : Wd} (h : IsN D.E n) (h' : IsN (addD { D with T := T' } e).E n') : n' ≤ n + 1 := h.le1 (k := D.nx + 1) h' (fun x hx => by
  have hx' : (if x = D.nx + 1 then some e else D.E x).isSome = true := hx
  by_cases e1 : x = D.nx + 1
  · exact .inr e1
  · rw [if_neg e1] at hx'; exact .inl hx')
theorem Aft.file {n s : Nat} {p : List UInt8} {pr : Int} {mk : Bool} {x c : Int} {D' : DS} {N' : Ns} (h : FlD D) (I : Inv D Ts k) (hj : j < Ts.length) (hN : IsN D.E n) (hF : FileO D Ts[j] n s p pr mk x c D' N') : Aft D Ts[j] c D' N' := by
  have hlv := I.core.lv
  have hd : knE D.E (D.nx + 1) = none := by unfold knE; rw [I.core.giv.new.1]; rfl
  cases hF with
  | opened hp hr hE hh =>
    obtain ⟨b, x, hn, hq⟩ := hold_file hh
    refine ⟨?_, fun z => absurd rfl z, fun n9 n' a _ c => ?_, by show D.nx + 1 ≤ D.nx + 3; omega⟩
    · show Fl (holdN D.T (findT D.T p).1 1) (knE (fun i => if i = D.nx + 1 then some ⟨1, pr, (findT D.T p).1, 0, 0⟩ else D.E i))
      rw [kn_add, hq]
      exact (h.hold hn hd).sweep
    · obtain rfl := a.one hN
      have := add_few a c
      have := hr.2
      omega
  | made hp hr hE hm hM z hz =>
    obtain ⟨h1, _⟩ := makeE_zero hlv.toTrOk hM
    obtain ⟨nm, e1, e2⟩ := h.place hlv h1
    obtain ⟨C, h0⟩ := hlv.root
    have hz0 : z ≠ 0 := fun e => by rw [e] at hz; have := hz.none; rw [h0] at this; cases this
    have hmk : makeN D.T p false z = addT (setT D.T z (.file [] 0)) 0 nm z := by unfold makeN; rw [e1]; rfl
    have hfl := h.make h0 hz.none e2
    rw [← hmk] at hfl
    obtain ⟨b, x, hn, hq⟩ := hold_file (made_hold hlv.toTrOk hM hz).1
    refine ⟨?_, fun z => absurd rfl z, fun n9 n' a _ c => ?_, by show D.nx + 1 ≤ D.nx + 3; omega⟩
    · show Fl (holdN (makeN D.T p false z) z 1) (knE (fun i => if i = D.nx + 1 then some ⟨1, pr, z, 0, 0⟩ else D.E i))
      rw [kn_add, hq]
      exact (hfl.hold hn hd).sweep
    · obtain rfl := a.one hN
      have := add_few a c
      have := hr.2
      omega
  | _ => exact Aft.same h _ _
theorem Aft.pipe {n : Nat} {x y c : Int} {D' : DS} {N' : Ns} (h : FlD D) (I : Inv D Ts k) (hj : j < Ts.length) (hN : IsN D.E n) (hP : PipeO D Ts[j] n x y c D' N') : Aft D Ts[j] c D' N' := by
  have hq := nx_pipe hP
  rcases hP with ⟨_, _, _, rfl, rfl, rfl⟩ | ⟨hr, _, _, rfl, rfl, rfl⟩
  · exact Aft.same h _ _
  · refine ⟨?_, fun z => absurd rfl z, fun n9 n' a _ c => ?_, hq⟩
    · have hg := I.core.giv
      have h1 : knE D.E (D.nx + 1 + 1) = none := by
        unfold knE
        cases h9 : D.E (D.nx + 1 + 1) with
        | none => rfl
        | some e => have := hg.e _ (by rw [h9]; rfl); omega
      have h2 : knE D.E (D.nx + 1 + 1 + 1) = none := by
        unfold knE
        cases h9 : D.E (D.nx + 1 + 1 + 1) with
        | none => rfl
        | some e => have := hg.e _ (by rw [h9]; rfl); omega
      show Fl D.T (knE (fun i => if i = D.nx + 1 + 1 + 1 then some ⟨3, 2, 0, D.nx + 1, 0⟩ else (fun i => if i = D.nx + 1 + 1 then some ⟨2, 1, 0, D.nx + 1, 0⟩ else D.E i) i))
      rw [kn_add, kn_add]
      exact (h.addO h1 (by simp)).addO (by rw [if_neg (by omega)]; exact h2) (by simp)
    · obtain rfl := a.one hN
      have a1 : IsN (pipeD1 D).E (n9 + 1) := a.add (k := D.nx + 1 + 1) (by
        cases h9 : D.E (D.nx + 1 + 1) with
        | none => rfl
        | some e => have := I.core.giv.e _ (by rw [h9]; rfl); omega) ⟨2, 1, 0, D.nx + 1, 0⟩
      have := add_few (D := pipeD1 D) (T' := D.T) a1 c
      unfold noPipe at hr
      omega
theorem Aft.dup (h : FlD D) (N : Ns) (x : Int) : Aft D N (dupE N x) (dupD D N x) (dupN N x) := by
  have hq := nx_dup D N x
  have hE : (dupD D N x).E = D.E ∧ (dupD D N x).T = D.T := by unfold dupD; split <;> exact ⟨rfl, rfl⟩
  refine ⟨by unfold FlD; rw [hE.1, hE.2]; exact h, fun z => ⟨by unfold dupN; rw [if_neg z], fun y => by rw [hE.1]⟩, few_same (fun y z => by rw [hE.1] at z; exact z), by omega⟩
theorem Aft.closeO (h : FlD D) (I : Inv D Ts k) (hj : j < Ts.length) (x : Int) : Aft D Ts[j] (if hasN Ts[j] x = true then 0 else 7) (closeD D Ts[j] x) (closeN Ts[j] x) := by
  have hq := nx_closeD D Ts[j] x
  by_cases hx : hasN Ts[j] x = true
  · obtain ⟨i, rfl, hi, hiL, h0⟩ := hasN_at hx (I.len hj)
    obtain ⟨e, cl⟩ := I.cl hj hiL h0
    have e1 : closeD D Ts[j] i = closeK D Ts[j][i].1 := by unfold closeD; rw [if_pos hx, getD_in hiL]
    rw [if_pos hx]
    refine ⟨by rw [e1]; exact FlD.close h cl.toCanClose, fun z => absurd rfl z, few_same (fun y z => by rw [e1] at z; exact closeK_sub z), by omega⟩
  · have e1 : closeD D Ts[j] x = D := if_neg hx
    have e2 : closeN Ts[j] x = Ts[j] := if_neg hx
    rw [e1, e2]; exact Aft.same h _ _
theorem Aft.dup2 (h : FlD D) (I : Inv D Ts k) (hk : k ≤ 900) (hj : j < Ts.length) (x y : Int) : Aft D Ts[j] (dup2E Ts[j] x y) (dup2D D Ts[j] x y) (dup2N Ts[j] x y) := by
  have hq := nx_dup2 D Ts[j] x y
  by_cases hz : dup2E Ts[j] x y = 0 ∧ x ≠ y
  · have hz0 := hz.1
    unfold dup2E at hz0
    by_cases hx : hasN Ts[j] x = true
    · rw [if_pos hx] at hz0
      by_cases hy : 0 ≤ y ∧ y ≤ 7
      · obtain ⟨i, rfl, hi, hiL, h0⟩ := hasN_at hx (I.len hj)
        obtain ⟨i2, rfl⟩ : ∃ i2 : Nat, y = i2 := ⟨y.toNat, by omega⟩
        have hiL2 : i2 < Ts[j].length := by rw [I.len hj]; omega
        have e1 : dup2D D Ts[j] i i2 = if Ts[j][i2].1 = 0 then incR D Ts[j][i].1 else closeK (incR D Ts[j][i].1) Ts[j][i2].1 := by
          unfold dup2D; rw [if_pos hz, getD_in hiL, getD_in hiL2]
        by_cases e0 : Ts[j][i2].1 = 0
        · rw [if_pos e0] at e1
          rw [hz.1]
          refine ⟨by rw [e1]; exact h, fun z => absurd rfl z, few_same (fun y z => by rw [e1] at z; exact z), by omega⟩
        · rw [if_neg e0] at e1
          have hnn := I.nn hj _ (List.getElem_mem hiL2)
          obtain ⟨_, e, c, cl⟩ := I.dup2 hk hj hiL2 (by omega) h0 (cntS_pos hj hiL)
          rw [hz.1]
          refine ⟨by rw [e1]; exact FlD.close (D := incR D Ts[j][i].1) h cl.toCanClose, fun z => absurd rfl z, few_same (fun y z => by rw [e1] at z; exact closeK_sub (D := incR D Ts[j][i].1) z), by omega⟩
      · rw [if_neg hy] at hz0; omega
    · rw [if_neg hx] at hz0; omega
  · have e1 : dup2D D Ts[j] x y = D := if_neg hz
    have e2 : dup2N Ts[j] x y = Ts[j] := if_neg hz
    rw [e1, e2]; exact Aft.same h _ _
theorem mark_used (N : Ns) (hL : N.length = 8) (x : Int) (c : Bool) : usedN (markN N x c) = usedN N := by
  unfold markN
  split
  · rename_i hx
    obtain ⟨i, rfl, hi, hiL, h0⟩ := hasN_at hx hL
    rw [getD_in hiL, show (i : Int).toNat = i by omega]
    have : ∀ (N : Ns) (i : Nat) (h : i < N.length), usedN (N.set i (N[i].1, c)) = usedN N := by
      intro N
      induction N with
      | nil => intro i h; simp at h
      | cons y N ih =>
        intro i h
        cases i with
        | zero => unfold usedN; simp [List.filter_cons]; split <;> rfl
        | succ i =>
          have := ih i (by simpa using h)
          unfold usedN at this ⊢
          simp only [List.set_cons_succ, List.getElem_cons_succ, List.filter_cons]
          split
          · simp [this]
          · exact this
    exact this N i hiL
  · rfl
theorem Aft.mark (h : FlD D) (N : Ns) (hL : N.length = 8) (x : Int) (b : Bool) (c : Int) : Aft D N c D (markN N x b) := ⟨h, fun _ => ⟨mark_used N hL x b, fun _ => rfl⟩, few_same (fun _ z => z), by omega⟩
/-- A call that leaves all that is open, and the table. -/
theorem Aft.stay {D' : DS} (hT : Fl D'.T (knE D'.E)) (N : Ns) (c : Int) (hE : ∀ x, (D'.E x).isSome = (D.E x).isSome) (hx : D'.nx ≤ D.nx + 3) : Aft D N c D' N :=
  ⟨hT, fun _ => ⟨rfl, hE⟩, few_same (fun y z => by rw [hE] at z; exact z), hx⟩
theorem Aft.put {D' : DS} {e' : En} (hE : D'.E = fun i => if i = d then some e' else D.E i) (hx : D'.nx = D.nx) (he : D.E d = some e) (hk : e'.kind = e.kind) (hn : e'.node = e.node) (hT : Fl D'.T (knE D.E)) (N : Ns) (c : Int) : Aft D N c D' N :=
  Aft.stay (by rw [hE, kn_put he hk hn]; exact hT) N c (fun y => by rw [hE]; exact some_put he y) (by omega)
theorem Aft.keep {D' : DS} (hE : D'.E = D.E) (hT : D'.T = D.T) (hx : D'.nx = D.nx) (h : FlD D) (N : Ns) (c : Int) : Aft D N c D' N :=
  Aft.stay (by rw [hE, hT]; exact h) N c (fun y => by rw [hE]) (by omega)
theorem Aft.seek (h : FlD D) (N : Ns) (x a : Int) (c : Int) : Aft D N c (seekD D N x a) N := by
  unfold seekD
  split
  · split
    · rename_i e he
      refine Aft.put (by rfl) (by rfl) he (by rfl) (by rfl) ?_ N c; exact h
    · exact Aft.same h _ _
  · exact Aft.same h _ _
theorem Aft.read (h : FlD D) (N : Ns) (x a : Int) (c : Int) : Aft D N c (readO D N x a).2.2 N := by
  unfold readO
  split
  · split
    · exact Aft.same h _ _
    · rename_i e he
      split
      · exact Aft.same h _ _
      · split
        · refine Aft.put (by rfl) (by rfl) he (by rfl) (by rfl) ?_ N c; exact h
        · split
          · exact Aft.same h _ _
          · exact Aft.keep (by rfl) (by rfl) (by rfl) h N c
  · exact Aft.same h _ _
theorem write_flat (h : FlD D) (n a : Int) (s : List UInt8) : Fl (writeN D.T n a s) (knE D.E) := by
  unfold writeN
  split
  · exact h
  · split
    · rename_i b x hn
      exact h.same_file hn
    · exact h
theorem Aft.write (h : FlD D) (N : Ns) (x : Int) (s : List UInt8) (a : Int) (c : Int) : Aft D N c (writeO D N x s a).2.2 N := by
  unfold writeO
  split
  · split
    · exact Aft.same h _ _
    · rename_i e he
      split
      · exact Aft.same h _ _
      · split
        · split
          · exact Aft.same h _ _
          · split
            · exact Aft.same h _ _
            · refine Aft.put (by rfl) (by rfl) he (by rfl) (by rfl) ?_ N c; exact write_flat h _ _ _
        · split
          · exact Aft.same h _ _
          · exact Aft.keep (by rfl) (by rfl) (by rfl) h N c
  · exact Aft.same h _ _
end
end Go.Proofs.YtjkneekfijibiabGreatDoor
