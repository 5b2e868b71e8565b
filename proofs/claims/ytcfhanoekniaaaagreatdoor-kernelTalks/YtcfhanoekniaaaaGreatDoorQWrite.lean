/- Pipe, Read, Write, Seek, Dup, Fork, Exec, Clear keep what holds. -/
import Derived.Test.YtcfhanoekniaaaaGreatDoorQAdd
import Derived.Test.YtcfhanoekniaaaaGreatDoorUTree
import Derived.Test.YtcfhanoekniaaaaGreatDoorUNew
import Derived.Test.YtcfhanoekniaaaaGreatDoorTell
import Derived.Test.YtcfhanoekniaaaaGreatDoorUBytes
import Derived.Test.YtcfhanoekniaaaaGreatDoorUWrite
namespace Go.Proofs.YtcfhanoekniaaaaGreatDoor
open Go.RowKit Go.Maps

/-- A table that is forked: all its numbers are doubled. -/
def forkD (D : DS) (N : Ns) : DS := N.foldl (fun D x => if 0 < x.1 then incR D x.1 else D) D
/-- Numbers freed, so many looked at: all, or those that are MARKED. -/
noncomputable def freeS (all : Bool) (D : DS) (N : Ns) : Nat → DS × Ns
  | 0 => (D, N)
  | i + 1 => if 0 < (N.getD i (0, false)).1 ∧ (all = true ∨ (N.getD i (0, false)).2 = true) then (closeK (freeS all D N i).1 (N.getD i (0, false)).1, (freeS all D N i).2.set i (0, false)) else freeS all D N i
section
variable {D : DS} {Ts : List Ns} {k j i : Nat} {d : Int} {e : En}
theorem readS_end {T : Wd} {x a c : Int} (hs : Sm k T) (h0 : 0 ≤ a) (h1 : a ≤ 200) : a + (readS T x a c).length ≤ 200 := by
  unfold readS
  split
  · rename_i b y e
    have := (hs.2 x b y e).2
    split
    · simp; omega
    · rw [List.length_take, List.length_drop]; omega
  · simp; omega
theorem Inv.read (h : Inv D Ts k) (hj : j < Ts.length) (x a : Int) : Inv (readO D Ts[j] x a).2.2 Ts k := by
  unfold readO
  split
  · split
    · exact h
    · rename_i e he
      have hok := h.core.ent _ e he
      split
      · exact h
      · split
        · rename_i hk
          refine h.putE he ⟨hok.kind, fun hk => ?_, hok.frm, hok.into, hok.pipe⟩
          obtain ⟨a1, a2, a3, a4, a5, a6⟩ := hok.file hk
          have := readS_end (x := e.node) (c := a) h.core.sm a5 a6
          exact ⟨a1, a2, a3, a4, by simp only; omega, this⟩
        · rename_i hk
          obtain ⟨a1, a2, p, a3, a4, a5, a6, a7, a8⟩ := hok.pipe hk
          rw [a3]
          exact h.putP a3 ⟨by simp; omega, a5, a6, a7, a8⟩
  · exact h
theorem writeE_len {T : Wd} {x a : Int} {s : List UInt8} (h : writeE T x a s = 0) : a + s.length ≤ 200 := by
  unfold writeE at h
  split at h
  · omega
  · split at h
    · omega
    · split at h
      · omega
      · omega
theorem Inv.write (h : Inv D Ts k) (hj : j < Ts.length) (x : Int) (s : List UInt8) (a : Int) : Inv (writeO D Ts[j] x s a).2.2 Ts (k + 1) := by
  have h1 := h.more (Nat.le_succ k)
  unfold writeO
  split
  · split
    · exact h1
    · rename_i e he
      have hok := h.core.ent _ e he
      split
      · exact h1
      · split
        · rename_i hk
          split
          · exact h1
          · split
            · exact h1
            · rename_i hE
              have hE' : writeE D.T e.node e.pos s = 0 := by omega
              have h2 := h.putT (h.core.lv.write e.node e.pos s) (h.core.sm.write e.node e.pos s)
              refine h2.putE (D := { D with T := writeN D.T e.node e.pos s }) he ⟨hok.kind, fun hk => ?_, hok.frm, hok.into, hok.pipe⟩
              obtain ⟨a1, a2, a3, a4, a5, a6⟩ := hok.file hk
              have := writeE_len hE'
              exact ⟨a1, a2, a3, a4, by simp only; omega, this⟩
        · rename_i hk
          obtain ⟨a1, a2, p, a3, a4, a5, a6, a7, a8⟩ := hok.pipe hk
          rw [a3]
          exact h1.putP a3 ⟨wrB_len _ _ _ a4, a5, a6, a7, a8⟩
  · exact h1
/-- A new pipe, and its two ends. -/
theorem Inv.pipe (h : Inv D Ts k) (hn : D.nx < 890) (hj : j < Ts.length) (hl1 : ¬ leastN Ts[j] < 0) (hl2 : ¬ leastN (pipeN1 D Ts[j]) < 0) : Inv (pipeD D) (Ts.set j (pipeN D Ts[j])) k := by
  have g := h.core.giv
  obtain ⟨n1, n2, n3⟩ := g.new
  have g0 := g.n0
  have hz : cntS (D.nx + 1) Ts = 0 := by
    have := h.core.cE (D.nx + 1) (by omega)
    rw [n1] at this
    simp at this
    exact this
  have h0 : Inv (pipeD0 D) Ts k := by
    refine ⟨⟨g.pipe0 (by omega), h.core.lv, h.core.sm, fun x ex hx => (h.core.ent x ex hx).keep (by show D.nx ≤ D.nx + 1; omega) (fun p y a b c d e f => ?_), h.core.cE, h.core.cR⟩, h.tab, h.few⟩
    have : p ≠ D.nx + 1 := fun e => by rw [e, n3] at a; cases a
    exact ⟨y, (if_neg this).trans a, b, c, d, e, f⟩
  have hP0 : (pipeD0 D).P (D.nx + 1) = some ([], 1, 1) := if_pos rfl
  have h1 : Inv (pipeD1 D) (Ts.set j (pipeN1 D Ts[j])) k := h0.add (D := pipeD0 D) (e := ⟨2, 1, 0, D.nx + 1, 0⟩) (by show D.nx + 1 < 899; omega) hj hl1 ⟨.inr (.inl rfl), fun z => by simp at z, fun _ => rfl, fun z => by simp at z, fun _ => ⟨by simp only; omega, by show D.nx + 1 ≤ D.nx + 1 + 1; omega, _, hP0, by simp, by simp, by simp, by simp, by simp⟩⟩
  have hj1 : j < (Ts.set j (pipeN1 D Ts[j])).length := by rw [List.length_set]; exact hj
  have hg1 := getT_set hj (pipeN1 D Ts[j]) hj1
  have h2 := h1.add (D := pipeD1 D) (j := j) (e := ⟨3, 2, 0, D.nx + 1, 0⟩) (by show D.nx + 1 + 1 < 899; omega) hj1 (by rw [hg1]; exact hl2) ⟨.inr (.inr rfl), fun z => by simp at z, fun z => by simp at z, fun _ => rfl, fun _ => ⟨by simp only; omega, by show D.nx + 1 ≤ D.nx + 1 + 1 + 1; omega, _, hP0, by simp, by simp, by simp, by simp, by simp⟩⟩
  rw [hg1, set_setT] at h2
  exact h2
theorem InvC.fork : ∀ (l : Ns) {D : DS} {C : Int → Nat}, InvC D C k → (∀ x ∈ l, 0 < x.1 → 0 < C x.1) → InvC (forkD D l) (fun d => C d + cntN d l) k
  | [], D, C, h, _ => h.congr (fun d _ => by simp [cntN])
  | x :: l, D, C, h, hl => by
    unfold forkD
    rw [List.foldl_cons]
    by_cases hx : 0 < x.1
    · rw [if_pos hx]
      refine (InvC.fork l (h.inc hx (hl x List.mem_cons_self hx)) (fun y hy h0 => ?_)).congr (fun d hd => ?_)
      · show 0 < (if y.1 = x.1 then C x.1 + 1 else C y.1)
        split
        · omega
        · exact hl y (List.mem_cons_of_mem _ hy) h0
      · simp only [cntN, List.filter_cons]
        by_cases e1 : d = x.1
        · simp [e1]; omega
        · simp [e1, Ne.symm e1]
    · rw [if_neg hx]
      refine (InvC.fork l h (fun y hy h0 => hl y (List.mem_cons_of_mem _ hy) h0)).congr (fun d hd => ?_)
      simp only [cntN, List.filter_cons]
      rw [if_neg (by simp; omega)]
theorem Inv.fork (h : Inv D Ts k) (hf : Ts.length < 500) (hj : j < Ts.length) : Inv (forkD D Ts[j]) (Ts ++ [Ts[j]]) k := by
  refine ⟨(InvC.fork Ts[j] h.core (fun x hx h0 => ?_)).congr (fun d hd => ?_), fun N hN => ?_, by rw [List.length_append]; simp; omega⟩
  · obtain ⟨i, hi, rfl⟩ := List.getElem_of_mem hx
    exact cntS_pos hj hi
  · simp [cntS]
  · rcases List.mem_append.1 hN with h1 | h1
    · exact h.tab N h1
    · rw [List.mem_singleton.1 h1]; exact h.tab _ (List.getElem_mem hj)
theorem freeS_tab (all : Bool) (D : DS) (N : Ns) : ∀ i, (freeS all D N i).2.length = N.length ∧ ∀ x, i ≤ x → (freeS all D N i).2[x]? = N[x]?
  | 0 => ⟨rfl, fun _ _ => rfl⟩
  | i + 1 => by
    obtain ⟨h1, h2⟩ := freeS_tab all D N i
    rw [freeS]
    split
    · refine ⟨by simp only [List.length_set]; exact h1, fun x hx => ?_⟩
      simp only
      rw [List.getElem?_set_ne (by omega)]
      exact h2 x (by omega)
    · exact ⟨h1, fun x hx => h2 x (by omega)⟩
theorem freeS_at {all : Bool} {N : Ns} {i : Nat} (hi : i < N.length) (h : i < (freeS all D N i).2.length) : (freeS all D N i).2[i] = N[i] := by
  have := (freeS_tab all D N i).2 i (Nat.le_refl _)
  rw [List.getElem?_eq_getElem h, List.getElem?_eq_getElem hi] at this
  exact Option.some.inj this
theorem Inv.free (h : Inv D Ts k) (hk : k ≤ 900) (hj : j < Ts.length) (all : Bool) : ∀ i, i ≤ 8 → Inv (freeS all D Ts[j] i).1 (Ts.set j (freeS all D Ts[j] i).2) k
  | 0, _ => h.setSelf hj
  | i + 1, hi => by
    have ih := Inv.free h hk hj all i (by omega)
    rw [freeS]
    split
    · rename_i hc
      have hiN : i < Ts[j].length := by rw [h.len hj]; omega
      have hiF : i < (freeS all D Ts[j] i).2.length := by rw [(freeS_tab all D Ts[j] i).1]; exact hiN
      have hj1 : j < (Ts.set j (freeS all D Ts[j] i).2).length := by rw [List.length_set]; exact hj
      have hg1 := getT_set hj (freeS all D Ts[j] i).2 hj1
      have hgi : (Ts.set j (freeS all D Ts[j] i).2)[j][i]'(by rw [hg1]; exact hiF) = Ts[j][i] := by
        simp only [hg1]
        exact freeS_at hiN hiF
      have hD : Ts[j].getD i (0, false) = Ts[j][i] := by rw [List.getD_eq_getElem?_getD, List.getElem?_eq_getElem hiN]; rfl
      rw [hD] at hc ⊢
      have h2 := ih.close hk hj1 (i := i) (by rw [hg1]; exact hiF) (by rw [hgi]; exact hc.1)
      rw [hgi, hg1, set_setT] at h2
      exact h2
    · exact ih
end
end Go.Proofs.YtcfhanoekniaaaaGreatDoor

namespace Go.Proofs.YtcfhanoekniaaaaGreatDoor
open Go.RowKit Go.Maps

/-- The tree turns; what is open stays. -/
structure QSt (w w' : World) (f : Nat) (D : DS) (T' : Wd) (g : QG) (n b : Nat) (M N : Ns) : Prop where
  ex : ∃ g', QF w' f { D with T := T' } g' n ∧ QTb w' b g' M N ∧ (∀ i, i < w.heap.size → g'.kap i = g.kap i) ∧ g'.K = g.K ∧ g'.r = g.r ∧ g'.B = g.B
  wt : Wt (fun i => (g.kap i).isSome = true ∨ i = b) w w'
section
variable {w w' w2 w0 w1 : World} {f b n q : Nat} {D D' : DS} {g g' g1 : QG} {M N N' : Ns} {d k m : Int} {e : En} {T' : Wd}
theorem QTb.sameK (t : QTb w b g M N) (hk : w'.heap[b]? = w.heap[b]?) (hx : ∀ i, i < w.heap.size → g'.kap i = g.kap i) (hK : g'.K = g.K) : QTb w' b g' M N :=
  ⟨t.tab.keep hk, (hx b t.tab.lt).trans t.off, t.len, by rw [hK]; exact t.rel⟩
theorem QF.treeGo (h : QF w f D g n) (t : QTb w b g M N) {O O' : Nat → Prop} (hO : ∀ i, O i → g.kap i = some .tree) (p : PT w' g.r T' O') (st : Stp w w' O O') : QSt w w' f D T' g n b M N := by
  obtain ⟨g', a1, a2, a3, a4, a5⟩ := h.turn hO p st
  have hb : w'.heap[b]? = w.heap[b]? := st.wt.block b t.tab.lt (fun o => by have := hO b o; rw [t.off] at this; cases this)
  exact ⟨⟨g', a1, t.sameK hb a2 a3, a2, a3, a4, a5⟩, st.wt.mono (fun i hi => .inl (by rw [hO i hi]; rfl))⟩
theorem QSt.upon (hb : Below w.heap.size w w1) (h : QSt w1 w' f D T' g n b M N) : QSt w w' f D T' g n b M N := by
  obtain ⟨⟨g', a1, a2, a3, a4⟩, wt⟩ := h
  exact ⟨⟨g', a1, a2, fun i hi => a3 i (Nat.lt_of_lt_of_le hi hb.size), a4⟩, (Wt.below _ hb).trans wt⟩
theorem QSt.go (h : QSt w w' f D T' g n b M N) : QGo w w' f { D with T := T' } g b N := by
  obtain ⟨⟨g', a1, a2, a3, a4, a5, _⟩, wt⟩ := h
  exact ⟨⟨g', n, M, a1, a2, a3, fun k d hk _ => by rw [a4]; exact hk, a5⟩, wt⟩
theorem Wt.weaken {A A' : Nat → Prop} (h : Wt A w w') (k : Wt A' w' w2) (hA : ∀ i, i < w.heap.size → A' i → A i) : Wt A w w2 :=
  ⟨k.os.trans h.os, k.tape.trans h.tape, k.output.trans h.output, Nat.le_trans h.size k.size, fun i hi hn => (k.block i (Nat.lt_of_lt_of_le hi h.size) (fun z => hn (hA i hi z))).trans (h.block i hi hn)⟩
theorem QGo.after (hx : ∀ i, i < w.heap.size → g1.kap i = g.kap i) (hK : g1.K = g.K) (hr : g1.r = g.r) (wt : Wt (fun i => (g.kap i).isSome = true ∨ i = b) w w1) (h : QGo w1 w2 f D' g1 b N') : QGo w w2 f D' g b N' := by
  obtain ⟨⟨g', n', M', a1, a2, a3⟩, wt2⟩ := h
  refine ⟨⟨g', n', M', a1, a2, ⟨fun i hi => (a3.kap i (Nat.lt_of_lt_of_le hi wt.size)).trans (hx i hi), fun k d hk hd => a3.key k d (by rw [hK]; exact hk) hd, a3.r.trans hr⟩⟩, wt.weaken wt2 (fun i hi z => by
    rcases z with z | z
    · exact .inl (by rw [← hx i hi]; exact z)
    · exact .inr z)⟩
theorem cell_below {v : Value} {q : Nat} (hg : w.cell? ⟨q, 0, none⟩ = some v) (hb : Below w.heap.size w w') : w'.cell? ⟨q, 0, none⟩ = some v := by
  rw [hb.cell (p := ⟨q, 0, none⟩) (World.block_lt_of_cell? w _ hg)]; exact hg
end
end Go.Proofs.YtcfhanoekniaaaaGreatDoor

namespace Go.Proofs.YtcfhanoekniaaaaGreatDoor
open Go.RowKit Go.Maps

section
variable {w w' w2 w0 w1 : World} {f b n q k j : Nat} {D D' D1 D2 : DS} {g g' g1 : QG} {M M1 N N' N1 N2 : Ns} {d m : Int} {e : En} {T' : Wd} {Ts : List Ns}
theorem QGo.comp (h : QF w f D g n) (wt : Wt (fun i => (g.kap i).isSome = true ∨ i = b) w w1) (hx : Ext w D1 g g1) (h2 : QGo w1 w2 f D2 g1 b N2) (hs : ∀ d, (D.E d).isSome = true → (D2.E d).isSome = true → (D1.E d).isSome = true) : QGo w w2 f D2 g b N2 := by
  obtain ⟨⟨g2, n2, M2, a1, a2, a3⟩, wt2⟩ := h2
  refine ⟨⟨g2, n2, M2, a1, a2, ⟨fun i hi => (a3.kap i (Nat.lt_of_lt_of_le hi wt.size)).trans (hx.kap i hi), fun k d hk hd => a3.key k d (hx.key k d hk (hs d (h.key k d hk).1 hd)) hd, a3.r.trans hx.r⟩⟩, wt.weaken wt2 (fun i hi z => ?_)⟩
  rcases z with z | z
  · exact .inl (by rw [← hx.kap i hi]; exact z)
  · exact .inr z
/-- One number looked at. -/
theorem QGo.freed (h : QF w f D g n) (I : Inv D Ts k) (hk : k ≤ 900) (hj : j < Ts.length) (hN : Ts[j] = N) {all : Bool} {i : Nat} (hi : i < 8) (hiL : i < N.length) (h0 : 0 < N[i].1) (ha : all = true ∨ N[i].2 = true) (hG : QGo w w1 f (freeS all D N i).1 g b (freeS all D N i).2) :
    Calls Tryz.prog 142 #[wp f, wp b, .int .i64 (i : Int)] w1 fun x w' => x = .returned (.tuple #[]) ∧ QGo w w' f (freeS all D N (i + 1)).1 g b (freeS all D N (i + 1)).2 := by
  have hiF : i < (freeS all D N i).2.length := by rw [(freeS_tab all D N i).1]; exact hiL
  have hat := freeS_at (D := D) (all := all) hiL hiF
  have hD : N.getD i (0, false) = N[i] := by rw [List.getD_eq_getElem?_getD, List.getElem?_eq_getElem hiL]; rfl
  have e1 : freeS all D N (i + 1) = (closeK (freeS all D N i).1 N[i].1, (freeS all D N i).2.set i (0, false)) := by
    rw [freeS, hD, if_pos ⟨h0, ha⟩]
  have I1 := I.free hk hj all i (by omega)
  have I2 := I.free hk hj all (i + 1) (by omega)
  rw [hN] at I1 I2
  rw [e1] at I2 ⊢
  have hj1 : j < (Ts.set j (freeS all D N i).2).length := by rw [List.length_set]; exact hj
  have hj2 : j < (Ts.set j ((freeS all D N i).2.set i (0, false))).length := by rw [List.length_set]; exact hj
  have hg1 := getT_set hj (freeS all D N i).2 hj1
  have hg2 := getT_set hj ((freeS all D N i).2.set i (0, false)) hj2
  have hl := I2.live hj2
  rw [hg2] at hl
  have hcn := I1.cl hj1 (i := i) (by rw [hg1]; exact hiF)
  simp only [hg1] at hcn
  rw [hat] at hcn
  obtain ⟨e, cl⟩ := hcn h0
  obtain ⟨⟨g1, n1, M1, a1, a2, a3⟩, wt⟩ := hG
  have hf := a1.free_ok a2 hi hiF (by rw [hat]; exact h0) (e := e) (c := cntS N[i].1 (Ts.set j (freeS all D N i).2)) (by rw [hat]; exact cl) (by rw [hat]; exact hl)
  rw [hat] at hf
  refine hf.mono ?_
  rintro x w' ⟨rfl, hG2⟩
  exact ⟨rfl, QGo.comp h wt a3 hG2 (fun d _ hd => closeK_sub hd)⟩
theorem freeS_skip {all : Bool} {i : Nat} (hiL : i < N.length) (hc : ¬ (0 < N[i].1 ∧ (all = true ∨ N[i].2 = true))) : freeS all D N (i + 1) = freeS all D N i := by
  have hD : N.getD i (0, false) = N[i] := by rw [List.getD_eq_getElem?_getD, List.getElem?_eq_getElem hiL]; rfl
  rw [freeS, hD, if_neg hc]
/-- What a number of the table is, however far it was looked at. -/
theorem QGo.atIs {all : Bool} {i : Nat} (hi : i < 8) (hiL : i < N.length) (hG : QGo w w1 f (freeS all D N i).1 g b (freeS all D N i).2) : ∃ x : Int × Bool, Calls Tryz.prog 217 #[wp b, .int .i64 (i : Int)] w1 (fun e w' => e = .returned (.agg #[.int .i64 x.1, .bool x.2]) ∧ QGo w w' f (freeS all D N i).1 g b (freeS all D N i).2) ∧ (x.1 = 0 ↔ N[i].1 = 0) ∧ 0 ≤ N[i].1 ∧ x.2 = N[i].2 ∧ (x.1 = 0 → x.2 = false) := by
  have hiF : i < (freeS all D N i).2.length := by rw [(freeS_tab all D N i).1]; exact hiL
  have hat := freeS_at (D := D) (all := all) hiL hiF
  have hG' := hG
  obtain ⟨⟨g1, n1, M1, a1, a2, a3⟩, wt⟩ := hG
  have hM : i < M1.length := by rw [a2.tab.len]; exact hi
  have h1 := a2.tab.at_ok i
  rw [atM_in a2.tab.len hi] at h1
  have hp := (a2.pos a1 i hM hiF).2
  have hr := (a2.rel i hM hiF).1
  rw [hat] at hp hr
  have hnn := a2.nnAt i hiF
  rw [hat] at hnn
  refine ⟨M1[i], h1.mono ?_, hp, hnn, hr.symm, (a2.tab.nn hM).2.2⟩
  rintro e w' ⟨rfl, b1⟩
  exact ⟨rfl, ⟨⟨g1, n1, M1, a1.below b1, a2.below b1, a3⟩, wt.trans (Wt.below _ b1)⟩⟩
theorem QGo.behind (h : QGo w w1 f D' g b N') (hb : Below w1.heap.size w1 w2) : QGo w w2 f D' g b N' := by
  obtain ⟨⟨g1, n1, M1, a1, a2, a3⟩, wt⟩ := h
  exact ⟨⟨g1, n1, M1, a1.below hb, a2.below hb, a3⟩, wt.trans (Wt.below _ hb)⟩
set_option maxRecDepth 100000 in
set_option maxHeartbeats 4000000 in
theorem QF.clear_ok (h : QF w f D g n) (t : QTb w b g M N) (I : Inv D Ts k) (hk : k ≤ 900) (hj : j < Ts.length) (hN : Ts[j] = N) :
    Calls Tryz.prog 250 #[wp f, wp b] w fun y w' => y = .returned (.tuple #[]) ∧ QGo w w' f (freeS true D N 8).1 g b (freeS true D N 8).2 := by
  have hL : N.length = 8 := t.len
  have hG0 : QGo w w f (freeS true D N 0).1 g b (freeS true D N 0).2 := h.same t (Below.refl _ _)
  have HA : Aside (∀ i (hi : i < 8) (hiL : i < N.length) W, QGo w W f (freeS true D N i).1 g b (freeS true D N i).2 → ∃ x : Int × Bool, Calls Tryz.prog 217 #[wp b, .int .i64 (i : Int)] W (fun e w' => e = .returned (.agg #[.int .i64 x.1, .bool x.2]) ∧ QGo w w' f (freeS true D N i).1 g b (freeS true D N i).2) ∧ (x.1 = 0 ↔ N[i].1 = 0) ∧ 0 ≤ N[i].1 ∧ x.2 = N[i].2 ∧ (x.1 = 0 → x.2 = false)) := fun i hi hiL W hG => QGo.atIs hi hiL hG
  have HF : Aside (∀ i (hi : i < 8) (hiL : i < N.length) W, 0 < N[i].1 → (true = true ∨ N[i].2 = true) → QGo w W f (freeS true D N i).1 g b (freeS true D N i).2 → Calls Tryz.prog 142 #[wp f, wp b, .int .i64 (i : Int)] W fun x w' => x = .returned (.tuple #[]) ∧ QGo w w' f (freeS true D N (i + 1)).1 g b (freeS true D N (i + 1)).2) := fun i hi hiL W h0 ha hG => QGo.freed h I hk hj hN hi hiL h0 ha hG
  have HS : Aside (∀ i (hiL : i < N.length) W, ¬ (0 < N[i].1 ∧ (true = true ∨ N[i].2 = true)) → QGo w W f (freeS true D N i).1 g b (freeS true D N i).2 → QGo w W f (freeS true D N (i + 1)).1 g b (freeS true D N (i + 1)).2) := fun i hiL W h0 hG => by
    rw [freeS_skip hiL h0]; exact hG
  have HL : Aside (N.length = 8) := hL
  have hfm := num_mark
  clear h t I hk hN hj hL
  go_enter Tryz.func250, Tryz.ntmps250
  go_wp2_with fail
  go_loopg [4, 5] 8 (fun mm _ s5 wx => ∃ i : Nat, Aside (i + mm = 8) ∧ s5 = .int .i64 (i : Int) ∧ QGo w wx f (freeS true D N i).1 g b (freeS true D N i).2)
  case atStart => exact ⟨0, rfl, rfl, hG0⟩
  case round =>
    obtain ⟨i, HI, rfl, hG⟩ := hrel
    have hi9' : (i : Int) ≤ 8 := by have := HI.out; omega
    by_cases hlt : (i : Int) < 8
    · have HiL : Aside (i < N.length) := by show i < N.length; have := HL.out; omega
      have Hi8 : Aside (i < 8) := by show i < 8; omega
      obtain ⟨⟨X, Y⟩, hAt, hx0, hnn, hy, hfr⟩ := HA.out i Hi8.out HiL.out _ hG
      simp only at hAt hx0 hy hfr
      by_cases hX : X = 0
      · have HN0 : Aside (¬ (0 < (N[i]'HiL.out).1 ∧ (true = true ∨ (N[i]'HiL.out).2 = true))) := fun z => by have := hx0.1 hX; omega
        subst hX
        clear hG hx0 hnn hy hfr
        go_wp2_with (first
          | (go_at_call 217; refine hAt.mono ?_; rintro e w1 ⟨rfl, hG1⟩)
          | (go_at_call 218; refine (isFree_ok _ 0 _).mono ?_; rintro e w2 ⟨rfl, b2⟩))
        go_roundg (7 - i)
        case measure => have := HI.out; omega
        case rel => exact ⟨i + 1, (show i + 1 + (7 - i) = 8 by omega), by rfl, HS.out i HiL.out _ HN0.out (hG1.behind b2)⟩
      · have HN0 : Aside (0 < (N[i]'HiL.out).1 ∧ (true = true ∨ (N[i]'HiL.out).2 = true)) := ⟨by have : (N[i]'HiL.out).1 ≠ 0 := fun z => hX (hx0.2 z); omega, .inl rfl⟩
        have hX' : (X == 0) = false := by simpa using hX
        clear hG hx0 hnn hy hfr hX
        go_wp2_with (first
          | (go_at_call 217; refine hAt.mono ?_; rintro e w1 ⟨rfl, hG1⟩)
          | (go_at_call 218; refine (isFree_ok _ X _).mono ?_; rintro e w2 ⟨rfl, b2⟩; have hFr := HF.out i Hi8.out HiL.out _ HN0.out.1 HN0.out.2 (hG1.behind b2))
          | (go_at_call 142; refine hFr.mono ?_; rintro e w3 ⟨rfl, hG3⟩))
        go_roundg (7 - i)
        case measure => have := HI.out; omega
        case rel => exact ⟨i + 1, (show i + 1 + (7 - i) = 8 by omega), by rfl, hG3⟩
    · have H8 : Aside (i = 8) := by show i = 8; omega
      have hG8 : QGo w wr f (freeS true D N 8).1 g b (freeS true D N 8).2 := by rw [← H8.out]; exact hG
      clear hG
      go_wp2_with fail
      go_end0
      exact ⟨rfl, hG8⟩
end
end Go.Proofs.YtcfhanoekniaaaaGreatDoor

namespace Go.Proofs.YtcfhanoekniaaaaGreatDoor
open Go.RowKit Go.Maps

theorem fork_take {D : DS} {N : Ns} {i : Nat} (hi : i < N.length) : forkD D (N.take (i + 1)) = if 0 < N[i].1 then incR (forkD D (N.take i)) N[i].1 else forkD D (N.take i) := by
  unfold forkD
  rw [List.take_succ_eq_append_getElem hi, List.foldl_append]
  rfl
/-- The first numbers of a table; the others are free. -/
def upTo (N : Ns) (i : Nat) : Ns := N.take i ++ List.replicate (8 - i) (0, false)
theorem upTo_len {N : Ns} (h : N.length = 8) {i : Nat} (hi : i ≤ 8) : (upTo N i).length = 8 := by
  unfold upTo; rw [List.length_append, List.length_take, List.length_replicate]; omega
theorem upTo_all {N : Ns} (h : N.length = 8) : upTo N 8 = N := by
  unfold upTo; rw [List.take_of_length_le (by omega)]; simp
theorem upTo_set {N : Ns} (h : N.length = 8) {i : Nat} (hi : i < 8) : (upTo N i).set i (N[i]'(by omega)) = upTo N (i + 1) := by
  unfold upTo
  rw [List.set_append, List.length_take, if_neg (by omega), show 8 - i = (8 - (i + 1)) + 1 by omega, List.replicate_succ, List.take_succ_eq_append_getElem (by omega), show i - min i N.length = 0 by omega, List.append_assoc]
  rfl
theorem upTo_free {N : Ns} (h : N.length = 8) {i : Nat} (hi : i < 8) (h0 : N[i]'(by omega) = (0, false)) : upTo N (i + 1) = upTo N i := by
  rw [← upTo_set h hi, h0]
  unfold upTo
  rw [List.set_append, List.length_take, if_neg (by omega), show 8 - i = (8 - (i + 1)) + 1 by omega, List.replicate_succ, show i - min i N.length = 0 by omega]
  rfl
section
variable {w w' w2 w0 w1 : World} {f b n q k j : Nat} {D D' D1 D2 : DS} {g g' g1 : QG} {M M1 N N' N1 N2 : Ns} {d m : Int} {e : En} {T' : Wd} {Ts : List Ns}
/-- So many numbers forked. -/
structure FkS (w W : World) (f b n : Nat) (D : DS) (g : QG) (M N : Ns) (i : Nat) : Prop where
  q : QF W f (forkD D (N.take i)) g n
  t : QTb W b g M N
  u : QTb W w.heap.size g (upTo M i) (upTo N i)
  wt : Wt (fun i => (g.kap i).isSome = true) w W
  lt : b < w.heap.size
theorem FkS.below {W : World} {i : Nat} (h : FkS w W f b n D g M N i) (hb : Below W.heap.size W w') : FkS w w' f b n D g M N i := ⟨h.q.below hb, h.t.below hb, h.u.below hb, h.wt.trans (Wt.below _ hb), h.lt⟩
theorem kap_new (h : QF w f D g n) : g.kap w.heap.size = none := by
  cases e : g.kap w.heap.size with
  | none => rfl
  | some t => have := h.lt _ (by rw [e]; rfl); omega
/-- One more. -/
theorem FkS.give {W : World} {i : Nat} (h : FkS w W f b n D g M N i) (I : Inv D Ts k) (hj : j < Ts.length) (hN : Ts[j] = N) (hi : i < 8) (hiM : i < M.length) (hiL : i < N.length) (h0 : 0 < N[i].1) :
    Calls Tryz.prog 239 #[wp f, wp w.heap.size, .int .i64 (i : Int), .int .i64 M[i].1] W fun x w' => x = .returned (.tuple #[]) ∧ w'.cell? ⟨b, i * 2 + 1, none⟩ = some (.bool M[i].2) ∧ (∃ v, w'.cell? ⟨w.heap.size, i * 2 + 1, none⟩ = some v) ∧ w'.frozen? ⟨w.heap.size, i * 2 + 1, none⟩ = false ∧ ∀ V, V.heap = (w'.setCell ⟨w.heap.size, i * 2 + 1, none⟩ (.bool M[i].2)).heap → V.os = w'.os → V.tape = w'.tape → V.output = w'.output → FkS w V f b n D g M N (i + 1) := by
  have hk := h.t.keyOf hiM hiL h0
  have hMl := h.t.tab.len
  have hNl := h.t.len
  have hIc := InvC.fork (N.take i) I.core (fun x hx hx0 => by
    rw [← hN] at hx
    obtain ⟨y, hy, rfl⟩ := List.getElem_of_mem (List.mem_of_mem_take hx)
    exact cntS_pos hj hy)
  have hcp : 0 < cntS N[i].1 Ts := by
    have := cntS_pos (Ts := Ts) (j := j) (i := i) hj (by rw [hN]; exact hiL)
    simp only [hN] at this
    exact this
  have h64 := I.few64 N[i].1
  have hcl := cntN_le N[i].1 (N.take i)
  rw [List.length_take] at hcl
  obtain ⟨e, cl⟩ := hIc.cl h0 (by omega) (by omega)
  have hR := cl.cnt
  refine (h.q.give_go h.u hi hk h0 cl.ent hR (by omega) cl.c1).mono ?_
  rintro x w' ⟨rfl, a1, a2, hG⟩
  have hk0 := (h.q.key _ _ hk).2.1
  have hub : (upTo M i).length = 8 := upTo_len hMl (by omega)
  have hwt := hG.wt
  have hbw : b ≠ w.heap.size := fun e9 => by have := h.lt; omega
  have hbk : w'.heap[b]? = W.heap[b]? := hwt.block b h.t.tab.lt (by
    rintro (z | z)
    · rw [h.t.off] at z; cases z
    · exact hbw z)
  have t1 : QTb w' b g M N := h.t.keep hbk
  refine ⟨rfl, (t1.tab.at hi).2, ⟨_, (a2.tab.at hi).2⟩, a2.tab.free _, fun V hV ho ht hou => ?_⟩
  have hm0 : ((upTo M i).set i (M[i].1, false))[i]'(by rw [List.length_set, hub]; exact hi) = (M[i].1, false) := List.getElem_set_self _
  have tm := a2.tab.mark hi M[i].2 (by rw [hm0]; simp only; omega)
  rw [hm0] at tm
  simp only [List.set_set] at tm
  have hMi : (upTo M i).set i (M[i].1, M[i].2) = upTo M (i + 1) := upTo_set hMl hi
  have hNi : (upTo N i).set i (N[i].1, N[i].2) = upTo N (i + 1) := upTo_set hNl hi
  have tu := a2.set (i := i) (M[i].1, M[i].2) (N[i].1, N[i].2) (by rw [List.set_set]; exact tm) ⟨(h.t.rel i hiM hiL).1, .inr ⟨h0, hk⟩⟩
  rw [List.set_set, List.set_set, hMi, hNi] at tu
  have gg := tgrown_set w' w.heap.size (i * 2 + 1) (.bool M[i].2)
  have q1 := a1.offTab h.u.off gg
  have hsz : V.heap.size = (w'.setCell ⟨w.heap.size, i * 2 + 1, none⟩ (.bool M[i].2)).heap.size := by rw [hV]
  have hD : forkD D (N.take (i + 1)) = incR (forkD D (N.take i)) N[i].1 := by rw [fork_take hiL, if_pos h0]
  refine ⟨by rw [hD]; exact q1.keep (fun x _ => by rw [hV]) (by omega), t1.keep (by rw [hV]; exact gg.block b (t1.tab.lt) (fun z => hbw (Option.some.inj z))), tu.keep (by rw [hV]), ?_, h.lt⟩
  refine ⟨ho.trans (hwt.os.trans h.wt.os), ht.trans (hwt.tape.trans h.wt.tape), hou.trans (hwt.output.trans h.wt.output), ?_, fun x hx hA => ?_⟩
  · have := gg.size; have := hwt.size; have := h.wt.size; omega
  · have := h.wt.size
    have := hwt.size
    rw [hV, gg.block x (by omega) (fun z => by have := Option.some.inj z; omega), hwt.block x (by omega) (by
      rintro (z | z)
      · exact hA z
      · omega)]
    exact h.wt.block x hx hA
/-- A number that is free. -/
theorem FkS.skip {W : World} {i : Nat} (h : FkS w W f b n D g M N i) (hi : i < 8) (hiM : i < M.length) (hiL : i < N.length) (h0 : ¬ 0 < N[i].1) : FkS w W f b n D g M N (i + 1) := by
  have hr := h.t.rel i hiM hiL
  have hM0 : M[i].1 = 0 ∧ N[i].1 = 0 := by
    rcases hr.2 with z | z
    · exact z
    · exact absurd z.1 h0
  have hm := (h.t.tab.nn hiM).2.2 hM0.1
  have hMi : M[i] = (0, false) := Prod.ext hM0.1 hm
  have hNi : N[i] = (0, false) := Prod.ext hM0.2 (hr.1.trans hm)
  refine ⟨by rw [fork_take hiL, if_neg h0]; exact h.q, h.t, ?_, h.wt, h.lt⟩
  rw [upTo_free h.t.tab.len hi hMi, upTo_free h.t.len hi hNi]
  exact h.u
theorem FkS.first (h : QF w f D g n) (t : QTb w b g M N) : FkS w (w.alloc (.cells (nv (List.replicate 8 (0, false))).toArray 216)) f b n D g M N 0 := by
  have bA : Below w.heap.size w (w.alloc (.cells (nv (List.replicate 8 (0, false))).toArray 216)) := (Below.refl _ w).alloc (Nat.le_refl _) _
  have hn : (w.alloc (.cells (nv (List.replicate 8 (0, false))).toArray 216)).heap[w.heap.size]? = some (.cells (nv (List.replicate 8 (0, false))).toArray 216) := by
    show (w.heap.push _)[w.heap.size]? = _
    rw [Array.getElem?_push, if_pos rfl]
  refine ⟨h.below bA, t.below bA, ⟨⟨hn, rfl, fun x hx => ?_⟩, kap_new h, rfl, fun i h1 h2 => ?_⟩, Wt.below _ bA, t.tab.lt⟩
  · have := List.eq_of_mem_replicate (show x ∈ List.replicate 8 ((0 : Int), false) from hx)
    rw [this]; simp
  · have e1 : (upTo M 0)[i] = (0, false) := List.eq_of_mem_replicate (show (upTo M 0)[i] ∈ List.replicate 8 ((0 : Int), false) from List.getElem_mem h1)
    have e2 : (upTo N 0)[i] = (0, false) := List.eq_of_mem_replicate (show (upTo N 0)[i] ∈ List.replicate 8 ((0 : Int), false) from List.getElem_mem h2)
    exact ⟨(congrArg Prod.snd e2).trans (congrArg Prod.snd e1).symm, .inl ⟨congrArg Prod.fst e1, congrArg Prod.fst e2⟩⟩
set_option maxRecDepth 100000 in
set_option maxHeartbeats 4000000 in
theorem QF.fork_ok (h : QF w f D g n) (t : QTb w b g M N) (I : Inv D Ts k) (hj : j < Ts.length) (hN : Ts[j] = N) :
    Calls Tryz.prog 140 #[wp f, wp b] w fun y w' => y = .returned (wp w.heap.size) ∧ QF w' f (forkD D N) g n ∧ QTb w' b g M N ∧ QTb w' w.heap.size g M N ∧ Wt (fun i => (g.kap i).isSome = true) w w' := by
  have hF0 := FkS.first h t
  have HL : Aside (N.length = 8 ∧ M.length = 8) := ⟨t.len, t.tab.len⟩
  have HG : Aside (∀ (W : World) (i : Nat), FkS w W f b n D g M N i → i < 8 → ∀ (hiM : i < M.length) (hiL : i < N.length), 0 < N[i].1 → Calls Tryz.prog 239 #[wp f, wp w.heap.size, .int .i64 (i : Int), .int .i64 M[i].1] W fun x w' => x = .returned (.tuple #[]) ∧ w'.cell? ⟨b, i * 2 + 1, none⟩ = some (.bool M[i].2) ∧ (∃ v, w'.cell? ⟨w.heap.size, i * 2 + 1, none⟩ = some v) ∧ w'.frozen? ⟨w.heap.size, i * 2 + 1, none⟩ = false ∧ ∀ V, V.heap = (w'.setCell ⟨w.heap.size, i * 2 + 1, none⟩ (.bool M[i].2)).heap → V.os = w'.os → V.tape = w'.tape → V.output = w'.output → FkS w V f b n D g M N (i + 1)) := fun W i hF hi hiM hiL h0 => hF.give I hj hN hi hiM hiL h0
  have HFd : Aside (∀ (W : World) (i : Nat), FkS w W f b n D g M N i → i < 8 → ∀ (hiM : i < M.length) (hiL : i < N.length), 0 < N[i].1 → Calls Tryz.prog 141 #[wp f, wp b, .int .i64 (i : Int)] W fun x w' => ∃ q, x = .returned (.tuple #[wp q, .nilIface]) ∧ FkS w w' f b n D g M N i ∧ w'.cell? ⟨b, i * 2, none⟩ = some (.int .i64 M[i].1)) := fun W i hF hi hiM hiL h0 => by
    refine (hF.q.find_yes hF.t hi hiL h0).mono ?_
    rintro x w' ⟨rfl, b1⟩
    have hF1 := hF.below b1
    exact ⟨_, rfl, hF1, (hF1.t.tab.at hi).1⟩
  have HFn : Aside (∀ (W : World) (i : Nat), FkS w W f b n D g M N i → i < 8 → ∀ (hiL : i < N.length), N[i].1 ≤ 0 → Calls Tryz.prog 141 #[wp f, wp b, .int .i64 (i : Int)] W fun x w' => x = .returned (.tuple #[.pointer none, uer 7]) ∧ FkS w w' f b n D g M N (i + 1)) := fun W i hF hi hiL h0 => by
    refine (hF.q.find_no hF.t i (by unfold hasN; rw [getD_in hiL]; simp; omega)).mono ?_
    rintro x w' ⟨rfl, b1⟩
    exact ⟨rfl, (hF.below b1).skip hi (by have := hF.t.tab.len; omega) hiL (by omega)⟩
  clear h t I hj hN
  go_enter Tryz.func140, Tryz.ntmps140
  go_wp2_with fail
  go_loopg [6, 7, 8, 11] 8 (fun mm _ _ _ s11 wx => ∃ i : Nat, Aside (i + mm = 8) ∧ s11 = .int .i64 (i : Int) ∧ FkS w wx f b n D g M N i)
  case atStart => exact ⟨0, rfl, rfl, hF0⟩
  case round =>
    obtain ⟨i, HI, rfl, hF⟩ := hrel
    have hi9' : (i : Int) ≤ 8 := by have := HI.out; omega
    by_cases hlt : (i : Int) < 8
    · have HiL : Aside (i < N.length) := by show i < N.length; have := HL.out; omega
      have HiM : Aside (i < M.length) := by show i < M.length; have := HL.out; omega
      have Hi8 : Aside (i < 8) := by show i < 8; omega
      by_cases h0 : 0 < (N[i]'HiL.out).1
      · have hFi := HFd.out _ i hF Hi8.out HiM.out HiL.out h0
        have H0 : Aside (0 < (N[i]'HiL.out).1) := h0
        have HGv : Aside (∀ W, FkS w W f b n D g M N i → _) := fun W hW => HG.out W i hW Hi8.out HiM.out HiL.out H0.out
        generalize (M[i]'HiM.out).1 = X at *
        generalize (M[i]'HiM.out).2 = Y at *
        clear h0 hF H0
        go_upto_region 7 with (go_at_call 141; refine hFi.mono ?_; rintro x w2 ⟨q, rfl, hF2, c2⟩)
        have hGv := HGv.out _ hF2
        clear hFi hF2
        go_upto_region 8 with (go_at_call 239; refine hGv.mono ?_; rintro x w3 ⟨rfl, c3, ⟨v, c4⟩, z4, hN⟩)
        have HN : Aside _ := hN
        clear hN hGv c2
        go_region
        all_goals
          go_wp2_with fail
          go_roundg (7 - i)
          case measure => have := HI.out; omega
          case rel => exact ⟨i + 1, (show i + 1 + (7 - i) = 8 by omega), by rfl, HN.out _ rfl rfl rfl rfl⟩
      · have hFi := HFn.out _ i hF Hi8.out HiL.out (by omega)
        clear h0 hF
        go_wp2_with (go_at_call 141; refine hFi.mono ?_; rintro x w2 ⟨rfl, hF2⟩)
        go_roundg (7 - i)
        case measure => have := HI.out; omega
        case rel => exact ⟨i + 1, (show i + 1 + (7 - i) = 8 by omega), by rfl, hF2⟩
    · have h8 : i = 8 := by omega
      subst h8
      have hq := hF.q
      have hu := hF.u
      have ht := hF.t
      have hw := hF.wt
      rw [List.take_of_length_le (by have := HL.out; omega)] at hq
      rw [upTo_all HL.out.1, upTo_all HL.out.2] at hu
      clear hF
      go_wp2_with fail
      go_ret
      exact ⟨rfl, hq, ht, hu, hw⟩
end
end Go.Proofs.YtcfhanoekniaaaaGreatDoor

namespace Go.Proofs.YtcfhanoekniaaaaGreatDoor
open Go.RowKit Go.Maps

section
variable {w w' w2 w0 w1 : World} {r : Nat} {T : Wd} {O : Nat → Prop}
theorem tre_ne (b : Nat) (w : World) : (binOp BinOp.eql 94 (wp b) (.pointer none)).run Tryz.prog w = .ok (.bool false) w := by kernel_rfl
theorem QF.made (h : PT w r T O) : ∃ g, QF ((w.alloc (.map #[] 0)).alloc (.cells #[wp r, .map (some w.heap.size)] 209)) (w.heap.size + 1) (noneD T) g 0 ∧ (∀ i, i < w.heap.size → ((g.kap i).isSome = true ↔ O i)) ∧ g.r = r := by
  classical
  have b1 : Below w.heap.size w (w.alloc (.map #[] 0)) := (Below.refl _ w).alloc (Nat.le_refl _) _
  have hs1 : (w.alloc (.map #[] 0)).heap.size = w.heap.size + 1 := by simp
  have b2 : Below w.heap.size w ((w.alloc (.map #[] 0)).alloc (.cells #[wp r, .map (some w.heap.size)] 209)) := b1.alloc (by omega) _
  have hs2 : ((w.alloc (.map #[] 0)).alloc (.cells #[wp r, .map (some w.heap.size)] 209)).heap.size = w.heap.size + 1 + 1 := by
    show ((w.alloc (.map #[] 0)).heap.push _).size = _
    rw [Array.size_push, hs1]
  have hO : ∀ i, O i → i < w.heap.size := fun i hi => h.lt i hi
  have hk : ∀ i, O i → (if i = w.heap.size + 1 then some Tag.head else if i = w.heap.size then some Tag.mp else if O i then some Tag.tree else none) = some Tag.tree := fun i hi => by
    have := hO i hi
    rw [if_neg (by omega), if_neg (by omega), if_pos hi]
  refine ⟨⟨r, w.heap.size, fun _ => none, fun _ => 0, fun _ => 0, fun i => if i = w.heap.size + 1 then some .head else if i = w.heap.size then some .mp else if O i then some .tree else none⟩, ⟨?_, ⟨O, h.below b2, hk⟩, ?_, fun d e he => (by cases he), fun k d he => (by cases he), fun d he => (by cases he), fun k k' d he => (by cases he), fun p x he => (by cases he), if_pos rfl, ?_, fun i hi => ?_⟩, fun i hi => ?_, rfl⟩
  · show ((w.alloc (.map #[] 0)).heap.push _)[w.heap.size + 1]? = _
    rw [Array.getElem?_push, if_pos hs1.symm]
  · exact (PMap.made w).keep (Below.heap_alloc _ _ _ (by rw [hs1]; omega))
  · show (if w.heap.size = w.heap.size + 1 then some Tag.head else if w.heap.size = w.heap.size then some Tag.mp else _) = some Tag.mp
    rw [if_neg (by omega), if_pos rfl]
  · have hi' : (if i = w.heap.size + 1 then some Tag.head else if i = w.heap.size then some Tag.mp else if O i then some Tag.tree else none).isSome = true := hi
    rw [hs2]
    by_cases e1 : i = w.heap.size + 1
    · omega
    · by_cases e2 : i = w.heap.size
      · omega
      · rw [if_neg e1, if_neg e2] at hi'
        by_cases e3 : O i
        · have := hO i e3; omega
        · rw [if_neg e3] at hi'; cases hi'
  · show ((if i = w.heap.size + 1 then some Tag.head else if i = w.heap.size then some Tag.mp else if O i then some Tag.tree else none).isSome = true ↔ O i)
    rw [if_neg (by omega), if_neg (by omega)]
    by_cases e3 : O i
    · simp [e3]
    · simp [e3]
theorem QNew.ok (h : PT w r T O) : Calls Tryz.prog 48 #[wp r] w fun y w' => ∃ f g, y = .returned (.tuple #[wp f, .nilIface]) ∧ QF w' f (noneD T) g 0 ∧ (∀ i, i < w.heap.size → ((g.kap i).isSome = true ↔ O i)) ∧ g.r = r ∧ Below w.heap.size w w' := by
  have h9 := tre_ne r
  have hmm := @run_makeMap Tryz.prog
  have hM := QF.made h
  have b1 : Below w.heap.size w (w.alloc (.map #[] 0)) := (Below.refl _ w).alloc (Nat.le_refl _) _
  have hs1 : (w.alloc (.map #[] 0)).heap.size = w.heap.size + 1 := by simp
  have b2 : Below w.heap.size w ((w.alloc (.map #[] 0)).alloc (.cells #[wp r, .map (some w.heap.size)] 209)) := b1.alloc (by omega) _
  have HM : Aside (∃ g, QF ((w.alloc (.map #[] 0)).alloc (.cells #[wp r, .map (some w.heap.size)] 209)) (w.heap.size + 1) (noneD T) g 0 ∧ (∀ i, i < w.heap.size → ((g.kap i).isSome = true ↔ O i)) ∧ g.r = r) := hM
  clear hM hs1 b1 h
  go_enter Tryz.func48, Tryz.ntmps48
  go_wp2_with fail
  go_ret2
  obtain ⟨g, a1, a2, a3⟩ := HM.out
  exact ⟨w.heap.size + 1, g, rfl, a1, a2, a3, b2⟩
end
end Go.Proofs.YtcfhanoekniaaaaGreatDoor

namespace Go.Proofs.YtcfhanoekniaaaaGreatDoor
open Go.RowKit Go.Maps

noncomputable def closeD (D : DS) (N : Ns) (x : Int) : DS := if hasN N x = true then closeK D (N.getD x.toNat (0, false)).1 else D
def closeN (N : Ns) (x : Int) : Ns := if hasN N x = true then N.set x.toNat (0, false) else N
def noPipe (N : Ns) (n : Nat) : Prop := usedN N + 2 > 8 ∨ n + 2 > 40
/-- What Pipe comes to. -/
def PipeO (D : DS) (N : Ns) (n : Nat) (x y c : Int) (D' : DS) (N' : Ns) : Prop := (noPipe N n ∧ x = 0 ∧ y = 0 ∧ c = 12 ∧ D' = D ∧ N' = N) ∨ (¬ noPipe N n ∧ x = leastN N ∧ y = leastN (pipeN1 D N) ∧ c = 0 ∧ D' = pipeD D ∧ N' = pipeN D N)
section
variable {D : DS} {Ts : List Ns} {k j i : Nat} {d : Int} {e : En}
theorem used_set : ∀ (N : Ns) (i : Nat) (y : Int × Bool), usedN (N.set i y) ≤ usedN N + 1
  | [], _, _ => by simp [usedN]
  | x :: N, 0, y => by
    simp only [List.set_cons_zero, usedN, List.filter_cons]
    split <;> split <;> simp <;> omega
  | x :: N, i + 1, y => by
    have := used_set N i y
    simp only [List.set_cons_succ, usedN, List.filter_cons] at this ⊢
    split
    · simp; omega
    · exact this
theorem Inv.nn (h : Inv D Ts k) (hj : j < Ts.length) : ∀ x ∈ Ts[j], 0 ≤ x.1 := fun x hx => ((h.tab _ (List.getElem_mem hj)).2 x hx).1
theorem Inv.pipe_room (h : Inv D Ts k) (hj : j < Ts.length) {n : Nat} (hf : ¬ noPipe Ts[j] n) : ¬ leastN Ts[j] < 0 ∧ ¬ leastN (pipeN1 D Ts[j]) < 0 := by
  have h0 := h.core.giv.n0
  have hl := h.len hj
  have hu : usedN Ts[j] + 2 ≤ 8 := by unfold noPipe at hf; omega
  have e1 : ¬ leastN Ts[j] < 0 := fun z => by
    have := (used_least (h.nn hj)).1 z; omega
  refine ⟨e1, fun z => ?_⟩
  have h2 : ∀ x ∈ pipeN1 D Ts[j], 0 ≤ x.1 := fun x hx => by
    unfold pipeN1 addN at hx
    rcases List.mem_or_eq_of_mem_set hx with h1 | h1
    · exact h.nn hj x h1
    · rw [h1]; show 0 ≤ D.nx + 1 + 1; omega
  have h3 := (used_least h2).1 z
  have h4 : usedN (pipeN1 D Ts[j]) ≤ usedN Ts[j] + 1 := used_set _ _ _
  have h5 : (pipeN1 D Ts[j]).length = 8 := by unfold pipeN1 addN; rw [List.length_set]; exact hl
  omega
theorem Inv.closeO (h : Inv D Ts k) (hk : k ≤ 900) (hj : j < Ts.length) (x : Int) : Inv (closeD D Ts[j] x) (Ts.set j (closeN Ts[j] x)) k := by
  unfold closeD closeN
  by_cases hx : hasN Ts[j] x = true
  · obtain ⟨i, rfl, hi, hiL, h0⟩ := hasN_at hx (h.len hj)
    rw [if_pos hx, if_pos hx, getD_in hiL, show (i : Int).toNat = i by omega]
    exact h.close hk hj hiL h0
  · rw [if_neg hx, if_neg hx]; exact h.setSelf hj
end
end Go.Proofs.YtcfhanoekniaaaaGreatDoor

namespace Go.Proofs.YtcfhanoekniaaaaGreatDoor
open Go.RowKit Go.Maps

section
variable {w w' w2 w0 w1 : World} {f b n q : Nat} {D D' : DS} {g g' g1 : QG} {M N N' : Ns} {d k m : Int} {e : En} {T' : Wd}
theorem new_six (w : World) (a b c d e x : Value) (t : TypeId) : (w.alloc (.cells #[a, b, c, d, e, x] t)).heap[w.heap.size]? = some (.cells #[a, b, c, d, e, x] t) := by
  show (w.heap.push _)[w.heap.size]? = _
  rw [Array.getElem?_push, if_pos rfl]
theorem QSt.cell0 (hq : QSt w w1 f D T' g n b M N) : w1.cell? ⟨f, 0, none⟩ = some (wp g.r) := by
  obtain ⟨⟨g1, a1, a2, a3, a4, a5, _⟩, wt⟩ := hq
  rw [← a5]; exact a1.cells.1
end
end Go.Proofs.YtcfhanoekniaaaaGreatDoor

namespace Go.Proofs.YtcfhanoekniaaaaGreatDoor
open Go.RowKit Go.Maps

abbrev pcells : Array Value := #[.int .i64 0, .int .i64 0, .int .i64 0, .int .i64 0, .int .u8 0, .int .u8 0, .int .u8 0, .int .u8 0, .int .u8 0, .int .u8 0, .int .u8 0, .int .u8 0, .int .u8 0, .int .u8 0, .int .u8 0, .int .u8 0, .int .u8 0, .int .u8 0, .int .u8 0, .int .u8 0, .int .i64 0]
theorem new_tb (w : World) (t : TypeId) : Tb (w.alloc (.cells pcells t)) w.heap.size 0 0 [] := by
  have hn : (w.alloc (.cells pcells t)).heap[w.heap.size]? = some (.cells pcells t) := by
    show (w.heap.push _)[w.heap.size]? = _
    rw [Array.getElem?_push, if_pos rfl]
  refine ⟨by simp, ?_, ?_, fun k hk => ?_, ?_, fun k _ => ?_⟩
  · rw [cell_of_row _ _ _ _ _ _ hn]; rfl
  · rw [cell_of_row _ _ _ _ _ _ hn]; rfl
  · rw [cell_of_row _ _ _ _ _ _ hn, bt_out _ _ (Nat.zero_le _)]
    have : k = 0 ∨ k = 1 ∨ k = 2 ∨ k = 3 ∨ k = 4 ∨ k = 5 ∨ k = 6 ∨ k = 7 ∨ k = 8 ∨ k = 9 ∨ k = 10 ∨ k = 11 ∨ k = 12 ∨ k = 13 ∨ k = 14 ∨ k = 15 := by omega
    rcases this with rfl | rfl | rfl | rfl | rfl | rfl | rfl | rfl | rfl | rfl | rfl | rfl | rfl | rfl | rfl | rfl <;> rfl
  · rw [cell_of_row _ _ _ _ _ _ hn]; rfl
  · unfold World.frozen?
    simp only
    rw [hn]
    simp
section
variable {w w' w2 w0 w1 : World} {f b n q : Nat} {D D' : DS} {g g' g1 : QG} {M N N' : Ns} {d k m : Int} {e : En} {T' : Wd}
/-- An end of a pipe is opened. -/
def opP (D : DS) (p : Int) (x : Pi) (kd : Int) : DS := { D with P := fun i => if i = p then some (x.1, opF x.2.1 kd, opI x.2.2 kd) else D.P i }
theorem QF.openEnd (h : QF w f D g n) (t : QTb w b g M N) {p : Int} {x : Pi} (hp : D.P p = some x) (hF : 0 ≤ x.2.1 ∧ x.2.1 < 1000) (hI : 0 ≤ x.2.2 ∧ x.2.2 < 1000) (kd pr : Int) (hkd : kd ≠ 1) (hE : D.E (D.nx + 1) = none) (h0 : 0 ≤ D.nx) (hl : ¬ leastN N < 0) (hL : Live D N) (hn : n < 1000) :
    Calls Tryz.prog 235 #[wp (g.Q p), .int .i64 kd] w fun y w' => (∃ v, y = .returned v) ∧ Calls Tryz.prog 236 #[wp f, wp b, wp w'.heap.size] (w'.alloc (.cells #[.int .i64 kd, .int .i64 pr, .int .i64 0, .int .i64 0, .int .i64 0, wp (g.Q p)] 238)) fun x9 w2 => x9 = .returned (.int .i64 (leastN N)) ∧ QGoQ w w2 f (addD (opP D p x kd) ⟨kd, pr, 0, p, 0⟩) g b (addN D N) (n + 1) := by
  obtain ⟨tb, tk⟩ := h.pipe p x hp
  refine (tb.open_ok kd hF.1 hF.2 hI.1 hI.2).mono ?_
  rintro y w' ⟨rfl, tb', hg⟩
  refine ⟨⟨_, rfl⟩, ?_⟩
  have h1 : QF w' f (opP D p x kd) g n := h.piped hp (x' := (x.1, opF x.2.1 kd, opI x.2.2 kd)) tb' hg
  have t1 := t.offOwn (by rw [tk]; rfl) hg
  have hpv : pv g ⟨kd, pr, 0, p, 0⟩ = wp (g.Q p) := if_neg hkd
  refine (h1.add_ok (e := ⟨kd, pr, 0, p, 0⟩) (q := w'.heap.size) t1 ((Below.refl _ w').alloc (Nat.le_refl _) _) (Nat.le_refl _) (by rw [ecells, hpv]; exact new_six _ _ _ _ _ _ _ _) hE h0 hl hL hn).mono ?_
  rintro z w2 ⟨rfl, ⟨⟨g', M', a, c, x9, y9⟩, wt⟩⟩
  exact ⟨rfl, ⟨g', M', a, c, ⟨fun i hi => x9.kap i (Nat.lt_of_lt_of_le hi hg.size), x9.key, x9.r⟩, y9⟩, (Wt.grown hg (.inl (by rw [tk]; rfl))).trans wt⟩
set_option maxRecDepth 100000 in
set_option maxHeartbeats 4000000 in
theorem QF.addEnd_ok (h : QF w f D g n) (t : QTb w b g M N) {p : Int} {x : Pi} (hp : D.P p = some x) (hF : 0 ≤ x.2.1 ∧ x.2.1 < 1000) (hI : 0 ≤ x.2.2 ∧ x.2.2 < 1000) (kd pr : Int) (hkd : kd ≠ 1) (hE : D.E (D.nx + 1) = none) (h0 : 0 ≤ D.nx) (hl : ¬ leastN N < 0) (hL : Live D N) (hn : n < 1000) :
    Calls Tryz.prog 136 #[wp f, wp b, wp (g.Q p), .int .i64 kd, .int .i64 pr] w fun x9 w2 => x9 = .returned (.int .i64 (leastN N)) ∧ QGoQ w w2 f (addD (opP D p x kd) ⟨kd, pr, 0, p, 0⟩) g b (addN D N) (n + 1) := by
  have hO := h.openEnd t hp hF hI kd pr hkd hE h0 hl hL hn
  generalize addD (opP D p x kd) ⟨kd, pr, 0, p, 0⟩ = D2 at *
  generalize addN D N = N2 at *
  generalize leastN N = L at *
  clear h t hp hF hI hE h0 hl hL hn
  generalize hQ : g.Q p = q at *
  clear hQ
  go_enter Tryz.func136, Tryz.ntmps136
  go_wp2_with (first
    | (go_at_call 235; refine hO.mono ?_; rintro y w1 ⟨⟨v, rfl⟩, hA⟩)
    | (go_at_call 236; refine hA.mono ?_; rintro y w2 ⟨rfl, hG⟩))
  go_ret
  exact ⟨rfl, hG⟩
theorem QF.room2 (h : QF w f D g n) (t : QTb w b g M N) (hn : n < 1000) {z : Bool} (hz : (z = true ∧ ¬ (usedN N + 2 > 8 ∨ n + 2 > 40)) ∨ (z = false ∧ (usedN N + 2 > 8 ∨ n + 2 > 40))) : Calls Tryz.prog 135 #[wp f, wp b, .int .i64 2] w fun e w' => e = .returned (.bool z) ∧ Below w.heap.size w w' := by
  have hR := h.room_ok t 2 (by omega) hn
  have e1 : (decide (usedN N + 2 ≤ 8) && decide (n + 2 ≤ 40)) = z := by
    rcases hz with ⟨rfl, hr⟩ | ⟨rfl, hr⟩
    · rw [decide_eq_true (by omega), decide_eq_true (by omega)]; rfl
    · by_cases h1 : usedN N + 2 ≤ 8
      · rw [decide_eq_false (p := n + 2 ≤ 40) (by omega), Bool.and_false]
      · rw [decide_eq_false h1]; rfl
  rw [e1] at hR
  exact hR
set_option maxRecDepth 100000 in
set_option maxHeartbeats 4000000 in
theorem QF.pipe_no (h : QF w f D g n) (t : QTb w b g M N) (hf : usedN N + 2 > 8 ∨ n + 2 > 40) (hn : n < 1000) :
    Calls Tryz.prog 54 #[wp f, wp b] w fun x w' => x = .returned (.tuple #[.int .i64 0, .int .i64 0, uer 12]) ∧ QGo w w' f D g b N := by
  have hR := h.room2 t hn (.inr ⟨rfl, hf⟩)
  have hs : ∀ w', Below w.heap.size w w' → QGo w w' f D g b N := fun w' hb => h.same t hb
  clear h t hf
  go_enter Tryz.func54, Tryz.ntmps54
  go_wp2_with (go_at_call 135; refine hR.mono ?_; rintro y w1 ⟨rfl, b1⟩)
  go_ret3
  exact ⟨rfl, hs _ b1⟩
theorem pipe_same (D : DS) : addD (opP (addD (opP { D with P := fun i => if i = D.nx + 1 then some ([], 0, 0) else D.P i, nx := D.nx + 1 } (D.nx + 1) ([], 0, 0) 2) ⟨2, 1, 0, D.nx + 1, 0⟩) (D.nx + 1) ([], 1, 0) 3) ⟨3, 2, 0, D.nx + 1, 0⟩ = pipeD D := by
  unfold pipeD pipeD1 pipeD0 opP addD
  simp only [DS.mk.injEq, true_and, and_true]
  funext i
  by_cases e : i = D.nx + 1
  · simp [e, opF, opI]
  · simp [e]
theorem Live.add {D : DS} {N : Ns} (h : Live D N) (e : En) : Live (addD D e) (addN D N) := fun i hi h0 => by
  show (if (addN D N)[i].1 = D.nx + 1 then some e else D.E (addN D N)[i].1).isSome = true
  by_cases e1 : (addN D N)[i].1 = D.nx + 1
  · rw [if_pos e1]; rfl
  · rw [if_neg e1]
    unfold addN at e1 h0 hi ⊢
    rw [List.length_set] at hi
    by_cases e2 : (leastN N).toNat = i
    · rw [List.getElem_set] at e1
      rw [if_pos e2] at e1
      exact absurd rfl e1
    · rw [List.getElem_set_ne e2] at h0 ⊢
      exact h i hi h0
set_option maxRecDepth 100000 in
set_option maxHeartbeats 4000000 in
theorem QF.pipe_yes (h : QF w f D g n) (t : QTb w b g M N) (hG : Given D) (hg : D.nx < 890) (hE : ∀ d e, D.E d = some e → e.pipe ≠ D.nx + 1 ∨ e.kind = 1) (hf : ¬ (usedN N + 2 > 8 ∨ n + 2 > 40)) (hl1 : ¬ leastN N < 0) (hl2 : ¬ leastN (pipeN1 D N) < 0) (hL : Live D N) :
    Calls Tryz.prog 54 #[wp f, wp b] w fun x w' => x = .returned (.tuple #[.int .i64 (leastN N), .int .i64 (leastN (pipeN1 D N)), .nilIface]) ∧ QGo w w' f (pipeD D) g b (pipeN D N) := by
  have hn : n < 1000 := by omega
  have hR := h.room2 t hn (.inl ⟨rfl, hf⟩)
  have hnew := hG.new
  have H1 : ∀ V, Below w.heap.size w V → Calls Tryz.prog 136 #[wp f, wp b, wp V.heap.size, .int .i64 2, .int .i64 1] (V.alloc (.cells pcells 228)) fun x9 w2 => x9 = .returned (.int .i64 (leastN N)) ∧ Calls Tryz.prog 136 #[wp f, wp b, wp V.heap.size, .int .i64 3, .int .i64 2] w2 fun x8 w3 => x8 = .returned (.int .i64 (leastN (pipeN1 D N))) ∧ QGo w w3 f (pipeD D) g b (pipeN D N) := fun V hV => by
    have hV' := h.below hV
    have bA : Below V.heap.size V (V.alloc (.cells pcells 228)) := (Below.refl _ V).alloc (Nat.le_refl _) _
    obtain ⟨g1, a1, a2, a3, a4, a5⟩ := hV'.newPipe (q := V.heap.size) (p := D.nx + 1) (Nat.le_refl _) (by show V.heap.size < (V.heap.push _).size; rw [Array.size_push]; omega) bA hnew.2.2 hE (x := ([], 0, 0)) (new_tb V _) (D.nx + 1)
    have hbl : b < V.heap.size := (t.below hV).tab.lt
    have t1 : QTb (V.alloc (.cells pcells 228)) b g1 M N := (t.below hV).sameK (bA.block b hbl) a2 a3
    have hg0 := hG.n0
    have hE1 : D.E (D.nx + 1 + 1) = none := by
      cases hx : D.E (D.nx + 1 + 1) with
      | none => rfl
      | some e => have := hG.e _ (by rw [hx]; rfl); omega
    rw [← a5]
    refine (a1.addEnd_ok t1 (p := D.nx + 1) (x := ([], 0, 0)) (if_pos rfl) ⟨by simp, by simp⟩ ⟨by simp, by simp⟩ 2 1 (by omega) hE1 (show 0 ≤ D.nx + 1 by omega) hl1 hL hn).mono ?_
    rintro y w2 ⟨rfl, ⟨⟨g2, M2, c1, c2, c3, c4⟩, wt2⟩⟩
    refine ⟨rfl, ?_⟩
    rw [← c4]
    have hN1 : addN { D with P := fun i => if i = D.nx + 1 then some ([], 0, 0) else D.P i, nx := D.nx + 1 } N = pipeN1 D N := rfl
    rw [hN1] at c2
    have hL1 : Live (addD (opP { D with P := fun i => if i = D.nx + 1 then some ([], 0, 0) else D.P i, nx := D.nx + 1 } (D.nx + 1) ([], 0, 0) 2) ⟨2, 1, 0, D.nx + 1, 0⟩) (pipeN1 D N) := Live.add (D := opP { D with P := fun i => if i = D.nx + 1 then some ([], 0, 0) else D.P i, nx := D.nx + 1 } (D.nx + 1) ([], 0, 0) 2) (N := N) hL _
    have hE2 : (addD (opP { D with P := fun i => if i = D.nx + 1 then some ([], 0, 0) else D.P i, nx := D.nx + 1 } (D.nx + 1) ([], 0, 0) 2) ⟨2, 1, 0, D.nx + 1, 0⟩).E (D.nx + 1 + 1 + 1) = none := by
      show (if D.nx + 1 + 1 + 1 = D.nx + 1 + 1 then _ else D.E (D.nx + 1 + 1 + 1)) = none
      rw [if_neg (by omega)]
      cases hx : D.E (D.nx + 1 + 1 + 1) with
      | none => rfl
      | some e => have := hG.e _ (by rw [hx]; rfl); omega
    refine (c1.addEnd_ok c2 (p := D.nx + 1) (x := ([], 1, 0)) (show (if D.nx + 1 = D.nx + 1 then _ else _) = _ from if_pos rfl) ⟨by simp, by simp⟩ ⟨by simp, by simp⟩ 3 2 (by omega) hE2 (show 0 ≤ D.nx + 1 + 1 by omega) hl2 hL1 (by omega)).mono ?_
    rintro y w3 ⟨rfl, hQ⟩
    rw [pipe_same] at hQ
    refine ⟨rfl, ?_⟩
    obtain ⟨⟨g3, M3, d1, d2, d3, d4⟩, wt3⟩ := hQ
    have hs1 := hV.size
    have hs2 := bA.size
    have hs3 := wt2.size
    have hkp : ∀ i, i < w.heap.size → g1.kap i = g.kap i := fun i hi => a2 i (by omega)
    have hkp2 : ∀ i, i < w.heap.size → g2.kap i = g.kap i := fun i hi => (c3.kap i (by omega)).trans (hkp i hi)
    have wt1 : Wt (fun i => (g.kap i).isSome = true ∨ i = b) w (V.alloc (.cells pcells 228)) := Wt.below _ (hV.trans (bA.mono hV.size))
    refine ⟨⟨g3, _, M3, d1, d2, ⟨fun i hi => (d3.kap i (by omega)).trans (hkp2 i hi), fun k d hk hd => ?_, d3.r.trans (c3.r.trans a4)⟩⟩, (wt1.weaken wt2 (fun i hi z => ?_)).weaken wt3 (fun i hi z => ?_)⟩
    · refine d3.key k d (c3.key k d (by rw [a3]; exact hk) ?_) hd
      show (if d = D.nx + 1 + 1 then some _ else D.E d).isSome = true
      split
      · rfl
      · exact (h.key k d hk).1
    · rcases z with z | z
      · exact .inl (by rw [← hkp i hi]; exact z)
      · exact .inr z
    · rcases z with z | z
      · exact .inl (by rw [← hkp2 i hi]; exact z)
      · exact .inr z
  generalize leastN (pipeN1 D N) = L2 at *
  generalize leastN N = L1 at *
  generalize pipeD D = D2 at *
  generalize pipeN D N = N2 at *
  clear h t hG hg hE hf hl1 hl2 hL hnew
  go_enter Tryz.func54, Tryz.ntmps54
  go_upto_region 4 with (go_at_call 135; refine hR.mono ?_; rintro y w1 ⟨rfl, b1⟩)
  have hA := H1 _ b1
  clear H1 hR
  go_wp2_with (first
    | (go_at_call 136; refine hA2.mono ?_; rintro y w3 ⟨rfl, hG⟩)
    | (go_at_call 136; refine hA.mono ?_; rintro y w2 ⟨rfl, hA2⟩))
  go_ret3
  exact ⟨rfl, hG⟩
end
end Go.Proofs.YtcfhanoekniaaaaGreatDoor

namespace Go.Proofs.YtcfhanoekniaaaaGreatDoor
open Go.RowKit Go.Maps

section
variable {w w' w2 w0 w1 : World} {f b n q : Nat} {D D' : DS} {g g' g1 : QG} {M N N' : Ns} {d k m : Int} {e : En} {T' : Wd}
set_option maxRecDepth 100000 in
set_option maxHeartbeats 4000000 in
theorem QF.usable_no (h : QF w f D g n) (t : QTb w b g M N) (x u : Int) (hx : hasN N x = false) : Calls Tryz.prog 144 #[wp f, wp b, .int .i64 x, .int .i64 u] w fun y w' => y = .returned (.tuple #[.pointer none, uer 7]) ∧ Below w.heap.size w w' := by
  have hF := h.find_no t x hx
  clear h t hx
  go_enter Tryz.func144, Tryz.ntmps144
  go_wp2_with (go_at_call 141; refine hF.mono ?_; rintro y w1 ⟨rfl, b1⟩)
  go_ret2
  exact ⟨rfl, b1⟩
set_option maxRecDepth 100000 in
set_option maxHeartbeats 4000000 in
theorem QF.usable_false (h : QF w f D g n) (t : QTb w b g M N) {i : Nat} (hi : i < 8) (hiL : i < N.length) (h0 : 0 < N[i].1) (he : D.E N[i].1 = some e) (u : Int) (hu : (u = 1 ∧ e.prot = 2) ∨ (u = 2 ∧ e.prot = 1)) : Calls Tryz.prog 144 #[wp f, wp b, .int .i64 (i : Int), .int .i64 u] w fun y w' => y = .returned (.tuple #[.pointer none, uer 13]) ∧ Below w.heap.size w w' := by
  have hF := h.find_yes t hi hiL h0
  have hc : ∀ V, Below w.heap.size w V → V.cell? ⟨g.B N[i].1, 1, none⟩ = some (.int .i64 e.prot) := fun V hV => by
    obtain ⟨c, h1, _⟩ := (h.below hV).ent _ e he
    exact ((h.below hV).ecell he h1).2.1
  generalize g.B N[i].1 = q at *
  generalize e.prot = pr at *
  clear h t he h0
  rcases hu with ⟨rfl, rfl⟩ | ⟨rfl, rfl⟩
  · go_enter Tryz.func144, Tryz.ntmps144
    go_wp2_with (go_at_call 141; refine hF.mono ?_; rintro y w1 ⟨rfl, b1⟩; have c1 := hc _ b1)
    go_ret2
    exact ⟨rfl, b1⟩
  · go_enter Tryz.func144, Tryz.ntmps144
    go_wp2_with (go_at_call 141; refine hF.mono ?_; rintro y w1 ⟨rfl, b1⟩; have c1 := hc _ b1)
    go_ret2
    exact ⟨rfl, b1⟩
set_option maxRecDepth 100000 in
set_option maxHeartbeats 4000000 in
theorem QF.usable_yes (h : QF w f D g n) (t : QTb w b g M N) {i : Nat} (hi : i < 8) (hiL : i < N.length) (h0 : 0 < N[i].1) (he : D.E N[i].1 = some e) (u : Int) (hu : (u = 1 ∧ (e.prot = 1 ∨ e.prot = 3)) ∨ (u = 2 ∧ (e.prot = 2 ∨ e.prot = 3))) : Calls Tryz.prog 144 #[wp f, wp b, .int .i64 (i : Int), .int .i64 u] w fun y w' => y = .returned (.tuple #[wp (g.B N[i].1), .nilIface]) ∧ Below w.heap.size w w' := by
  have hF := h.find_yes t hi hiL h0
  have hc : ∀ V, Below w.heap.size w V → V.cell? ⟨g.B N[i].1, 1, none⟩ = some (.int .i64 e.prot) := fun V hV => by
    obtain ⟨c, h1, _⟩ := (h.below hV).ent _ e he
    exact ((h.below hV).ecell he h1).2.1
  generalize g.B N[i].1 = q at *
  generalize e.prot = pr at *
  clear h t he h0
  rcases hu with ⟨rfl, rfl | rfl⟩ | ⟨rfl, rfl | rfl⟩
  all_goals
    go_enter Tryz.func144, Tryz.ntmps144
    go_wp2_with (go_at_call 141; refine hF.mono ?_; rintro y w1 ⟨rfl, b1⟩; have c1 := hc _ b1)
    go_ret2
    exact ⟨rfl, b1⟩
set_option maxRecDepth 100000 in
set_option maxHeartbeats 4000000 in
theorem QF.read_no (h : QF w f D g n) (t : QTb w b g M N) (x a c : Int) (hc : c ≠ 0) (hU : Calls Tryz.prog 144 #[wp f, wp b, .int .i64 x, .int .i64 1] w fun y w' => y = .returned (.tuple #[.pointer none, uer c]) ∧ Below w.heap.size w w') :
    Calls Tryz.prog 63 #[wp f, wp b, .int .i64 x, .int .i64 a] w fun y w' => y = .returned (.tuple #[tx [], uev c]) ∧ QGo w w' f D g b N := by
  have hs : ∀ w', Below w.heap.size w w' → QGo w w' f D g b N := fun w' hb => h.same t hb
  rw [uev_ne hc]
  clear h t hc
  go_enter Tryz.func63, Tryz.ntmps63
  go_wp2_with (go_at_call 144; refine hU.mono ?_; rintro y w1 ⟨rfl, b1⟩)
  go_ret2
  exact ⟨rfl, hs _ b1⟩
set_option maxRecDepth 100000 in
set_option maxHeartbeats 4000000 in
theorem QF.read_end (h : QF w f D g n) (t : QTb w b g M N) {i : Nat} (hi : i < 8) (hiL : i < N.length) (h0 : 0 < N[i].1) (he : D.E N[i].1 = some e) (a : Int) (hk : e.kind ≠ 1) (hpr : e.prot = 1 ∨ e.prot = 3) {p : Pi} (hp : D.P e.pipe = some p) (hI : 0 ≤ p.2.2) :
    Calls Tryz.prog 63 #[wp f, wp b, .int .i64 (i : Int), .int .i64 a] w fun y w' => y = .returned (.tuple #[tx (p.1.take a.toNat), uev (rdE p.2.2 p.1 a)]) ∧ QGo w w' f { D with P := fun j => if j = e.pipe then some (p.1.drop a.toNat, p.2.1, p.2.2) else D.P j } g b N := by
  have hU := h.usable_yes t hi hiL h0 he 1 (.inl ⟨rfl, hpr⟩)
  have hk' : (e.kind == 1) = false := by simpa using hk
  have hpv : pv g e = wp (g.Q e.pipe) := if_neg hk
  have hat : ∀ V, Below w.heap.size w V → V.cell? ⟨g.B N[i].1, 5, none⟩ = some (wp (g.Q e.pipe)) ∧ Calls Tryz.prog 145 #[wp (g.B N[i].1)] V (fun x w' => x = .returned (.bool false) ∧ w' = V) ∧ Calls Tryz.prog 156 #[wp (g.Q e.pipe), .int .i64 a] V fun y w' => y = .returned (.tuple #[tx (p.1.take a.toNat), uev (rdE p.2.2 p.1 a)]) ∧ QGo w w' f { D with P := fun j => if j = e.pipe then some (p.1.drop a.toNat, p.2.1, p.2.2) else D.P j } g b N := fun V hV => by
    have hV' := h.below hV
    obtain ⟨c, h1, _⟩ := hV'.ent _ e he
    have e5 := (hV'.ecell he h1).2.2.2.2.2.1
    rw [hpv] at e5
    have hIs := hV'.isFile_ok he
    rw [hk'] at hIs
    obtain ⟨tb, tk⟩ := hV'.pipe _ p hp
    refine ⟨e5, hIs, (tb.read_ok a hI).mono ?_⟩
    rintro y w' ⟨rfl, tb', hg⟩
    exact ⟨rfl, ⟨⟨g, n, M, hV'.piped hp (x' := (p.1.drop a.toNat, p.2.1, p.2.2)) tb' hg, (t.below hV).offOwn (by rw [tk]; rfl) hg, Ext.refl _ _ _⟩, (Wt.below _ hV).trans (Wt.grown hg (.inl (by rw [tk]; rfl)))⟩⟩
  generalize ({ D with P := fun j => if j = e.pipe then some (p.1.drop a.toNat, p.2.1, p.2.2) else D.P j } : DS) = D2 at *
  generalize g.B N[i].1 = q at *
  generalize g.Q e.pipe = Q at *
  generalize uev (rdE p.2.2 p.1 a) = U at *
  generalize List.take a.toNat p.1 = S at *
  clear h t hk hpr hp hI he h0 hk' hpv
  go_enter Tryz.func63, Tryz.ntmps63
  go_wp2_with (first
    | (go_at_call 144; refine hU.mono ?_; rintro y w1 ⟨rfl, b1⟩; obtain ⟨c5, hIs, hRd⟩ := hat _ b1)
    | (go_at_call 145; refine hIs.mono ?_; rintro y w2 ⟨rfl, hw2⟩; subst w2)
    | (go_at_call 156; refine hRd.mono ?_; rintro y w3 ⟨rfl, hG⟩))
  go_ret2
  exact ⟨rfl, hG⟩
theorem readS_err {T : Wd} {x a c : Int} (h : readE T x a c ≠ 0) : readS T x a c = [] := by
  unfold readE at h; unfold readS
  cases hn : T x with
  | none => rfl
  | some nd => cases nd with
    | dir C => rfl
    | file b y =>
      have hf : fileT T x = 0 := by unfold fileT; rw [hn]
      rw [if_neg (fun e => e hf)] at h
      simp only
      by_cases h9 : a < 0 ∨ c < 0
      · rw [if_pos h9]
      · rw [if_neg h9] at h; exact absurd rfl h
set_option maxRecDepth 100000 in
set_option maxHeartbeats 4000000 in
theorem QF.read_file (h : QF w f D g n) (t : QTb w b g M N) {i : Nat} (hi : i < 8) (hiL : i < N.length) (h0 : 0 < N[i].1) (he : D.E N[i].1 = some e) (a : Int) (hk : e.kind = 1) (hpr : e.prot = 1 ∨ e.prot = 3) (hnd : 0 ≤ e.node ∧ e.node < 1000) (hps : 0 ≤ e.pos ∧ e.pos ≤ 200) (hl : (readS D.T e.node e.pos a).length ≤ 100000) :
    Calls Tryz.prog 63 #[wp f, wp b, .int .i64 (i : Int), .int .i64 a] w fun y w' => y = .returned (.tuple #[tx (readS D.T e.node e.pos a), uev (readE D.T e.node e.pos a)]) ∧ QGo w w' f { D with E := fun j => if j = N[i].1 then some { e with pos := e.pos + (readS D.T e.node e.pos a).length } else D.E j } g b N := by
  have hU := h.usable_yes t hi hiL h0 he 1 (.inl ⟨rfl, hpr⟩)
  have hat : ∀ V, Below w.heap.size w V → (V.cell? ⟨f, 0, none⟩ = some (wp g.r) ∧ V.cell? ⟨g.B N[i].1, 3, none⟩ = some (.int .i64 e.node) ∧ V.cell? ⟨g.B N[i].1, 4, none⟩ = some (.int .i64 e.pos)) ∧ V.frozen? ⟨g.B N[i].1, 4, none⟩ = false := fun V hV => by
    have hV' := h.below hV
    obtain ⟨c, h1, _⟩ := hV'.ent _ e he
    obtain ⟨_, _, _, e3, e4, _, ez⟩ := hV'.ecell he h1
    exact ⟨⟨hV'.cells.1, e3, e4⟩, ez 4⟩
  have hIs : ∀ V, Below w.heap.size w V → Calls Tryz.prog 145 #[wp (g.B N[i].1)] V fun x w' => x = .returned (.bool true) ∧ w' = V := fun V hV => by
    have := (h.below hV).isFile_ok he
    rw [hk] at this
    exact this
  have hRd : ∀ V, Below w.heap.size w V → Calls Tryz.prog 157 #[wp g.r, .int .i64 e.node, .int .i64 e.pos, .int .i64 a] V fun y w' => y = .returned (.tuple #[tx (readS D.T e.node e.pos a), uev (readE D.T e.node e.pos a)]) ∧ Below w.heap.size w w' := fun V hV => by
    obtain ⟨O, p, _⟩ := (h.below hV).tree
    refine (p.read_ok e.node e.pos a (wf_few hnd.1 (by omega))).mono ?_
    rintro y w' ⟨rfl, z, rfl⟩
    exact ⟨rfl, ⟨hV.os, hV.tape, hV.output, hV.size, hV.block⟩⟩
  obtain ⟨c9, hc9, _, hkb⟩ := h.ent _ e he
  have HF : Aside (∀ V, Below w.heap.size w V → QGo w (V.setCell ⟨g.B N[i].1, 4, none⟩ (.int .i64 (e.pos + (readS D.T e.node e.pos a).length))) f { D with E := fun j => if j = N[i].1 then some { e with pos := e.pos + (readS D.T e.node e.pos a).length } else D.E j } g b N) := fun V hV => by
    have gg := tgrown_set V (g.B N[i].1) 4 (.int .i64 (e.pos + (readS D.T e.node e.pos a).length))
    exact ⟨⟨g, n, M, (h.below hV).place he _, (t.below hV).offOwn (by rw [hkb]; rfl) gg, Ext.refl _ _ _⟩, (Wt.below _ hV).trans (Wt.grown gg (.inl (by rw [hkb]; rfl)))⟩
  have HE : Aside (readE D.T e.node e.pos a ≠ 0 → tx (readS D.T e.node e.pos a) = tx [] ∧ ∀ V, Below w.heap.size w V → QGo w V f { D with E := fun j => if j = N[i].1 then some { e with pos := e.pos + (readS D.T e.node e.pos a).length } else D.E j } g b N) := fun hz => by
    rw [readS_err hz]
    refine ⟨rfl, fun V hV => ?_⟩
    have hD : ({ D with E := fun j => if j = N[i].1 then some { e with pos := e.pos + (([] : List UInt8).length : Int) } else D.E j } : DS) = D := by
      have hE : (fun j => if j = N[i].1 then some { e with pos := e.pos + (([] : List UInt8).length : Int) } else D.E j) = D.E := by
        funext j
        by_cases ej : j = N[i].1
        · rw [if_pos ej, ej, he]; simp
        · rw [if_neg ej]
      rw [hE]
    rw [hD]
    exact h.same t hV
  generalize hD2 : ({ D with E := fun j => if j = N[i].1 then some { e with pos := e.pos + (readS D.T e.node e.pos a).length } else D.E j } : DS) = D2 at *
  generalize hS9 : readS D.T e.node e.pos a = S9 at *
  generalize hC9 : readE D.T e.node e.pos a = C9 at *
  generalize g.B N[i].1 = q at *
  generalize e.node = nd at *
  generalize e.pos = ps at *
  obtain ⟨hps0, hps1⟩ := hps
  have HW : Aside (wrap64 (ps + (S9.length : Int)) = ps + (S9.length : Int)) := by show wrap64 _ = _; unfold wrap64; omega
  clear h t hk hpr he h0 hnd hl hkb hc9 hD2 hS9 hC9 hps0 hps1
  go_enter Tryz.func63, Tryz.ntmps63
  go_upto_region 6 with (first
    | (go_at_call 144; refine hU.mono ?_; rintro y w1 ⟨rfl, b1⟩)
    | (go_at_call 145; refine (hIs _ b1).mono ?_; rintro y w2 ⟨rfl, hw2⟩; subst w2))
  obtain ⟨hc1, hz1⟩ := hat _ b1
  go_region_held3 (fun w' => w'.cell? ⟨f, 0, none⟩ = some (wp g.r) ∧ w'.cell? ⟨q, 3, none⟩ = some (.int .i64 nd) ∧ w'.cell? ⟨q, 4, none⟩ = some (.int .i64 ps)) (first | exact hc1 | exact (hat _ b3).1) (first
    | (go_at_call 157; refine (hRd _ (below_dr b1)).mono ?_; rintro y w3 ⟨rfl, b3⟩))
  all_goals
    obtain ⟨⟨_, _, k4⟩, kz⟩ := hat _ b3
    clear hat hRd hIs hU hc1 hz1
    by_cases hz : C9 = 0
    · have HG := HF.out _ b3
      have HW9 := HW.out
      subst hz
      clear HE HF HW
      rw [show uev 0 = .nilIface from rfl]
      go_wp2_with fail
      go_ret2
      exact ⟨rfl, HG⟩
    · have HX := HE.out hz
      have HC : Aside (tx S9 = tx [] ∧ C9 ≠ 0) := ⟨HX.1, hz⟩
      rw [uev_ne hz]
      have HG := HX.2 _ b3
      clear HE HF HW HX hz
      go_wp2_with fail
      go_ret2
      exact ⟨by rw [HC.out.1, uev_ne HC.out.2]; rfl, HG⟩
end
end Go.Proofs.YtcfhanoekniaaaaGreatDoor

namespace Go.Proofs.YtcfhanoekniaaaaGreatDoor
open Go.RowKit Go.Maps

section
variable {w w' w2 w0 w1 : World} {f b n q : Nat} {D D' : DS} {g g' g1 : QG} {M N N' : Ns} {d k m : Int} {e : En} {T' : Wd}
set_option maxRecDepth 100000 in
set_option maxHeartbeats 4000000 in
theorem QF.write_no (h : QF w f D g n) (t : QTb w b g M N) (x : Int) (s : List UInt8) (a c : Int) (hc : c ≠ 0) (hU : Calls Tryz.prog 144 #[wp f, wp b, .int .i64 x, .int .i64 2] w fun y w' => y = .returned (.tuple #[.pointer none, uer c]) ∧ Below w.heap.size w w') :
    Calls Tryz.prog 59 #[wp f, wp b, .int .i64 x, tx s, .int .i64 a] w fun y w' => y = .returned (.tuple #[.int .i64 0, uev c]) ∧ QGo w w' f D g b N := by
  have hs : ∀ w', Below w.heap.size w w' → QGo w w' f D g b N := fun w' hb => h.same t hb
  rw [uev_ne hc]
  clear h t hc
  go_enter Tryz.func59, Tryz.ntmps59
  go_wp2_with (go_at_call 144; refine hU.mono ?_; rintro y w1 ⟨rfl, b1⟩)
  go_ret2
  exact ⟨rfl, hs _ b1⟩
set_option maxRecDepth 100000 in
set_option maxHeartbeats 4000000 in
theorem QF.write_end (h : QF w f D g n) (t : QTb w b g M N) {i : Nat} (hi : i < 8) (hiL : i < N.length) (h0 : 0 < N[i].1) (he : D.E N[i].1 = some e) (s : List UInt8) (a : Int) (hk : e.kind ≠ 1) (hpr : e.prot = 2 ∨ e.prot = 3) {p : Pi} (hp : D.P e.pipe = some p) :
    Calls Tryz.prog 59 #[wp f, wp b, .int .i64 (i : Int), tx s, .int .i64 a] w fun y w' => y = .returned (.tuple #[.int .i64 (wrN p.2.1 p.1 s : Int), uev (wrE p.2.1 p.1 s)]) ∧ QGo w w' f { D with P := fun j => if j = e.pipe then some (wrB p.2.1 p.1 s, p.2.1, p.2.2) else D.P j } g b N := by
  have hU := h.usable_yes t hi hiL h0 he 2 (.inr ⟨rfl, hpr⟩)
  have hk' : (e.kind == 1) = false := by simpa using hk
  have hpv : pv g e = wp (g.Q e.pipe) := if_neg hk
  have hat : ∀ V, Below w.heap.size w V → V.cell? ⟨g.B N[i].1, 5, none⟩ = some (wp (g.Q e.pipe)) ∧ Calls Tryz.prog 145 #[wp (g.B N[i].1)] V (fun x w' => x = .returned (.bool false) ∧ w' = V) ∧ Calls Tryz.prog 146 #[wp (g.Q e.pipe), tx s] V fun y w' => y = .returned (.tuple #[.int .i64 (wrN p.2.1 p.1 s : Int), uev (wrE p.2.1 p.1 s)]) ∧ QGo w w' f { D with P := fun j => if j = e.pipe then some (wrB p.2.1 p.1 s, p.2.1, p.2.2) else D.P j } g b N := fun V hV => by
    have hV' := h.below hV
    obtain ⟨c, h1, _⟩ := hV'.ent _ e he
    have e5 := (hV'.ecell he h1).2.2.2.2.2.1
    rw [hpv] at e5
    have hIs := hV'.isFile_ok he
    rw [hk'] at hIs
    obtain ⟨tb, tk⟩ := hV'.pipe _ p hp
    refine ⟨e5, hIs, (tb.write_ok s).mono ?_⟩
    rintro y w' ⟨rfl, tb', hg⟩
    exact ⟨rfl, ⟨⟨g, n, M, hV'.piped hp (x' := (wrB p.2.1 p.1 s, p.2.1, p.2.2)) tb' hg, (t.below hV).offOwn (by rw [tk]; rfl) hg, Ext.refl _ _ _⟩, (Wt.below _ hV).trans (Wt.grown hg (.inl (by rw [tk]; rfl)))⟩⟩
  generalize ({ D with P := fun j => if j = e.pipe then some (wrB p.2.1 p.1 s, p.2.1, p.2.2) else D.P j } : DS) = D2 at *
  generalize g.B N[i].1 = q at *
  generalize g.Q e.pipe = Q at *
  generalize uev (wrE p.2.1 p.1 s) = U at *
  generalize wrN p.2.1 p.1 s = S at *
  clear h t hk hpr hp he h0 hk' hpv
  go_enter Tryz.func59, Tryz.ntmps59
  go_wp2_with (first
    | (go_at_call 144; refine hU.mono ?_; rintro y w1 ⟨rfl, b1⟩; obtain ⟨c5, hIs, hRd⟩ := hat _ b1)
    | (go_at_call 145; refine hIs.mono ?_; rintro y w2 ⟨rfl, hw2⟩; subst w2)
    | (go_at_call 146; refine hRd.mono ?_; rintro y w3 ⟨rfl, hG⟩))
  go_ret2
  exact ⟨rfl, hG⟩
theorem QF.filed (h : QF w f D g n) (he : D.E d = some e) (hk : e.kind = 1) (V : World) (hV : Below w.heap.size w V) : Calls Tryz.prog 145 #[wp (g.B d)] V fun x w' => x = .returned (.bool true) ∧ w' = V := by
  have := (h.below hV).isFile_ok he
  rw [hk] at this
  exact this
set_option maxRecDepth 100000 in
set_option maxHeartbeats 4000000 in
theorem QF.write_limit (h : QF w f D g n) (t : QTb w b g M N) {i : Nat} (hi : i < 8) (hiL : i < N.length) (h0 : 0 < N[i].1) (he : D.E N[i].1 = some e) (s : List UInt8) (a : Int) (hk : e.kind = 1) (hpr : e.prot = 2 ∨ e.prot = 3) (hps : 0 ≤ e.pos ∧ e.pos ≤ 200) (hl : s.length < 100000) (hlim : tooMuch s a e.pos) :
    Calls Tryz.prog 59 #[wp f, wp b, .int .i64 (i : Int), tx s, .int .i64 a] w fun y w' => y = .returned (.tuple #[.int .i64 0, uer 4]) ∧ QGo w w' f D g b N := by
  have hU := h.usable_yes t hi hiL h0 he 2 (.inr ⟨rfl, hpr⟩)
  have hIs := fun V hV => h.filed he hk V hV
  have hat : ∀ V, Below w.heap.size w V → V.cell? ⟨g.B N[i].1, 4, none⟩ = some (.int .i64 e.pos) := fun V hV => by
    have hV' := h.below hV
    obtain ⟨c, h1, _⟩ := hV'.ent _ e he
    exact (hV'.ecell he h1).2.2.2.2.1
  have hs : ∀ w', Below w.heap.size w w' → QGo w w' f D g b N := fun w' hb => h.same t hb
  obtain ⟨hs0, hs1⟩ := hlim
  have hlt : a < e.pos + (s.length : Int) := by omega
  have hw1 : wrap64 (e.pos + (s.length : Int)) = e.pos + (s.length : Int) := by unfold wrap64; omega
  have hne : (s == []) = false := by simpa using hs0
  generalize g.B N[i].1 = q at *
  generalize e.pos = ps at *
  clear h t hk hpr he h0 hl hps hs0 hs1
  go_enter Tryz.func59, Tryz.ntmps59
  go_wp2_with (first
    | (go_at_call 144; refine hU.mono ?_; rintro y w1 ⟨rfl, b1⟩; have c4 := hat _ b1)
    | (go_at_call 145; refine (hIs _ b1).mono ?_; rintro y w2 ⟨rfl, hw2⟩; subst w2))
  go_ret2
  exact ⟨rfl, hs _ b1⟩
set_option maxRecDepth 100000 in
set_option maxHeartbeats 8000000 in
theorem QF.write_file (h : QF w f D g n) (t : QTb w b g M N) {i : Nat} (hi : i < 8) (hiL : i < N.length) (h0 : 0 < N[i].1) (he : D.E N[i].1 = some e) (s : List UInt8) (a : Int) (hk : e.kind = 1) (hpr : e.prot = 2 ∨ e.prot = 3) (hnd : 0 ≤ e.node ∧ e.node < 1000) (hps : 0 ≤ e.pos ∧ e.pos ≤ 200) (hl : s.length < 100000) (hT : TrLv D.T) (hlim : ¬ tooMuch s a e.pos) :
    Calls Tryz.prog 59 #[wp f, wp b, .int .i64 (i : Int), tx s, .int .i64 a] w fun y w' => (writeE D.T e.node e.pos s ≠ 0 ∧ y = .returned (.tuple #[.int .i64 0, uer (writeE D.T e.node e.pos s)]) ∧ QGo w w' f D g b N) ∨ (writeE D.T e.node e.pos s = 0 ∧ y = .returned (.tuple #[.int .i64 (s.length : Int), .nilIface]) ∧ QGo w w' f { D with T := writeN D.T e.node e.pos s, E := fun j => if j = N[i].1 then some { e with pos := e.pos + s.length } else D.E j } g b N) := by
  have hU := h.usable_yes t hi hiL h0 he 2 (.inr ⟨rfl, hpr⟩)
  have hIs := fun V hV => h.filed he hk V hV
  have hat : ∀ V, Below w.heap.size w V → (V.cell? ⟨f, 0, none⟩ = some (wp g.r) ∧ V.cell? ⟨g.B N[i].1, 3, none⟩ = some (.int .i64 e.node) ∧ V.cell? ⟨g.B N[i].1, 4, none⟩ = some (.int .i64 e.pos)) := fun V hV => by
    have hV' := h.below hV
    obtain ⟨c, h1, _⟩ := hV'.ent _ e he
    obtain ⟨_, _, _, e3, e4, _, ez⟩ := hV'.ecell he h1
    exact ⟨hV'.cells.1, e3, e4⟩
  have hWr : ∀ V, Below w.heap.size w V → Calls Tryz.prog 147 #[wp g.r, .int .i64 e.node, .int .i64 e.pos, tx s] V fun y w' => y = .returned (uev (writeE D.T e.node e.pos s)) ∧ (w'.cell? ⟨f, 0, none⟩ = some (wp g.r) ∧ w'.cell? ⟨g.B N[i].1, 3, none⟩ = some (.int .i64 e.node) ∧ w'.cell? ⟨g.B N[i].1, 4, none⟩ = some (.int .i64 e.pos)) ∧ w'.frozen? ⟨g.B N[i].1, 4, none⟩ = false ∧ (writeE D.T e.node e.pos s ≠ 0 → QGo w w' f D g b N) ∧ QGo w (w'.setCell ⟨g.B N[i].1, 4, none⟩ (.int .i64 (e.pos + s.length))) f { D with T := writeN D.T e.node e.pos s, E := fun j => if j = N[i].1 then some { e with pos := e.pos + s.length } else D.E j } g b N := fun V hV => by
    have hV' := h.below hV
    obtain ⟨O, p, hO⟩ := hV'.tree
    refine (p.write_ok hT e.node e.pos s (wf_few hnd.1 (by omega)) hl).mono ?_
    rintro y w' ⟨rfl, O', p', st⟩
    have hq := hV'.treeGo (t.below hV) hO p' st
    obtain ⟨c, h1, _, hkb⟩ := hV'.ent _ e he
    have hbk : w'.heap[g.B N[i].1]? = V.heap[g.B N[i].1]? := st.wt.block _ (hV'.lt _ (by rw [hkb]; rfl)) (fun o => tag_ne hkb (hO _ o) (by simp) rfl)
    have hcell : ∀ o, w'.cell? ⟨g.B N[i].1, o, none⟩ = V.cell? ⟨g.B N[i].1, o, none⟩ := fun o => World.cell?_of_block (w := V) (a := ⟨g.B N[i].1, o, none⟩) hbk
    obtain ⟨_, _, _, e3, e4, _, ez⟩ := hV'.ecell he h1
    refine ⟨rfl, ⟨hq.cell0, by rw [hcell]; exact e3, by rw [hcell]; exact e4⟩, by rw [World.frozen?_of_block (w := V) (a := ⟨g.B N[i].1, 4, none⟩) hbk]; exact ez 4, fun hE => ?_, ?_⟩
    · have hN : writeN D.T e.node e.pos s = D.T := by unfold writeN; rw [if_pos (.inl hE)]
      have := (hq.upon hV).go
      rw [hN] at this
      exact this
    · obtain ⟨⟨g1, a1, a2, a3, a4, a5, a6⟩, wt⟩ := hq.upon hV
      have he1 : ({ D with T := writeN D.T e.node e.pos s } : DS).E N[i].1 = some e := he
      obtain ⟨c1, b1, b2, b3⟩ := a1.ent _ e he1
      have hB1 : g1.B N[i].1 = g.B N[i].1 := by rw [a6]
      have h2 := a1.place he1 (e.pos + s.length)
      rw [hB1] at h2 b3
      have gg := tgrown_set w' (g.B N[i].1) 4 (.int .i64 (e.pos + s.length))
      refine QGo.after a3 a4 a5 wt ⟨⟨g1, n, M, h2, a2.offOwn (by rw [b3]; rfl) gg, Ext.refl _ _ _⟩, Wt.grown gg (.inl (by rw [b3]; rfl))⟩
  generalize ({ D with T := writeN D.T e.node e.pos s, E := fun j => if j = N[i].1 then some { e with pos := e.pos + s.length } else D.E j } : DS) = D2 at *
  generalize writeE D.T e.node e.pos s = C9 at *
  generalize g.B N[i].1 = q at *
  generalize e.node = nd at *
  generalize hps9 : e.pos = ps at *
  have HW : Aside (wrap64 (ps + (s.length : Int)) = ps + (s.length : Int)) := by show wrap64 _ = _; unfold wrap64; omega
  have hcond : s = [] ∨ (s ≠ [] ∧ ¬ a < ps + (s.length : Int)) := by
    by_cases e1 : s = []
    · exact .inl e1
    · refine .inr ⟨e1, fun h9 => hlim ⟨e1, by omega⟩⟩
  clear h t hk hpr he h0 hl hps hnd hT hlim hps9
  have HC : Aside (s = [] ∨ (s ≠ [] ∧ ¬ a < ps + (s.length : Int))) := hcond
  clear hcond
  go_enter Tryz.func59, Tryz.ntmps59
  go_upto_region 6 with (first
    | (go_at_call 144; refine hU.mono ?_; rintro y w1 ⟨rfl, b1⟩)
    | (go_at_call 145; refine (hIs _ b1).mono ?_; rintro y w2 ⟨rfl, hw2⟩; subst w2))
  have hc1 := hat _ b1
  obtain ⟨c0, c3, c4⟩ := hat _ b1
  clear hU hIs hat
  rcases HC.out with rfl | ⟨hs0, hs1⟩
  · clear HC
    go_upto_region 8 with fail
    go_region_held3 (fun w' => w'.cell? ⟨f, 0, none⟩ = some (wp g.r) ∧ w'.cell? ⟨q, 3, none⟩ = some (.int .i64 nd) ∧ w'.cell? ⟨q, 4, none⟩ = some (.int .i64 ps)) (first | exact hc1 | exact hc3) (first
      | (go_at_call 147; refine (hWr _ (below_dr b1)).mono ?_; rintro y w3 ⟨rfl, hc3, hz3, hB, hG⟩; have HB : Aside _ := hB; clear hB))
    all_goals
      obtain ⟨_, _, k4⟩ := hc3
      have HW9 : wrap64 ps = ps := by simpa using HW.out
      clear hc1 c0 c3 c4 hWr HW
      by_cases hz : C9 = 0
      · subst hz
        clear HB
        rw [show uev 0 = .nilIface from rfl]
        go_wp2_with fail
        go_ret2
        exact ⟨rfl, by simpa using hG⟩
      · have hG2 := HB.out hz
        rw [uev_ne hz]
        have HN : Aside (C9 ≠ 0) := hz
        clear hz HB hG
        go_wp2_with fail
        go_ret2
        exact .inl ⟨HN.out, rfl, hG2⟩
  · have hne : (s == []) = false := by simpa using hs0
    have HW9 := HW.out
    clear HC hs0
    go_upto_region 8 with fail
    go_region_held3 (fun w' => w'.cell? ⟨f, 0, none⟩ = some (wp g.r) ∧ w'.cell? ⟨q, 3, none⟩ = some (.int .i64 nd) ∧ w'.cell? ⟨q, 4, none⟩ = some (.int .i64 ps)) (first | exact hc1 | exact hc3) (first
      | (go_at_call 147; refine (hWr _ (below_dr b1)).mono ?_; rintro y w3 ⟨rfl, hc3, hz3, hB, hG⟩; have HB : Aside _ := hB; clear hB))
    all_goals
      obtain ⟨_, _, k4⟩ := hc3
      clear hc1 c0 c3 c4 hWr HW
      by_cases hz : C9 = 0
      · subst hz
        clear HB
        rw [show uev 0 = .nilIface from rfl]
        go_wp2_with fail
        go_ret2
        exact ⟨rfl, hG⟩
      · have hG2 := HB.out hz
        rw [uev_ne hz]
        have HN : Aside (C9 ≠ 0) := hz
        clear hz HB hG
        go_wp2_with fail
        go_ret2
        exact .inl ⟨HN.out, rfl, hG2⟩
end
end Go.Proofs.YtcfhanoekniaaaaGreatDoor
