/- Package desc: where a path leads, a file that is made; the tree's calls beside what is open. -/
import Derived.Test.YtjkneekfijibiabGreatDoorEntries
import Derived.Test.YtjkneekfijibiabGreatDoorUTake
import Derived.Test.YtjkneekfijibiabGreatDoorUBytes
import Derived.Test.YtjkneekfijibiabGreatDoorTell
import Derived.Test.YtjkneekfijibiabGreatDoorDInv3
namespace Go.Proofs.YtjkneekfijibiabGreatDoor
open Go.RowKit Go.Maps

/-- The tree turns; what is open stays. -/
structure QSt (w w' : World) (f : Nat) (D : DS) (T' : Wd) (g : QG) (n b : Nat) (M N : Ns) : Prop where
  ex : ∃ g', QF w' f { D with T := T' } g' n ∧ QTb w' b g' M N ∧ (∀ i, i < w.heap.size → g'.kap i = g.kap i) ∧ g'.K = g.K ∧ g'.r = g.r ∧ g'.B = g.B
  wt : Wt (fun i => (g.kap i).isSome = true ∨ i = b) w w'
section
variable {w w' w2 w0 w1 : World} {f b n q : Nat} {D D' : DS} {g g' g1 : QG} {M N N' : Ns} {d k m : Int} {e : En} {T' : Wd}
theorem QTb.sameK (t : QTb w b g M N) (hk : w'.heap[b]? = w.heap[b]?) (hx : ∀ i, i < w.heap.size → g'.kap i = g.kap i) (hK : g'.K = g.K) : QTb w' b g' M N :=
  ⟨t.tab.keep hk, (hx b t.tab.lt).trans t.off, t.len, by rw [hK]; exact t.rel⟩
theorem QF.treeGo (h : QF w f D g n) (t : QTb w b g M N) {O O' : Nat → Prop} (hO : ∀ i, O i → g.kap i = some .tree) (p : PT w' g.r T' O') (st : Stp w w' O O') : QSt w w' f D T' g n b M N := by
  obtain ⟨g', a1, a2, a3, a4, a5⟩ := h.turn hO p st
  have hb : w'.heap[b]? = w.heap[b]? := st.wt.block b t.tab.lt (fun o => by have := hO b o; rw [t.off] at this; cases this)
  exact ⟨⟨g', a1, t.sameK hb a2 a3, a2, a3, a4, a5⟩, st.wt.mono (fun i hi => .inl (by rw [hO i hi]; rfl))⟩
theorem QF.still (h : QF w f D g n) (t : QTb w b g M N) (hb : Below w.heap.size w w') : QSt w w' f D D.T g n b M N := ⟨⟨g, h.below hb, t.below hb, fun _ _ => rfl, rfl, rfl, rfl⟩, Wt.below _ hb⟩
theorem QSt.upon (hb : Below w.heap.size w w1) (h : QSt w1 w' f D T' g n b M N) : QSt w w' f D T' g n b M N := by
  obtain ⟨⟨g', a1, a2, a3, a4⟩, wt⟩ := h
  exact ⟨⟨g', a1, a2, fun i hi => a3 i (Nat.lt_of_lt_of_le hi hb.size), a4⟩, (Wt.below _ hb).trans wt⟩
theorem QSt.go (h : QSt w w' f D T' g n b M N) : QGo w w' f { D with T := T' } g b N := by
  obtain ⟨⟨g', a1, a2, a3, a4, a5, _⟩, wt⟩ := h
  exact ⟨⟨g', n, M, a1, a2, a3, fun k d hk _ => by rw [a4]; exact hk, a5⟩, wt⟩
theorem Wt.weaken {A A' : Nat → Prop} (h : Wt A w w') (k : Wt A' w' w2) (hA : ∀ i, i < w.heap.size → A' i → A i) : Wt A w w2 :=
  ⟨k.os.trans h.os, k.tape.trans h.tape, k.output.trans h.output, Nat.le_trans h.size k.size, fun i hi hn => (k.block i (Nat.lt_of_lt_of_le hi h.size) (fun z => hn (hA i hi z))).trans (h.block i hi hn)⟩
theorem QGo.after (hx : ∀ i, i < w.heap.size → g1.kap i = g.kap i) (hK : g1.K = g.K) (hr : g1.r = g.r) (wt : Wt (fun i => (g.kap i).isSome = true ∨ i = b) w w1) (h : QGo w1 w2 f D' g1 b N') : QGo w w2 f D' g b N' := by
  obtain ⟨⟨g', n', M', a1, a2, a3⟩, wt2⟩ := h
  refine ⟨⟨g', n', M', a1, a2, ⟨fun i hi => (a3.kap i (Nat.lt_of_lt_of_le hi wt.size)).trans (hx i hi), fun k d hk hd => a3.key k d (by rw [hK]; exact hk) hd, a3.r.trans hr⟩⟩, wt.weaken wt2 (fun i hi z => by
    rcases z with z | z
    · exact .inl (by rw [← hx i hi]; exact z)
    · exact .inr z)⟩
theorem QSt.then (h : QSt w w' f D T' g n b M N) {Q : World → Prop} (hk : ∀ g1, QF w' f { D with T := T' } g1 n → QTb w' b g1 M N → Q w') : Q w' := by
  obtain ⟨⟨g', a1, a2, _⟩, _⟩ := h
  exact hk g' a1 a2
/-- The tree's own calls. -/
theorem QF.find1 (h : QF w f D g n) (hT : TrLv D.T) (p : List UInt8) (hp : p.length < 100000) (hm : w.cell? ⟨2, 0, none⟩ = some (.int .i64 m)) : Calls Tryz.prog 20 #[wp g.r, tx p] w fun e w' => e = .returned (.tuple #[.int .i64 (findT D.T p).1, uev (findT D.T p).2]) ∧ Below w.heap.size w w' := by
  obtain ⟨O, pt, hO⟩ := h.tree
  obtain ⟨gN, s, B, G, V, pt⟩ := pt
  exact pt.find_ok hT.toTrOk (pt.num.pos hT.toTrOk) p hp m hm
theorem QF.hold1 (h : QF w f D g n) (t : QTb w b g M N) (hT : TrLv D.T) (x : Int) (hx0 : 0 ≤ x) (hx1 : x < 100000) (hx : ∀ b y, D.T x = some (.file b y) → y + 1 ≤ 1000) : Calls Tryz.prog 57 #[wp g.r, .int .i64 x] w fun e w' => e = .returned (uev (holdE D.T x 1)) ∧ QSt w w' f D (holdN D.T x 1) g n b M N := by
  obtain ⟨O, pt, hO⟩ := h.tree
  refine (pt.hold_ok hT x (wf_few hx0 (by omega)) hx).mono ?_
  rintro e w' ⟨rfl, p', st⟩
  exact ⟨rfl, h.treeGo t hO p' st⟩
theorem QF.make1 (h : QF w f D g n) (t : QTb w b g M N) (hT : TrLv D.T) {s : Nat} (hs : IsNum D.T s) (p : List UInt8) (hp : p.length < 100000) (hm : w.cell? ⟨2, 0, none⟩ = some (.int .i64 m)) (hC : ∀ k C, D.T k = some (.dir C) → C.length ≤ 1000) :
    Calls Tryz.prog 15 #[wp g.r, tx p] w fun e w' => (makeE D.T s p ≠ 0 ∧ e = .returned (.tuple #[.int .i64 0, uer (makeE D.T s p)]) ∧ QSt w w' f D D.T g n b M N) ∨ (makeE D.T s p = 0 ∧ ∃ k, IsFree D.T k ∧ k < 64 ∧ e = .returned (.tuple #[.int .i64 k, .nilIface]) ∧ QSt w w' f D (makeN D.T p false k) g n b M N) := by
  obtain ⟨O, pt, hO⟩ := h.tree
  refine (pt.create_ok hT hs p hp m hm hC).mono ?_
  rintro e w' (⟨a, rfl, p', st⟩ | ⟨a, k, O', b1, c, rfl, p', st⟩)
  · exact .inl ⟨a, rfl, h.treeGo t hO p' st⟩
  · exact .inr ⟨a, k, b1, c, rfl, h.treeGo t hO p' st⟩
theorem tellU (c : Int) (w : World) (hg : w.cell? ⟨0, 0, none⟩ = some errT) : Calls Tryz.prog 23 #[uev c] w fun e w' => e = .returned (.int .i64 c) ∧ Below w.heap.size w w' := by
  by_cases h : c = 0
  · subst h
    refine (tell_nil w).mono ?_
    rintro e w' ⟨rfl, rfl⟩
    exact ⟨rfl, Below.refl _ _⟩
  · rw [uev_ne h]; exact tell_eno c w hg
theorem cell_below {v : Value} {q : Nat} (hg : w.cell? ⟨q, 0, none⟩ = some v) (hb : Below w.heap.size w w') : w'.cell? ⟨q, 0, none⟩ = some v := by
  rw [hb.cell (p := ⟨q, 0, none⟩) (World.block_lt_of_cell? w _ hg)]; exact hg
set_option maxRecDepth 100000 in
set_option maxHeartbeats 4000000 in
theorem QF.node_find (h : QF w f D g n) (hT : TrLv D.T) (p : List UInt8) (hp : p.length < 100000) (hm : w.cell? ⟨2, 0, none⟩ = some (.int .i64 m)) (hg : w.cell? ⟨0, 0, none⟩ = some errT) (mk : Bool) (hmk : ¬ ((findT D.T p).2 = 7 ∧ mk = true)) :
    Calls Tryz.prog 104 #[wp f, tx p, .bool mk] w fun e w' => e = .returned (.tuple #[.int .i64 (findT D.T p).1, uev (findT D.T p).2]) ∧ Below w.heap.size w w' := by
  have hF := h.find1 hT p hp hm
  have c0 := h.cells.1
  have hTl : ∀ V, Below w.heap.size w V → Calls Tryz.prog 23 #[uev (findT D.T p).2] V fun e w' => e = .returned (.int .i64 (findT D.T p).2) ∧ Below w.heap.size w w' := fun V hV => by
    refine (tellU _ V (cell_below hg hV)).mono ?_
    rintro e w' ⟨rfl, b1⟩
    exact ⟨rfl, hV.trans (b1.mono hV.size)⟩
  generalize (findT D.T p).1 = k at *
  generalize (findT D.T p).2 = c at *
  clear h hT hp hm hg
  cases mk with
  | false =>
    clear hmk hTl
    generalize uev c = U at *
    go_enter Tryz.func104, Tryz.ntmps104
    go_wp2_with (go_at_call 20; refine hF.mono ?_; rintro y w1 ⟨rfl, b1⟩)
    go_ret2
    exact ⟨rfl, b1⟩
  | true =>
    have hc7 : (c == 7) = false := by simpa using hmk
    clear hmk
    generalize uev c = U at *
    go_enter Tryz.func104, Tryz.ntmps104
    go_wp2_with (first
      | (go_at_call 20; refine hF.mono ?_; rintro y w1 ⟨rfl, b1⟩)
      | (go_at_call 23; refine (hTl _ b1).mono ?_; rintro y w2 ⟨rfl, b2⟩))
    go_ret2
    exact ⟨rfl, b2⟩
set_option maxRecDepth 100000 in
set_option maxHeartbeats 4000000 in
theorem QF.node_make (h : QF w f D g n) (t : QTb w b g M N) (hT : TrLv D.T) {s : Nat} (hs : IsNum D.T s) (p : List UInt8) (hp : p.length < 100000) (hm : w.cell? ⟨2, 0, none⟩ = some (.int .i64 m)) (hg : w.cell? ⟨0, 0, none⟩ = some errT) (hC : ∀ k C, D.T k = some (.dir C) → C.length ≤ 1000) (hE : (findT D.T p).2 = 7) :
    Calls Tryz.prog 104 #[wp f, tx p, .bool true] w fun e w' => (makeE D.T s p ≠ 0 ∧ e = .returned (.tuple #[.int .i64 0, uer (makeE D.T s p)]) ∧ QSt w w' f D D.T g n b M N) ∨ (makeE D.T s p = 0 ∧ ∃ k, IsFree D.T k ∧ k < 64 ∧ e = .returned (.tuple #[.int .i64 k, .nilIface]) ∧ QSt w w' f D (makeN D.T p false k) g n b M N) := by
  have hF := h.find1 hT p hp hm
  rw [hE] at hF
  have c0 := h.cells.1
  have hTl : ∀ V, Below w.heap.size w V → Calls Tryz.prog 23 #[uev 7] V fun e w' => e = .returned (.int .i64 7) ∧ Below w.heap.size w w' := fun V hV => by
    refine (tellU _ V (cell_below hg hV)).mono ?_
    rintro e w' ⟨rfl, b1⟩
    exact ⟨rfl, hV.trans (b1.mono hV.size)⟩
  have hMk : ∀ V, Below w.heap.size w V → V.cell? ⟨f, 0, none⟩ = some (wp g.r) ∧ Calls Tryz.prog 15 #[wp g.r, tx p] V fun e w' => ∃ k c, e = .returned (.tuple #[.int .i64 k, uev c]) ∧ ((makeE D.T s p ≠ 0 ∧ k = 0 ∧ c = makeE D.T s p ∧ QSt w w' f D D.T g n b M N) ∨ (makeE D.T s p = 0 ∧ IsFree D.T k ∧ k < 64 ∧ c = 0 ∧ QSt w w' f D (makeN D.T p false k) g n b M N)) := fun V hV => by
    refine ⟨(h.below hV).cells.1, ((h.below hV).make1 (t.below hV) hT hs p hp (cell_below hm hV) hC).mono ?_⟩
    rintro e w' (⟨a, rfl, st⟩ | ⟨a, k, b1, c, rfl, st⟩)
    · exact ⟨0, makeE D.T s p, by rw [uev_ne a], .inl ⟨a, rfl, rfl, st.upon hV⟩⟩
    · exact ⟨k, 0, rfl, .inr ⟨a, b1, c, rfl, st.upon hV⟩⟩
  have HQ : Aside (∀ (w' : World) (k c : Int), ((makeE D.T s p ≠ 0 ∧ k = 0 ∧ c = makeE D.T s p ∧ QSt w w' f D D.T g n b M N) ∨ (makeE D.T s p = 0 ∧ IsFree D.T k ∧ k < 64 ∧ c = 0 ∧ QSt w w' f D (makeN D.T p false k) g n b M N)) → ((makeE D.T s p ≠ 0 ∧ Ending.returned (.tuple #[.int .i64 k, uev c]) = .returned (.tuple #[.int .i64 0, uer (makeE D.T s p)]) ∧ QSt w w' f D D.T g n b M N) ∨ (makeE D.T s p = 0 ∧ ∃ j, IsFree D.T j ∧ j < 64 ∧ Ending.returned (.tuple #[.int .i64 k, uev c]) = .returned (.tuple #[.int .i64 j, .nilIface]) ∧ QSt w w' f D (makeN D.T p false j) g n b M N))) := fun w' k c hx => by
    rcases hx with ⟨a, rfl, rfl, st⟩ | ⟨a, b1, b2, rfl, st⟩
    · exact .inl ⟨a, by rw [uev_ne a], st⟩
    · exact .inr ⟨a, k, b1, b2, rfl, st⟩
  have HM : Aside (∀ V, Below w.heap.size w V → V.cell? ⟨f, 0, none⟩ = some (wp g.r) ∧ Calls Tryz.prog 15 #[wp g.r, tx p] V fun e w' => ∃ k c, e = .returned (.tuple #[.int .i64 k, uev c]) ∧ ((makeE D.T s p ≠ 0 ∧ k = 0 ∧ c = makeE D.T s p ∧ QSt w w' f D D.T g n b M N) ∨ (makeE D.T s p = 0 ∧ IsFree D.T k ∧ k < 64 ∧ c = 0 ∧ QSt w w' f D (makeN D.T p false k) g n b M N))) := hMk
  generalize (findT D.T p).1 = k0 at *
  clear h t hT hp hm hg hE hC hs hMk
  go_enter Tryz.func104, Tryz.ntmps104
  go_upto_region 3 with (first
    | (go_at_call 20; refine hF.mono ?_; rintro y w1 ⟨rfl, b1⟩)
    | (go_at_call 23; refine (hTl _ b1).mono ?_; rintro y w2 ⟨rfl, b2⟩))
  obtain ⟨c2, hMk⟩ := HM.out _ b2
  clear hF hTl c0
  go_wp2_with (go_at_call 15; refine hMk.mono ?_; rintro y w3 ⟨k, c, rfl, hR⟩; have HR : Aside _ := hR; clear hR)
  go_ret2
  exact HQ.out _ _ _ HR.out
end
end Go.Proofs.YtjkneekfijibiabGreatDoor

namespace Go.Proofs.YtjkneekfijibiabGreatDoor
open Go.RowKit Go.Maps

section
variable {w w' w2 w0 w1 : World} {f b n q k j : Nat} {D D' D1 D2 : DS} {g g' g1 : QG} {M M1 N N' N1 N2 : Ns} {d m : Int} {e : En} {T' : Wd} {Ts : List Ns}
theorem QGo.comp (h : QF w f D g n) (wt : Wt (fun i => (g.kap i).isSome = true ∨ i = b) w w1) (hx : Ext w D1 g g1) (h2 : QGo w1 w2 f D2 g1 b N2) (hs : ∀ d, (D.E d).isSome = true → (D2.E d).isSome = true → (D1.E d).isSome = true) : QGo w w2 f D2 g b N2 := by
  obtain ⟨⟨g2, n2, M2, a1, a2, a3⟩, wt2⟩ := h2
  refine ⟨⟨g2, n2, M2, a1, a2, ⟨fun i hi => (a3.kap i (Nat.lt_of_lt_of_le hi wt.size)).trans (hx.kap i hi), fun k d hk hd => a3.key k d (hx.key k d hk (hs d (h.key k d hk).1 hd)) hd, a3.r.trans hx.r⟩⟩, wt.weaken wt2 (fun i hi z => ?_)⟩
  rcases z with z | z
  · exact .inl (by rw [← hx.kap i hi]; exact z)
  · exact .inr z
/-- One number looked at. -/
theorem QGo.freed (h : QF w f D g n) (I : Inv D Ts k) (hk : k ≤ 900) (hj : j < Ts.length) (hN : Ts[j] = N) {all : Bool} {i : Nat} (hi : i < 8) (hiL : i < N.length) (h0 : 0 < N[i].1) (ha : all = true ∨ N[i].2 = true) (hG : QGo w w1 f (freeS all D N i).1 g b (freeS all D N i).2) :
    Calls Tryz.prog 101 #[wp f, wp b, .int .i64 (i : Int)] w1 fun x w' => x = .returned (.tuple #[]) ∧ QGo w w' f (freeS all D N (i + 1)).1 g b (freeS all D N (i + 1)).2 := by
  have hiF : i < (freeS all D N i).2.length := by rw [(freeS_tab all D N i).1]; exact hiL
  have hat := freeS_at (D := D) (all := all) hiL hiF
  have hD : N.getD i (0, false) = N[i] := by rw [List.getD_eq_getElem?_getD, List.getElem?_eq_getElem hiL]; rfl
  have e1 : freeS all D N (i + 1) = (closeK (freeS all D N i).1 N[i].1, (freeS all D N i).2.set i (0, false)) := by
    rw [freeS, hD, if_pos ⟨h0, ha⟩]
  have I1 := I.free hk hj all i (by omega)
  have I2 := I.free hk hj all (i + 1) (by omega)
  rw [hN] at I1 I2
  rw [e1] at I2 ⊢
  have hj1 : j < (Ts.set j (freeS all D N i).2).length := by rw [List.length_set]; exact hj
  have hj2 : j < (Ts.set j ((freeS all D N i).2.set i (0, false))).length := by rw [List.length_set]; exact hj
  have hg1 := getT_set hj (freeS all D N i).2 hj1
  have hg2 := getT_set hj ((freeS all D N i).2.set i (0, false)) hj2
  have hl := I2.live hj2
  rw [hg2] at hl
  have hcn := I1.cl hj1 (i := i) (by rw [hg1]; exact hiF)
  simp only [hg1] at hcn
  rw [hat] at hcn
  obtain ⟨e, cl⟩ := hcn h0
  obtain ⟨⟨g1, n1, M1, a1, a2, a3⟩, wt⟩ := hG
  have hf := a1.free_ok a2 hi hiF (by rw [hat]; exact h0) (e := e) (c := cntS N[i].1 (Ts.set j (freeS all D N i).2)) (by rw [hat]; exact cl) (by rw [hat]; exact hl)
  rw [hat] at hf
  refine hf.mono ?_
  rintro x w' ⟨rfl, hG2⟩
  exact ⟨rfl, QGo.comp h wt a3 hG2 (fun d _ hd => closeK_sub hd)⟩
theorem freeS_skip {all : Bool} {i : Nat} (hiL : i < N.length) (hc : ¬ (0 < N[i].1 ∧ (all = true ∨ N[i].2 = true))) : freeS all D N (i + 1) = freeS all D N i := by
  have hD : N.getD i (0, false) = N[i] := by rw [List.getD_eq_getElem?_getD, List.getElem?_eq_getElem hiL]; rfl
  rw [freeS, hD, if_neg hc]
/-- What a number of the table is, however far it was looked at. -/
theorem QGo.atIs {all : Bool} {i : Nat} (hi : i < 8) (hiL : i < N.length) (hG : QGo w w1 f (freeS all D N i).1 g b (freeS all D N i).2) : ∃ x : Int × Bool, Calls Tryz.prog 93 #[wp b, .int .i64 (i : Int)] w1 (fun e w' => e = .returned (.agg #[.int .i64 x.1, .bool x.2]) ∧ QGo w w' f (freeS all D N i).1 g b (freeS all D N i).2) ∧ (x.1 = 0 ↔ N[i].1 = 0) ∧ 0 ≤ N[i].1 ∧ x.2 = N[i].2 ∧ (x.1 = 0 → x.2 = false) := by
  have hiF : i < (freeS all D N i).2.length := by rw [(freeS_tab all D N i).1]; exact hiL
  have hat := freeS_at (D := D) (all := all) hiL hiF
  have hG' := hG
  obtain ⟨⟨g1, n1, M1, a1, a2, a3⟩, wt⟩ := hG
  have hM : i < M1.length := by rw [a2.tab.len]; exact hi
  have h1 := a2.tab.at_ok i
  rw [atM_in a2.tab.len hi] at h1
  have hp := (a2.pos a1 i hM hiF).2
  have hr := (a2.rel i hM hiF).1
  rw [hat] at hp hr
  have hnn := a2.nnAt i hiF
  rw [hat] at hnn
  refine ⟨M1[i], h1.mono ?_, hp, hnn, hr.symm, (a2.tab.nn hM).2.2⟩
  rintro e w' ⟨rfl, b1⟩
  exact ⟨rfl, ⟨⟨g1, n1, M1, a1.below b1, a2.below b1, a3⟩, wt.trans (Wt.below _ b1)⟩⟩
theorem QGo.behind (h : QGo w w1 f D' g b N') (hb : Below w1.heap.size w1 w2) : QGo w w2 f D' g b N' := by
  obtain ⟨⟨g1, n1, M1, a1, a2, a3⟩, wt⟩ := h
  exact ⟨⟨g1, n1, M1, a1.below hb, a2.below hb, a3⟩, wt.trans (Wt.below _ hb)⟩
set_option maxRecDepth 100000 in
set_option maxHeartbeats 4000000 in
theorem QF.clear_ok (h : QF w f D g n) (t : QTb w b g M N) (I : Inv D Ts k) (hk : k ≤ 900) (hj : j < Ts.length) (hN : Ts[j] = N) :
    Calls Tryz.prog 41 #[wp f, wp b] w fun y w' => y = .returned (.tuple #[]) ∧ QGo w w' f (freeS true D N 8).1 g b (freeS true D N 8).2 := by
  have hL : N.length = 8 := t.len
  have hG0 : QGo w w f (freeS true D N 0).1 g b (freeS true D N 0).2 := h.same t (Below.refl _ _)
  have HA : Aside (∀ i (hi : i < 8) (hiL : i < N.length) W, QGo w W f (freeS true D N i).1 g b (freeS true D N i).2 → ∃ x : Int × Bool, Calls Tryz.prog 93 #[wp b, .int .i64 (i : Int)] W (fun e w' => e = .returned (.agg #[.int .i64 x.1, .bool x.2]) ∧ QGo w w' f (freeS true D N i).1 g b (freeS true D N i).2) ∧ (x.1 = 0 ↔ N[i].1 = 0) ∧ 0 ≤ N[i].1 ∧ x.2 = N[i].2 ∧ (x.1 = 0 → x.2 = false)) := fun i hi hiL W hG => QGo.atIs hi hiL hG
  have HF : Aside (∀ i (hi : i < 8) (hiL : i < N.length) W, 0 < N[i].1 → (true = true ∨ N[i].2 = true) → QGo w W f (freeS true D N i).1 g b (freeS true D N i).2 → Calls Tryz.prog 101 #[wp f, wp b, .int .i64 (i : Int)] W fun x w' => x = .returned (.tuple #[]) ∧ QGo w w' f (freeS true D N (i + 1)).1 g b (freeS true D N (i + 1)).2) := fun i hi hiL W h0 ha hG => QGo.freed h I hk hj hN hi hiL h0 ha hG
  have HS : Aside (∀ i (hiL : i < N.length) W, ¬ (0 < N[i].1 ∧ (true = true ∨ N[i].2 = true)) → QGo w W f (freeS true D N i).1 g b (freeS true D N i).2 → QGo w W f (freeS true D N (i + 1)).1 g b (freeS true D N (i + 1)).2) := fun i hiL W h0 hG => by
    rw [freeS_skip hiL h0]; exact hG
  have HL : Aside (N.length = 8) := hL
  have hfm := num_mark
  clear h t I hk hN hj hL
  go_enter Tryz.func41, Tryz.ntmps41
  go_wp2_with fail
  go_loopg [4, 5] 8 (fun mm _ s5 wx => ∃ i : Nat, Aside (i + mm = 8) ∧ s5 = .int .i64 (i : Int) ∧ QGo w wx f (freeS true D N i).1 g b (freeS true D N i).2)
  case atStart => exact ⟨0, rfl, rfl, hG0⟩
  case round =>
    obtain ⟨i, HI, rfl, hG⟩ := hrel
    have hi9' : (i : Int) ≤ 8 := by have := HI.out; omega
    by_cases hlt : (i : Int) < 8
    · have HiL : Aside (i < N.length) := by show i < N.length; have := HL.out; omega
      have Hi8 : Aside (i < 8) := by show i < 8; omega
      obtain ⟨⟨X, Y⟩, hAt, hx0, hnn, hy, hfr⟩ := HA.out i Hi8.out HiL.out _ hG
      simp only at hAt hx0 hy hfr
      by_cases hX : X = 0
      · have HN0 : Aside (¬ (0 < (N[i]'HiL.out).1 ∧ (true = true ∨ (N[i]'HiL.out).2 = true))) := fun z => by have := hx0.1 hX; omega
        subst hX
        clear hG hx0 hnn hy hfr
        go_wp2_with (first
          | (go_at_call 93; refine hAt.mono ?_; rintro e w1 ⟨rfl, hG1⟩)
          | (go_at_call 94; refine (isFree_ok _ 0 _).mono ?_; rintro e w2 ⟨rfl, b2⟩))
        go_roundg (7 - i)
        case measure => have := HI.out; omega
        case rel => exact ⟨i + 1, (show i + 1 + (7 - i) = 8 by omega), by rfl, HS.out i HiL.out _ HN0.out (hG1.behind b2)⟩
      · have HN0 : Aside (0 < (N[i]'HiL.out).1 ∧ (true = true ∨ (N[i]'HiL.out).2 = true)) := ⟨by have : (N[i]'HiL.out).1 ≠ 0 := fun z => hX (hx0.2 z); omega, .inl rfl⟩
        have hX' : (X == 0) = false := by simpa using hX
        clear hG hx0 hnn hy hfr hX
        go_wp2_with (first
          | (go_at_call 93; refine hAt.mono ?_; rintro e w1 ⟨rfl, hG1⟩)
          | (go_at_call 94; refine (isFree_ok _ X _).mono ?_; rintro e w2 ⟨rfl, b2⟩; have hFr := HF.out i Hi8.out HiL.out _ HN0.out.1 HN0.out.2 (hG1.behind b2))
          | (go_at_call 101; refine hFr.mono ?_; rintro e w3 ⟨rfl, hG3⟩))
        go_roundg (7 - i)
        case measure => have := HI.out; omega
        case rel => exact ⟨i + 1, (show i + 1 + (7 - i) = 8 by omega), by rfl, hG3⟩
    · have H8 : Aside (i = 8) := by show i = 8; omega
      have hG8 : QGo w wr f (freeS true D N 8).1 g b (freeS true D N 8).2 := by rw [← H8.out]; exact hG
      clear hG
      go_wp2_with fail
      go_end0
      exact ⟨rfl, hG8⟩
set_option maxRecDepth 100000 in
set_option maxHeartbeats 4000000 in
theorem QF.exec_ok (h : QF w f D g n) (t : QTb w b g M N) (I : Inv D Ts k) (hk : k ≤ 900) (hj : j < Ts.length) (hN : Ts[j] = N) :
    Calls Tryz.prog 91 #[wp f, wp b] w fun y w' => y = .returned (.tuple #[]) ∧ QGo w w' f (freeS false D N 8).1 g b (freeS false D N 8).2 := by
  have hL : N.length = 8 := t.len
  have hG0 : QGo w w f (freeS false D N 0).1 g b (freeS false D N 0).2 := h.same t (Below.refl _ _)
  have HA : Aside (∀ i (hi : i < 8) (hiL : i < N.length) W, QGo w W f (freeS false D N i).1 g b (freeS false D N i).2 → ∃ x : Int × Bool, Calls Tryz.prog 93 #[wp b, .int .i64 (i : Int)] W (fun e w' => e = .returned (.agg #[.int .i64 x.1, .bool x.2]) ∧ QGo w w' f (freeS false D N i).1 g b (freeS false D N i).2) ∧ (x.1 = 0 ↔ N[i].1 = 0) ∧ 0 ≤ N[i].1 ∧ x.2 = N[i].2 ∧ (x.1 = 0 → x.2 = false)) := fun i hi hiL W hG => QGo.atIs hi hiL hG
  have HF : Aside (∀ i (hi : i < 8) (hiL : i < N.length) W, 0 < N[i].1 → (false = true ∨ N[i].2 = true) → QGo w W f (freeS false D N i).1 g b (freeS false D N i).2 → Calls Tryz.prog 101 #[wp f, wp b, .int .i64 (i : Int)] W fun x w' => x = .returned (.tuple #[]) ∧ QGo w w' f (freeS false D N (i + 1)).1 g b (freeS false D N (i + 1)).2) := fun i hi hiL W h0 ha hG => QGo.freed h I hk hj hN hi hiL h0 ha hG
  have HS : Aside (∀ i (hiL : i < N.length) W, ¬ (0 < N[i].1 ∧ (false = true ∨ N[i].2 = true)) → QGo w W f (freeS false D N i).1 g b (freeS false D N i).2 → QGo w W f (freeS false D N (i + 1)).1 g b (freeS false D N (i + 1)).2) := fun i hiL W h0 hG => by
    rw [freeS_skip hiL h0]; exact hG
  have HL : Aside (N.length = 8) := hL
  have hfm := num_mark
  clear h t I hk hN hj hL
  go_enter Tryz.func91, Tryz.ntmps91
  go_wp2_with fail
  go_loopg [4, 5] 8 (fun mm _ s5 wx => ∃ i : Nat, Aside (i + mm = 8) ∧ s5 = .int .i64 (i : Int) ∧ QGo w wx f (freeS false D N i).1 g b (freeS false D N i).2)
  case atStart => exact ⟨0, rfl, rfl, hG0⟩
  case round =>
    obtain ⟨i, HI, rfl, hG⟩ := hrel
    have hi9' : (i : Int) ≤ 8 := by have := HI.out; omega
    by_cases hlt : (i : Int) < 8
    · have HiL : Aside (i < N.length) := by show i < N.length; have := HL.out; omega
      have Hi8 : Aside (i < 8) := by show i < 8; omega
      obtain ⟨⟨X, Y⟩, hAt, hx0, hnn, hy, hfr⟩ := HA.out i Hi8.out HiL.out _ hG
      simp only at hAt hx0 hy hfr
      by_cases hX : Y = false
      · have HN0 : Aside (¬ (0 < (N[i]'HiL.out).1 ∧ (false = true ∨ (N[i]'HiL.out).2 = true))) := fun z => by rcases z.2 with z2 | z2; exact absurd z2 (by simp); rw [← hy, hX] at z2; cases z2
        subst hX
        clear hG hx0 hnn hy hfr
        go_wp2_with (go_at_call 93; refine hAt.mono ?_; rintro e w1 ⟨rfl, hG1⟩)
        go_roundg (7 - i)
        case measure => have := HI.out; omega
        case rel => exact ⟨i + 1, (show i + 1 + (7 - i) = 8 by omega), by rfl, HS.out i HiL.out _ HN0.out hG1⟩
      · have HN0 : Aside (0 < (N[i]'HiL.out).1 ∧ (false = true ∨ (N[i]'HiL.out).2 = true)) := ⟨by have : X ≠ 0 := fun z => hX (hfr z); have : (N[i]'HiL.out).1 ≠ 0 := fun z => this (hx0.2 z); omega, .inr (by rw [← hy]; simpa using hX)⟩
        have hX2 : Y = true := by simpa using hX
        have hfl := num_mark X Y
        rw [hX2] at hAt
        clear hG hx0 hnn hy hfr hX
        clear hX2 hfl
        go_wp2_with (first
          | (go_at_call 93; refine hAt.mono ?_; rintro e w1 ⟨rfl, hG1⟩; have hFr := HF.out i Hi8.out HiL.out _ HN0.out.1 HN0.out.2 hG1)
          | (go_at_call 101; refine hFr.mono ?_; rintro e w3 ⟨rfl, hG3⟩))
        go_roundg (7 - i)
        case measure => have := HI.out; omega
        case rel => exact ⟨i + 1, (show i + 1 + (7 - i) = 8 by omega), by rfl, hG3⟩
    · have H8 : Aside (i = 8) := by show i = 8; omega
      have hG8 : QGo w wr f (freeS false D N 8).1 g b (freeS false D N 8).2 := by rw [← H8.out]; exact hG
      clear hG
      go_wp2_with fail
      go_end0
      exact ⟨rfl, hG8⟩
end
end Go.Proofs.YtjkneekfijibiabGreatDoor
