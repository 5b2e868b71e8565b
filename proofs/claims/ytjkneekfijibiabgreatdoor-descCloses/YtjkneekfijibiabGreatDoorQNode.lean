/- Package desc: where a path leads, a file that is made; the tree's calls beside what is open. -/
import Derived.Test.YtjkneekfijibiabGreatDoorQAdd
import Derived.Test.YtjkneekfijibiabGreatDoorUFind
import Derived.Test.YtjkneekfijibiabGreatDoorUNew
import Derived.Test.YtjkneekfijibiabGreatDoorTell
namespace Go.Proofs.YtjkneekfijibiabGreatDoor
open Go.RowKit Go.Maps

/-- The tree turns; what is open stays. -/
structure QSt (w w' : World) (f : Nat) (D : DS) (T' : Wd) (g : QG) (n b : Nat) (M N : Ns) : Prop where
  ex : ∃ g', QF w' f { D with T := T' } g' n ∧ QTb w' b g' M N ∧ (∀ i, i < w.heap.size → g'.kap i = g.kap i) ∧ g'.K = g.K ∧ g'.r = g.r ∧ g'.B = g.B
  wt : Wt (fun i => (g.kap i).isSome = true ∨ i = b) w w'
section
variable {w w' w2 w0 w1 : World} {f b n q : Nat} {D D' : DS} {g g' g1 : QG} {M N N' : Ns} {d k m : Int} {e : En} {T' : Wd}
theorem QTb.sameK (t : QTb w b g M N) (hk : w'.heap[b]? = w.heap[b]?) (hx : ∀ i, i < w.heap.size → g'.kap i = g.kap i) (hK : g'.K = g.K) : QTb w' b g' M N :=
  ⟨t.tab.keep hk, (hx b t.tab.lt).trans t.off, t.len, by rw [hK]; exact t.rel⟩
theorem QF.treeGo (h : QF w f D g n) (t : QTb w b g M N) {O O' : Nat → Prop} (hO : ∀ i, O i → g.kap i = some .tree) (p : PT w' g.r T' O') (st : Stp w w' O O') : QSt w w' f D T' g n b M N := by
  obtain ⟨g', a1, a2, a3, a4, a5⟩ := h.turn hO p st
  have hb : w'.heap[b]? = w.heap[b]? := st.wt.block b t.tab.lt (fun o => by have := hO b o; rw [t.off] at this; cases this)
  exact ⟨⟨g', a1, t.sameK hb a2 a3, a2, a3, a4, a5⟩, st.wt.mono (fun i hi => .inl (by rw [hO i hi]; rfl))⟩
theorem QF.still (h : QF w f D g n) (t : QTb w b g M N) (hb : Below w.heap.size w w') : QSt w w' f D D.T g n b M N := ⟨⟨g, h.below hb, t.below hb, fun _ _ => rfl, rfl, rfl, rfl⟩, Wt.below _ hb⟩
theorem QSt.upon (hb : Below w.heap.size w w1) (h : QSt w1 w' f D T' g n b M N) : QSt w w' f D T' g n b M N := by
  obtain ⟨⟨g', a1, a2, a3, a4⟩, wt⟩ := h
  exact ⟨⟨g', a1, a2, fun i hi => a3 i (Nat.lt_of_lt_of_le hi hb.size), a4⟩, (Wt.below _ hb).trans wt⟩
theorem QSt.go (h : QSt w w' f D T' g n b M N) : QGo w w' f { D with T := T' } g b N := by
  obtain ⟨⟨g', a1, a2, a3, a4, a5, _⟩, wt⟩ := h
  exact ⟨⟨g', n, M, a1, a2, a3, fun k d hk _ => by rw [a4]; exact hk, a5⟩, wt⟩
theorem Wt.weaken {A A' : Nat → Prop} (h : Wt A w w') (k : Wt A' w' w2) (hA : ∀ i, i < w.heap.size → A' i → A i) : Wt A w w2 :=
  ⟨k.os.trans h.os, k.tape.trans h.tape, k.output.trans h.output, Nat.le_trans h.size k.size, fun i hi hn => (k.block i (Nat.lt_of_lt_of_le hi h.size) (fun z => hn (hA i hi z))).trans (h.block i hi hn)⟩
theorem QGo.after (hx : ∀ i, i < w.heap.size → g1.kap i = g.kap i) (hK : g1.K = g.K) (hr : g1.r = g.r) (wt : Wt (fun i => (g.kap i).isSome = true ∨ i = b) w w1) (h : QGo w1 w2 f D' g1 b N') : QGo w w2 f D' g b N' := by
  obtain ⟨⟨g', n', M', a1, a2, a3⟩, wt2⟩ := h
  refine ⟨⟨g', n', M', a1, a2, ⟨fun i hi => (a3.kap i (Nat.lt_of_lt_of_le hi wt.size)).trans (hx i hi), fun k d hk hd => a3.key k d (by rw [hK]; exact hk) hd, a3.r.trans hr⟩⟩, wt.weaken wt2 (fun i hi z => by
    rcases z with z | z
    · exact .inl (by rw [← hx i hi]; exact z)
    · exact .inr z)⟩
theorem QSt.then (h : QSt w w' f D T' g n b M N) {Q : World → Prop} (hk : ∀ g1, QF w' f { D with T := T' } g1 n → QTb w' b g1 M N → Q w') : Q w' := by
  obtain ⟨⟨g', a1, a2, _⟩, _⟩ := h
  exact hk g' a1 a2
/-- The tree's own calls. -/
theorem QF.find1 (h : QF w f D g n) (hT : TrLv D.T) (p : List UInt8) (hp : p.length < 100000) (hm : w.cell? ⟨2, 0, none⟩ = some (.int .i64 m)) : Calls Tryz.prog 20 #[wp g.r, tx p] w fun e w' => e = .returned (.tuple #[.int .i64 (findT D.T p).1, uev (findT D.T p).2]) ∧ Below w.heap.size w w' := by
  obtain ⟨O, pt, hO⟩ := h.tree
  obtain ⟨gN, s, B, G, V, pt⟩ := pt
  exact pt.find_ok hT.toTrOk (pt.num.pos hT.toTrOk) p hp m hm
theorem QF.hold1 (h : QF w f D g n) (t : QTb w b g M N) (hT : TrLv D.T) (x : Int) (hx0 : 0 ≤ x) (hx1 : x < 100000) (hx : ∀ b y, D.T x = some (.file b y) → y + 1 ≤ 1000) : Calls Tryz.prog 57 #[wp g.r, .int .i64 x] w fun e w' => e = .returned (uev (holdE D.T x 1)) ∧ QSt w w' f D (holdN D.T x 1) g n b M N := by
  obtain ⟨O, pt, hO⟩ := h.tree
  refine (pt.hold_ok hT x (wf_few hx0 (by omega)) hx).mono ?_
  rintro e w' ⟨rfl, p', st⟩
  exact ⟨rfl, h.treeGo t hO p' st⟩
theorem QF.make1 (h : QF w f D g n) (t : QTb w b g M N) (hT : TrLv D.T) {s : Nat} (hs : IsNum D.T s) (p : List UInt8) (hp : p.length < 100000) (hm : w.cell? ⟨2, 0, none⟩ = some (.int .i64 m)) (hC : ∀ k C, D.T k = some (.dir C) → C.length ≤ 1000) :
    Calls Tryz.prog 15 #[wp g.r, tx p] w fun e w' => (makeE D.T s p ≠ 0 ∧ e = .returned (.tuple #[.int .i64 0, uer (makeE D.T s p)]) ∧ QSt w w' f D D.T g n b M N) ∨ (makeE D.T s p = 0 ∧ ∃ k, IsFree D.T k ∧ k < 64 ∧ e = .returned (.tuple #[.int .i64 k, .nilIface]) ∧ QSt w w' f D (makeN D.T p false k) g n b M N) := by
  obtain ⟨O, pt, hO⟩ := h.tree
  refine (pt.create_ok hT hs p hp m hm hC).mono ?_
  rintro e w' (⟨a, rfl, p', st⟩ | ⟨a, k, O', b1, c, rfl, p', st⟩)
  · exact .inl ⟨a, rfl, h.treeGo t hO p' st⟩
  · exact .inr ⟨a, k, b1, c, rfl, h.treeGo t hO p' st⟩
theorem tellU (c : Int) (w : World) (hg : w.cell? ⟨0, 0, none⟩ = some errT) : Calls Tryz.prog 23 #[uev c] w fun e w' => e = .returned (.int .i64 c) ∧ Below w.heap.size w w' := by
  by_cases h : c = 0
  · subst h
    refine (tell_nil w).mono ?_
    rintro e w' ⟨rfl, rfl⟩
    exact ⟨rfl, Below.refl _ _⟩
  · rw [uev_ne h]; exact tell_eno c w hg
theorem cell_below {v : Value} {q : Nat} (hg : w.cell? ⟨q, 0, none⟩ = some v) (hb : Below w.heap.size w w') : w'.cell? ⟨q, 0, none⟩ = some v := by
  rw [hb.cell (p := ⟨q, 0, none⟩) (World.block_lt_of_cell? w _ hg)]; exact hg
set_option maxRecDepth 100000 in
set_option maxHeartbeats 4000000 in
theorem QF.node_find (h : QF w f D g n) (hT : TrLv D.T) (p : List UInt8) (hp : p.length < 100000) (hm : w.cell? ⟨2, 0, none⟩ = some (.int .i64 m)) (hg : w.cell? ⟨0, 0, none⟩ = some errT) (mk : Bool) (hmk : ¬ ((findT D.T p).2 = 7 ∧ mk = true)) :
    Calls Tryz.prog 104 #[wp f, tx p, .bool mk] w fun e w' => e = .returned (.tuple #[.int .i64 (findT D.T p).1, uev (findT D.T p).2]) ∧ Below w.heap.size w w' := by
  have hF := h.find1 hT p hp hm
  have c0 := h.cells.1
  have hTl : ∀ V, Below w.heap.size w V → Calls Tryz.prog 23 #[uev (findT D.T p).2] V fun e w' => e = .returned (.int .i64 (findT D.T p).2) ∧ Below w.heap.size w w' := fun V hV => by
    refine (tellU _ V (cell_below hg hV)).mono ?_
    rintro e w' ⟨rfl, b1⟩
    exact ⟨rfl, hV.trans (b1.mono hV.size)⟩
  generalize (findT D.T p).1 = k at *
  generalize (findT D.T p).2 = c at *
  clear h hT hp hm hg
  cases mk with
  | false =>
    clear hmk hTl
    generalize uev c = U at *
    go_enter Tryz.func104, Tryz.ntmps104
    go_wp2_with (go_at_call 20; refine hF.mono ?_; rintro y w1 ⟨rfl, b1⟩)
    go_ret2
    exact ⟨rfl, b1⟩
  | true =>
    have hc7 : (c == 7) = false := by simpa using hmk
    clear hmk
    generalize uev c = U at *
    go_enter Tryz.func104, Tryz.ntmps104
    go_wp2_with (first
      | (go_at_call 20; refine hF.mono ?_; rintro y w1 ⟨rfl, b1⟩)
      | (go_at_call 23; refine (hTl _ b1).mono ?_; rintro y w2 ⟨rfl, b2⟩))
    go_ret2
    exact ⟨rfl, b2⟩
set_option maxRecDepth 100000 in
set_option maxHeartbeats 4000000 in
theorem QF.node_make (h : QF w f D g n) (t : QTb w b g M N) (hT : TrLv D.T) {s : Nat} (hs : IsNum D.T s) (p : List UInt8) (hp : p.length < 100000) (hm : w.cell? ⟨2, 0, none⟩ = some (.int .i64 m)) (hg : w.cell? ⟨0, 0, none⟩ = some errT) (hC : ∀ k C, D.T k = some (.dir C) → C.length ≤ 1000) (hE : (findT D.T p).2 = 7) :
    Calls Tryz.prog 104 #[wp f, tx p, .bool true] w fun e w' => (makeE D.T s p ≠ 0 ∧ e = .returned (.tuple #[.int .i64 0, uer (makeE D.T s p)]) ∧ QSt w w' f D D.T g n b M N) ∨ (makeE D.T s p = 0 ∧ ∃ k, IsFree D.T k ∧ k < 64 ∧ e = .returned (.tuple #[.int .i64 k, .nilIface]) ∧ QSt w w' f D (makeN D.T p false k) g n b M N) := by
  have hF := h.find1 hT p hp hm
  rw [hE] at hF
  have c0 := h.cells.1
  have hTl : ∀ V, Below w.heap.size w V → Calls Tryz.prog 23 #[uev 7] V fun e w' => e = .returned (.int .i64 7) ∧ Below w.heap.size w w' := fun V hV => by
    refine (tellU _ V (cell_below hg hV)).mono ?_
    rintro e w' ⟨rfl, b1⟩
    exact ⟨rfl, hV.trans (b1.mono hV.size)⟩
  have hMk : ∀ V, Below w.heap.size w V → V.cell? ⟨f, 0, none⟩ = some (wp g.r) ∧ Calls Tryz.prog 15 #[wp g.r, tx p] V fun e w' => ∃ k c, e = .returned (.tuple #[.int .i64 k, uev c]) ∧ ((makeE D.T s p ≠ 0 ∧ k = 0 ∧ c = makeE D.T s p ∧ QSt w w' f D D.T g n b M N) ∨ (makeE D.T s p = 0 ∧ IsFree D.T k ∧ k < 64 ∧ c = 0 ∧ QSt w w' f D (makeN D.T p false k) g n b M N)) := fun V hV => by
    refine ⟨(h.below hV).cells.1, ((h.below hV).make1 (t.below hV) hT hs p hp (cell_below hm hV) hC).mono ?_⟩
    rintro e w' (⟨a, rfl, st⟩ | ⟨a, k, b1, c, rfl, st⟩)
    · exact ⟨0, makeE D.T s p, by rw [uev_ne a], .inl ⟨a, rfl, rfl, st.upon hV⟩⟩
    · exact ⟨k, 0, rfl, .inr ⟨a, b1, c, rfl, st.upon hV⟩⟩
  have HQ : Aside (∀ (w' : World) (k c : Int), ((makeE D.T s p ≠ 0 ∧ k = 0 ∧ c = makeE D.T s p ∧ QSt w w' f D D.T g n b M N) ∨ (makeE D.T s p = 0 ∧ IsFree D.T k ∧ k < 64 ∧ c = 0 ∧ QSt w w' f D (makeN D.T p false k) g n b M N)) → ((makeE D.T s p ≠ 0 ∧ Ending.returned (.tuple #[.int .i64 k, uev c]) = .returned (.tuple #[.int .i64 0, uer (makeE D.T s p)]) ∧ QSt w w' f D D.T g n b M N) ∨ (makeE D.T s p = 0 ∧ ∃ j, IsFree D.T j ∧ j < 64 ∧ Ending.returned (.tuple #[.int .i64 k, uev c]) = .returned (.tuple #[.int .i64 j, .nilIface]) ∧ QSt w w' f D (makeN D.T p false j) g n b M N))) := fun w' k c hx => by
    rcases hx with ⟨a, rfl, rfl, st⟩ | ⟨a, b1, b2, rfl, st⟩
    · exact .inl ⟨a, by rw [uev_ne a], st⟩
    · exact .inr ⟨a, k, b1, b2, rfl, st⟩
  have HM : Aside (∀ V, Below w.heap.size w V → V.cell? ⟨f, 0, none⟩ = some (wp g.r) ∧ Calls Tryz.prog 15 #[wp g.r, tx p] V fun e w' => ∃ k c, e = .returned (.tuple #[.int .i64 k, uev c]) ∧ ((makeE D.T s p ≠ 0 ∧ k = 0 ∧ c = makeE D.T s p ∧ QSt w w' f D D.T g n b M N) ∨ (makeE D.T s p = 0 ∧ IsFree D.T k ∧ k < 64 ∧ c = 0 ∧ QSt w w' f D (makeN D.T p false k) g n b M N))) := hMk
  generalize (findT D.T p).1 = k0 at *
  clear h t hT hp hm hg hE hC hs hMk
  go_enter Tryz.func104, Tryz.ntmps104
  go_upto_region 3 with (first
    | (go_at_call 20; refine hF.mono ?_; rintro y w1 ⟨rfl, b1⟩)
    | (go_at_call 23; refine (hTl _ b1).mono ?_; rintro y w2 ⟨rfl, b2⟩))
  obtain ⟨c2, hMk⟩ := HM.out _ b2
  clear hF hTl c0
  go_wp2_with (go_at_call 15; refine hMk.mono ?_; rintro y w3 ⟨k, c, rfl, hR⟩; have HR : Aside _ := hR; clear hR)
  go_ret2
  exact HQ.out _ _ _ HR.out
end
end Go.Proofs.YtjkneekfijibiabGreatDoor
