/- One tree of the program's, call for call: the state that a law of the keeper's goes through. -/
import Derived.Test.YtpibokijbidgdabDoorXSm
namespace Go.Proofs.YtpibokijbidgdabDoor
open Go.RowKit Go.Maps

/-- The tree T lies at r; all that is its is newer than w. -/
structure KT (w : World) (m : Int) (r : Nat) (k : Nat) (T : Wd) (wr : World) : Prop where
  st : ∃ O, PT wr r T O ∧ ∀ i, O i → w.heap.size ≤ i
  lv : TrLv T
  sm : Sm k T
  bel : Below w.heap.size w wr
  ml : w.cell? ⟨1, 0, none⟩ = some (.int .i64 m)

section
variable {w wr w' : World} {m : Int} {r k : Nat} {T T' : Wd}

theorem KT.mlr (h : KT w m r k T wr) : wr.cell? ⟨1, 0, none⟩ = some (.int .i64 m) := by
  rw [h.bel.cell (p := ⟨1, 0, none⟩) (World.block_lt_of_cell? w _ h.ml)]; exact h.ml
theorem KT.below (h : KT w m r k T wr) (hb : Below wr.heap.size wr w') : KT w m r k T w' := by
  obtain ⟨O, h1, h2⟩ := h.st
  exact ⟨⟨O, h1.below hb, h2⟩, h.lv, h.sm, h.bel.trans (hb.mono h.bel.size), h.ml⟩
theorem KT.more (h : KT w m r k T wr) {k' : Nat} (hk : k ≤ k') : KT w m r k' T wr := ⟨h.st, h.lv, h.sm.more hk, h.bel, h.ml⟩
theorem KT.drew (h : KT w m r k T wr) (q : Nat) : KT w m r k T (wr.drewN q) := h.below ⟨rfl, rfl, rfl, Nat.le_refl _, fun _ _ => rfl⟩
/-- A step of the tree's. -/
theorem KT.step (h : KT w m r k T wr) {O O' : Nat → Prop} (hO : ∀ i, O i → w.heap.size ≤ i) {k' : Nat} (p : PT w' r T' O') (st : Stp wr w' O O') (lv : TrLv T') (sm : Sm k' T') : KT w m r k' T' w' := by
  refine ⟨⟨O', p, fun i hi => ?_⟩, lv, sm, ⟨st.wt.os.trans h.bel.os, st.wt.tape.trans h.bel.tape, st.wt.output.trans h.bel.output, Nat.le_trans h.bel.size st.wt.size, fun i hi => (st.wt.block i (Nat.lt_of_lt_of_le hi h.bel.size) (fun ha => by have := hO i ha; omega)).trans (h.bel.block i hi)⟩, h.ml⟩
  rcases st.own i hi with e | e
  · exact hO i e
  · exact Nat.le_trans h.bel.size e
theorem KT.num (h : KT w m r k T wr) : ∃ s, IsNum T s := by
  obtain ⟨O, h1, _⟩ := h.st
  exact h1.num
theorem KT.nodes (h : KT w m r k T wr) {s : Nat} (hs : IsNum T s) : Calls Tryd.prog 38 #[wp r] wr fun e w' => e = .returned (.int .i64 (s : Int)) ∧ w' = wr := by
  obtain ⟨O, h1, _⟩ := h.st
  exact h1.nodes_ok hs
theorem KT.create (h : KT w m r k T wr) (hk : k ≤ 900) {s : Nat} (hs : IsNum T s) (p : List UInt8) (hp : p.length < 100000) :
    Calls Tryd.prog 40 #[wp r, tx p] wr fun e w' => (makeE T s p ≠ 0 ∧ e = .returned (.tuple #[.int .i64 0, uer (makeE T s p)]) ∧ KT w m r (k + 1) T w') ∨ (makeE T s p = 0 ∧ ∃ n, IsFree T n ∧ n < 64 ∧ e = .returned (.tuple #[.int .i64 n, .nilIface]) ∧ KT w m r (k + 1) (makeN T p false n) w') := by
  obtain ⟨O, h1, hO⟩ := h.st
  refine (h1.create_ok h.lv hs p hp m h.mlr (fun i C e => by have := h.sm.1 i C e; omega)).mono ?_
  rintro e w' (⟨a, rfl, p', st⟩ | ⟨a, n, O', b, c, rfl, p', st⟩)
  · exact .inl ⟨a, rfl, h.step hO p' st h.lv (h.sm.more (by omega))⟩
  · exact .inr ⟨a, n, b, c, rfl, h.step hO p' st (h.lv.make a b c false) (h.sm.make p false n)⟩
theorem KT.mkdir (h : KT w m r k T wr) (hk : k ≤ 900) {s : Nat} (hs : IsNum T s) (p : List UInt8) (hp : p.length < 100000) :
    Calls Tryd.prog 67 #[wp r, tx p] wr fun e w' => (makeE T s p ≠ 0 ∧ e = .returned (.tuple #[.int .i64 0, uer (makeE T s p)]) ∧ KT w m r (k + 1) T w') ∨ (makeE T s p = 0 ∧ ∃ n, IsFree T n ∧ n < 64 ∧ e = .returned (.tuple #[.int .i64 n, .nilIface]) ∧ KT w m r (k + 1) (makeN T p true n) w') := by
  obtain ⟨O, h1, hO⟩ := h.st
  refine (h1.mkdir_ok h.lv hs p hp m h.mlr (fun i C e => by have := h.sm.1 i C e; omega)).mono ?_
  rintro e w' (⟨a, rfl, p', st⟩ | ⟨a, n, O', b, c, rfl, p', st⟩)
  · exact .inl ⟨a, rfl, h.step hO p' st h.lv (h.sm.more (by omega))⟩
  · exact .inr ⟨a, n, b, c, rfl, h.step hO p' st (h.lv.make a b c true) (h.sm.make p true n)⟩
theorem KT.write (h : KT w m r k T wr) (n a : Int) (x : List UInt8) (hw : (Lit.int .i64 n).wf = true) (hx : x.length < 100000) :
    Calls Tryd.prog 42 #[wp r, .int .i64 n, .int .i64 a, tx x] wr fun e w' => e = .returned (uev (writeE T n a x)) ∧ KT w m r (k + 1) (writeN T n a x) w' := by
  obtain ⟨O, h1, hO⟩ := h.st
  refine (h1.write_ok h.lv n a x hw hx).mono ?_
  rintro e w' ⟨rfl, O', p', st⟩
  exact ⟨rfl, h.step hO p' st (h.lv.write n a x) (h.sm.write n a x)⟩
theorem KT.read (h : KT w m r k T wr) (n a c : Int) (hw : (Lit.int .i64 n).wf = true) :
    Calls Tryd.prog 46 #[wp r, .int .i64 n, .int .i64 a, .int .i64 c] wr fun e w' => e = .returned (.tuple #[tx (readS T n a c), uev (readE T n a c)]) ∧ KT w m r k T w' := by
  obtain ⟨O, h1, hO⟩ := h.st
  refine (h1.read_ok n a c hw).mono ?_
  rintro e w' ⟨rfl, q, rfl⟩
  exact ⟨rfl, h.drew q⟩
theorem KT.hold (h : KT w m r k T wr) (hk : k ≤ 900) (n : Int) (hw : (Lit.int .i64 n).wf = true) :
    Calls Tryd.prog 41 #[wp r, .int .i64 n] wr fun e w' => e = .returned (uev (holdE T n 1)) ∧ KT w m r (k + 1) (holdN T n 1) w' := by
  obtain ⟨O, h1, hO⟩ := h.st
  have hx : ∀ b x, T n = some (.file b x) → x + 1 ≤ 1000 := fun b x e => by have := (h.sm.2 n b x e).1; omega
  refine (h1.hold_ok h.lv n hw hx).mono ?_
  rintro e w' ⟨rfl, p', st⟩
  exact ⟨rfl, h.step hO p' st (h.lv.hold n (.inl rfl) hx) (h.sm.hold n 1 (by omega))⟩
theorem KT.drop (h : KT w m r k T wr) (hk : k ≤ 900) (n : Int) (hw : (Lit.int .i64 n).wf = true) :
    Calls Tryd.prog 48 #[wp r, .int .i64 n] wr fun e w' => e = .returned (uev (holdE T n (-1))) ∧ KT w m r (k + 1) (holdN T n (-1)) w' := by
  obtain ⟨O, h1, hO⟩ := h.st
  have hx : ∀ b x, T n = some (.file b x) → x + 1 ≤ 1000 := fun b x e => by have := (h.sm.2 n b x e).1; omega
  refine (h1.drop_ok h.lv n hw).mono ?_
  rintro e w' ⟨rfl, p', st⟩
  exact ⟨rfl, h.step hO p' st (h.lv.hold n (.inr rfl) hx) (h.sm.hold n (-1) (by omega))⟩
end

theorem KT.first (w : World) (m : Int) (hm : w.cell? ⟨1, 0, none⟩ = some (.int .i64 m)) :
    Calls Tryd.prog 31 #[] w fun e w' => ∃ r, e = .returned (wp r) ∧ KT w m r 0 nullT w' := by
  refine (new_ok w).mono ?_
  rintro e w1 ⟨r, O, rfl, p1, b1, hO⟩
  refine ⟨r, rfl, ⟨O, p1, hO⟩, nullT_lv, ⟨fun i C e => ?_, fun i b x e => ?_⟩, b1, hm⟩
  · obtain ⟨_, e9⟩ := nullT_node e; cases e9; simp
  · obtain ⟨_, e9⟩ := nullT_node e; cases e9
end Go.Proofs.YtpibokijbidgdabDoor
