/- One tree of the program's, call for call: Find, Link, Unlink. -/
import Derived.Test.YtpibokijbidgdabDoorKOne
namespace Go.Proofs.YtpibokijbidgdabDoor
open Go.RowKit Go.Maps

section
variable {w wr w' : World} {m : Int} {r k : Nat} {T T' : Wd}
theorem KT.find (h : KT w m r k T wr) (p : List UInt8) (hp : p.length < 100000) :
    Calls Tryd.prog 44 #[wp r, tx p] wr fun e w' => e = .returned (.tuple #[.int .i64 (findT T p).1, uev (findT T p).2]) ∧ KT w m r k T w' := by
  obtain ⟨O, ⟨gN, s, B, G, V, h1⟩, _⟩ := h.st
  refine (h1.find_ok h.lv.toTrOk (h1.num.pos h.lv.toTrOk) p hp m h.mlr).mono ?_
  rintro e w' ⟨rfl, hb⟩
  exact ⟨rfl, h.below hb⟩
theorem KT.link (h : KT w m r k T wr) (hk : k ≤ 900) (p q : List UInt8) (hp : p.length < 100000) (hq : q.length < 100000) :
    Calls Tryd.prog 43 #[wp r, tx p, tx q] wr fun e w' => e = .returned (uev (linkE T p q)) ∧ KT w m r (k + 1) (linkN T p q) w' := by
  obtain ⟨O, h1, hO⟩ := h.st
  refine (h1.link_ok h.lv p q hp hq m h.mlr (fun i C e => by have := h.sm.1 i C e; omega)).mono ?_
  rintro e w' ⟨rfl, p', st⟩
  exact ⟨rfl, h.step hO p' st (h.lv.link p q) (h.sm.link p q)⟩
theorem KT.unlink (h : KT w m r k T wr) (hk : k ≤ 900) (p : List UInt8) (hp : p.length < 100000) :
    Calls Tryd.prog 45 #[wp r, tx p] wr fun e w' => e = .returned (uev (unlinkE T p)) ∧ KT w m r (k + 1) (unlinkN T p) w' := by
  obtain ⟨O, h1, hO⟩ := h.st
  refine (h1.unlink_ok h.lv p hp m h.mlr (fun i C e => by have := h.sm.1 i C e; omega)).mono ?_
  rintro e w' ⟨rfl, p', st⟩
  exact ⟨rfl, h.step hO p' st (h.lv.unlink p) (h.sm.unlink p)⟩
theorem KT.base (h : KT w' m r k T wr) (hb : Below w.heap.size w w') (hm : w.cell? ⟨1, 0, none⟩ = some (.int .i64 m)) : KT w m r k T wr := by
  obtain ⟨O, h1, h2⟩ := h.st
  exact ⟨⟨O, h1, fun i hi => Nat.le_trans hb.size (h2 i hi)⟩, h.lv, h.sm, hb.trans (h.bel.mono hb.size), hm⟩
end

section
variable {w wr : World} {m : Int} {r k : Nat} {C : List (Nm × Int)} {b : List UInt8} {x : Nat} {p q : List UInt8} {nm : Nm}
/-- A file made in an empty tree. -/
theorem KT.make_first (h : KT w m r 0 nullT wr) (p : List UInt8) (hp : p.length < 100000) :
    Calls Tryd.prog 40 #[wp r, tx p] wr fun e w' => (∃ z, z ≠ 0 ∧ e = .returned (.tuple #[.int .i64 0, uer z]) ∧ KT w m r 1 nullT w') ∨ ∃ nm, namesOf p = some [nm] ∧ e = .returned (.tuple #[.int .i64 1, .nilIface]) ∧ KT w m r 1 (tC [(nm, 1)] [] 0) w' := by
  refine (h.create (by omega) null_num p hp).mono ?_
  rintro e w' (⟨a, rfl, k'⟩ | ⟨a, n, b, c, rfl, k'⟩)
  · exact .inl ⟨_, a, rfl, k'⟩
  · obtain rfl := b.same null_free
    obtain ⟨nm, hn, _, hN⟩ := make_null a
    rw [hN] at k'
    exact .inr ⟨nm, hn, rfl, k'⟩
theorem KT.hold1 (h : KT w m r k (tC C b x) wr) (hk : k ≤ 900) :
    Calls Tryd.prog 41 #[wp r, .int .i64 1] wr fun e w' => e = .returned .nilIface ∧ KT w m r (k + 1) (tC C b (x + 1)) w' := by
  refine (h.hold hk 1 (wf_few (by omega) (by omega))).mono ?_
  rintro e w' ⟨rfl, k'⟩
  rw [hold_one.1]
  rw [hold_one.2] at k'
  exact ⟨rfl, k'⟩
theorem KT.unlink_held (h : KT w m r k (tC C b x) wr) (hk : k ≤ 900) (hx : x ≠ 0) (hn : namesOf p = some [nm]) (hl : C.lookup nm = some 1) (hp : p.length < 100000) :
    Calls Tryd.prog 45 #[wp r, tx p] wr fun e w' => e = .returned .nilIface ∧ KT w m r (k + 1) (tC (C.filter (fun y => y.1 != nm)) b x) w' := by
  obtain ⟨e1, e2⟩ := unlink_one (C := C) (b := b) (x := x) hn hl
  refine (h.unlink hk p hp).mono ?_
  rintro e w' ⟨rfl, k'⟩
  rw [e1]
  rw [e2, sweep_held hx] at k'
  exact ⟨rfl, k'⟩
theorem KT.nodes2 (h : KT w m r k (tC C b x) wr) : Calls Tryd.prog 38 #[wp r] wr fun e w' => e = .returned (.int .i64 2) ∧ w' = wr := h.nodes tC_num
theorem KT.nodes1 (h : KT w m r k nullT wr) : Calls Tryd.prog 38 #[wp r] wr fun e w' => e = .returned (.int .i64 1) ∧ w' = wr := h.nodes null_num
end

section
variable {w wr : World} {m : Int} {r k : Nat} {C : List (Nm × Int)} {b p q : List UInt8} {x : Nat} {nm : Nm}
theorem KT.make_no (h : KT w m r 0 nullT wr) (hp : p.length < 100000) (hE : makeE nullT 1 p ≠ 0) :
    Calls Tryd.prog 40 #[wp r, tx p] wr fun e w' => e = .returned (.tuple #[.int .i64 0, uer (makeE nullT 1 p)]) ∧ KT w m r 1 nullT w' := by
  refine (h.create (by omega) null_num p hp).mono ?_
  rintro e w' (⟨a, rfl, k'⟩ | ⟨a, _⟩)
  · exact ⟨rfl, k'⟩
  · exact absurd a hE
theorem KT.make_one (h : KT w m r 0 nullT wr) (hp : p.length < 100000) (hE : makeE nullT 1 p = 0) (hN : makeN nullT p false 1 = tC [(nm, 1)] [] 0) :
    Calls Tryd.prog 40 #[wp r, tx p] wr fun e w' => e = .returned (.tuple #[.int .i64 1, .nilIface]) ∧ KT w m r 1 (tC [(nm, 1)] [] 0) w' := by
  refine (h.create_yes (by omega) null_num p hp hE null_free).mono ?_
  rintro e w' ⟨rfl, k'⟩
  rw [hN] at k'
  exact ⟨rfl, k'⟩
theorem KT.link_did (h : KT w m r k (tC C b x) wr) (hk : k ≤ 900) (hp : p.length < 100000) (hq : q.length < 100000) (hE : linkE (tC C b x) p q = 0) {D : List (Nm × Int)} (hN : linkN (tC C b x) p q = tC D b x) :
    Calls Tryd.prog 43 #[wp r, tx p, tx q] wr fun e w' => e = .returned .nilIface ∧ KT w m r (k + 1) (tC D b x) w' := by
  refine (h.link hk p q hp hq).mono ?_
  rintro e w' ⟨rfl, k'⟩
  rw [hE]
  rw [hN] at k'
  exact ⟨rfl, k'⟩
theorem KT.link_not (h : KT w m r k (tC C b x) wr) (hk : k ≤ 900) (hp : p.length < 100000) (hq : q.length < 100000) (hE : linkE (tC C b x) p q ≠ 0) :
    Calls Tryd.prog 43 #[wp r, tx p, tx q] wr fun e w' => ∃ z, e = .returned (uer z) ∧ KT w m r (k + 1) (tC C b x) w' := by
  refine (h.link hk p q hp hq).mono ?_
  rintro e w' ⟨rfl, k'⟩
  rw [uev_ne hE]
  rw [show linkN (tC C b x) p q = tC C b x by unfold linkN; rw [if_pos hE]] at k'
  exact ⟨_, rfl, k'⟩
theorem KT.find_at (h : KT w m r k (tC C b x) wr) (hp : p.length < 100000) (hn : namesOf p = some [nm]) (hl : C.lookup nm = some 1) :
    Calls Tryd.prog 44 #[wp r, tx p] wr fun e w' => e = .returned (.tuple #[.int .i64 1, .nilIface]) ∧ KT w m r k (tC C b x) w' := by
  refine (h.find p hp).mono ?_
  rintro e w' ⟨rfl, k'⟩
  rw [root_find (T := tC C b x) tC_0 hn hl]
  exact ⟨rfl, k'⟩
theorem KT.find_any (h : KT w m r k (tC C b x) wr) (hp : p.length < 100000) :
    Calls Tryd.prog 44 #[wp r, tx p] wr fun e w' => ∃ y v, e = .returned (.tuple #[.int .i64 y, v]) ∧ KT w m r k (tC C b x) w' := by
  refine (h.find p hp).mono ?_
  rintro e w' ⟨rfl, k'⟩
  exact ⟨_, _, rfl, k'⟩
theorem KT.find_gone (h : KT w m r k (tC [] b x) wr) (hp : p.length < 100000) (hn : namesOf p = some [nm]) :
    Calls Tryd.prog 44 #[wp r, tx p] wr fun e w' => e = .returned (.tuple #[.int .i64 0, uer 7]) ∧ KT w m r k (tC [] b x) w' := by
  refine (h.find p hp).mono ?_
  rintro e w' ⟨rfl, k'⟩
  rw [root_miss (T := tC [] b x) tC_0 hn rfl]
  exact ⟨rfl, k'⟩
theorem KT.read_c (h : KT w m r k (tC C b x) wr) (i c : Nat) :
    Calls Tryd.prog 46 #[wp r, .int .i64 1, .int .i64 (i : Int), .int .i64 (c : Int)] wr fun e w' => e = .returned (.tuple #[tx ((b.drop i).take c), .nilIface]) ∧ KT w m r k (tC C b x) w' := by
  have hf : fileT (tC C b x) 1 = 0 := rfl
  have e1 : readE (tC C b x) 1 i c = 0 := by unfold readE; rw [if_neg (fun e => e hf), if_neg (by omega)]
  have e2 : readS (tC C b x) 1 i c = (b.drop i).take c := by
    unfold readS
    rw [tC_1]
    simp only
    rw [if_neg (by omega), Int.toNat_natCast, Int.toNat_natCast]
  refine (h.read 1 i c (wf_few (by omega) (by omega))).mono ?_
  rintro e w' ⟨rfl, k'⟩
  exact ⟨by rw [e1, e2]; rfl, k'⟩
end
end Go.Proofs.YtpibokijbidgdabDoor
