/- One tree of the program's: where a path leads, and which names there are. -/
import Derived.Test.YtpibokijbidgdabDoorYText
import Derived.Test.YtpibokijbidgdabDoorYEq
import Derived.Test.YtpibokijbidgdabDoorKCutT
import Derived.Test.YtpibokijbidgdabDoorKNamed
namespace Go.Proofs.YtpibokijbidgdabDoor
open Go.RowKit Go.Maps Go.Shelf

section
variable {w wr w' : World} {m : Int} {r k : Nat} {T : Wd} {l : List Nm} {n : Int} {p : List UInt8} {C : List (Nm × Int)}
theorem KT.find1 (h : KT w m r k T wr) (hn : namesOf p = some l) (hw : Way T 0 l n) (hp : p.length < 100000) :
    Calls Tryd.prog 44 #[wp r, tx p] wr fun e w' => e = .returned (.tuple #[.int .i64 n, .nilIface]) ∧ Below wr.heap.size wr w' := by
  obtain ⟨O, ⟨gN, s, B, G, V, h1⟩, _⟩ := h.st
  refine (h1.find_ok h.lv.toTrOk (h1.num.pos h.lv.toTrOk) p hp m h.mlr).mono ?_
  rintro e w' ⟨rfl, hb⟩
  rw [way_find hn hw]
  exact ⟨rfl, hb⟩
theorem KT.listDir (h : KT w m r k T wr) (hk : k ≤ 900) (hn : namesOf p = some l) (hw : Way T 0 l n) (hd : T n = some (.dir C)) (hp : p.length < 100000) :
    Calls Tryd.prog 37 #[wp r, tx p] wr fun e w' => ∃ v, e = .returned (.tuple #[v, .nilIface]) ∧ TxR w' wr.heap.size v (listT C) ∧ Below wr.heap.size wr w' := by
  obtain ⟨O, h1, hO⟩ := h.st
  have e := way_find hn hw
  exact h1.list_ok h.lv p hp m h.mlr (by rw [e]) (by rw [e]; exact hd) (by have := h.sm.1 _ C hd; omega)
theorem KT.listFile (h : KT w m r k T wr) (hn : namesOf p = some l) (hw : Way T 0 l n) (hd : ∀ C, T n ≠ some (.dir C)) (hp : p.length < 100000) :
    Calls Tryd.prog 37 #[wp r, tx p] wr fun e w' => e = .returned (.tuple #[.slice none 0 0, uer 6]) ∧ Below wr.heap.size wr w' := by
  obtain ⟨O, h1, hO⟩ := h.st
  have e := way_find hn hw
  have hE : listE T p = 6 := by
    unfold listE
    rw [e]
    simp only
    rw [if_neg (by simp), if_neg]
    unfold isDirT
    split
    · rename_i C e2; exact absurd e2 (hd C)
    · simp
  have := h1.list_no h.lv p hp m h.mlr (by rw [hE]; decide)
  rw [hE] at this
  exact this
end

/-- A list that grows, and one that is read, beside each other; nothing elder turned. -/
structure OutS (w0 wx : World) (v lv : Value) (L M : List Nm) : Prop where
  bel : Below w0.heap.size w0 wx
  out : TxR wx w0.heap.size v L
  lst : TxR wx w0.heap.size lv M
  ap : ∀ i, lv.ownBlock = some i → v.ownBlock ≠ some i
section
variable {w0 wx w2 w' : World} {v v' lv : Value} {L L2 M : List Nm}
theorem OutS.below (h : OutS w0 wx v lv L M) (hb : Below wx.heap.size wx w') : OutS w0 w' v lv L M :=
  ⟨h.bel.trans (hb.mono h.bel.size), h.out.below hb, h.lst.below hb, h.ap⟩
theorem OutS.grow (h : OutS w0 wx v lv L M) (ho : w'.ownsRow w0.heap.size 9 1 v' (L.length + L2.length) (L.map encStr ++ L2.map encStr)) (hg : wx.grownBy w' v.ownBlock) (hv : v'.ownBlock = v.ownBlock ∨ v'.ownBlock = some wx.heap.size) : OutS w0 w' v' lv (L ++ L2) M := by
  refine ⟨⟨hg.os.trans h.bel.os, hg.tape.trans h.bel.tape, hg.output.trans h.bel.output, Nat.le_trans h.bel.size hg.size, fun i hi => (hg.block i (Nat.lt_of_lt_of_le hi h.bel.size) (fun e => ?_)).trans (h.bel.block i hi)⟩, ?_, h.lst.keep (fun i hi => hg.block i (h.lst.lt hi) (fun e => h.ap i hi e.symm)), fun i hi e => ?_⟩
  · have := h.out.base e.symm
    omega
  · unfold TxR
    rw [List.length_append, List.map_append]
    exact ho
  · rcases hv with e1 | e1
    · rw [e1] at e; exact h.ap i hi e
    · rw [e1] at e; cases e
      have := h.lst.lt hi
      omega
/-- What is appended lies ready. -/
structure SubS (w0 w6 : World) (v lv : Value) (L L2 M : List Nm) (A A2 : List Value) (LL ML g2 : Nat) : Prop where
  own : ∀ V, Below w6.heap.size w6 V → V.ownsRow w0.heap.size 9 1 v LL A
  cell : ∀ V, Below w6.heap.size w6 V → ∀ j u, A2[j]? = some u → V.cell? ((⟨g2, 0, none⟩ : Addr).add j) = some u
  base : ∀ V, Below w6.heap.size w6 V → w0.heap.size ≤ V.heap.size
  fin : ∀ V w' v', Below w6.heap.size w6 V → w'.ownsRow w0.heap.size 9 1 v' (LL + ML) (A ++ A2) → V.grownBy w' v.ownBlock → (v'.ownBlock = v.ownBlock ∨ v'.ownBlock = some V.heap.size) → OutS w0 w' v' lv (L ++ L2) M
theorem OutS.sub {w6 : World} {g2 c2 : Nat} (h : OutS w0 w6 v lv L M) {B : Nat} (t : TxR w6 B (.slice (some ⟨g2, 0, none⟩) L2.length c2) L2) (h0 : L2 ≠ []) : SubS w0 w6 v lv L L2 M (L.map encStr) (L2.map encStr) L.length L2.length g2 := by
  refine ⟨fun V hV => (h.below hV).out, fun V hV j u hu => ?_, fun V hV => Nat.le_trans h.bel.size hV.size, fun V w' v' hV ho hg hv => (h.below hV).grow ho hg hv⟩
  obtain ⟨g', c', e, _, hc⟩ := (t.below hV).at.resolve_left h0
  cases e
  rw [List.getElem?_map] at hu
  by_cases hj : j < L2.length
  · rw [List.getElem?_eq_getElem hj] at hu
    rw [Addr.add_lit, Nat.zero_add, hc j hj]
    exact hu
  · rw [List.getElem?_eq_none (by omega)] at hu; cases hu
end
end Go.Proofs.YtpibokijbidgdabDoor
