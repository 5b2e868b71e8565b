/- TreePlays: its own sameTexts and names, by their Go text. -/
import Derived.Test.YtpibokijbidgdabGreatDoorXPair2
import Derived.Deep.LoopGhost
import Derived.Deep.DeepCutAuto
import Derived.Deep.CutBlock
namespace Go.Proofs.YtpibokijbidgdabGreatDoor
open Go.RowKit Go.Maps Go.Sort

theorem row_txts {w : World} {B : Nat} {v : Value} {L : List Nm} (h : w.ownsRow B 9 1 v L.length (L.map encStr)) : Txts w v L := by
  obtain ⟨_, hh⟩ := h
  rcases hh with ⟨rfl, e⟩ | ⟨g, cap, cur, rfl, hB, hg, hc, _, hz, ht⟩
  · exact .inl ⟨List.length_eq_zero_iff.1 e, none, 0, rfl⟩
  · rw [Nat.mul_one] at hz ht
    refine .inr ⟨g, 0, cap, rfl, hc, (Array.getElem?_eq_some_iff.1 hg).1, fun j hj => ?_⟩
    rw [Nat.zero_add, cell_of_row _ _ j _ _ _ hg]
    have e1 : (L.map encStr)[j]? = some (tx L[j]) := by rw [List.getElem?_map, List.getElem?_eq_getElem hj]; rfl
    rw [← ht, List.getElem?_take_of_lt (by omega), Array.getElem?_toList] at e1
    exact e1

set_option maxRecDepth 100000 in
set_option maxHeartbeats 4000000 in
theorem sameTexts_ok {w : World} {v1 v2 : Value} {L : List Nm} (h1 : Txts w v1 L) (h2 : Txts w v2 L) (hl : L.length ≤ 100000) :
    Calls Tryz.prog 33 #[v1, v2] w fun e w' => e = .returned (.bool true) ∧ Below w.heap.size w w' := by
  have hx : ∀ {v : Value}, Txts w v L → ∃ a c, v = .slice a L.length c ∧ ∀ i (hi : i < L.length), ∃ b o, a = some ⟨b, o, none⟩ ∧ w.cell? ⟨b, o + i, none⟩ = some (tx L[i]) := fun {v} hv => by
    rcases hv with ⟨rfl, a, c, rfl⟩ | ⟨b, o, c, rfl, hc, _, hi⟩
    · exact ⟨a, c, rfl, fun i hi => by simp at hi⟩
    · exact ⟨_, c, rfl, fun i h' => ⟨b, o, rfl, hi i h'⟩⟩
  obtain ⟨a1, c1, rfl, k1⟩ := hx h1
  obtain ⟨a2, c2, rfl, k2⟩ := hx h2
  obtain ⟨N, hN⟩ : ∃ N, L.length = N := ⟨_, rfl⟩
  rw [hN]
  rw [hN] at hl
  clear h1 h2 hx
  go_enter Tryz.func33, Tryz.ntmps33
  go_wp2_with fail
  go_loopg [5] N (fun mm s5 wr => ∃ (i : Nat), i + mm = N ∧ s5 = .int .i64 (i : Int) ∧ ∃ q, wr = w.drewN q)
  case atStart => exact ⟨0, by omega, rfl, 0, rfl⟩
  case round =>
    obtain ⟨i, hi, rfl, q, hw⟩ := hrel
    subst hw
    by_cases hlt : (i : Int) < (N : Int)
    · obtain ⟨b1, o1, rfl, e1⟩ := k1 i (by omega)
      obtain ⟨b2, o2, rfl, e2⟩ := k2 i (by omega)
      generalize L[i]'(by omega) = z at *
      have e1' : ∀ q, (w.drewN q).cell? ⟨b1, o1 + i, none⟩ = some (tx z) := fun _ => e1
      have e2' : ∀ q, (w.drewN q).cell? ⟨b2, o2 + i, none⟩ = some (tx z) := fun _ => e2
      clear k1 k2
      go_wp2_with fail
      go_quiet (fail)
      go_wp2_with fail
      go_roundg (gk - 1)
      case measure => omega
      case rel => exact ⟨i + 1, by omega, by go_num, _, rfl⟩
    · go_wp2_with fail
      go_ret
      exact ⟨rfl, below_drew (Below.refl _ _) q⟩

/-- The names that List tells. -/
def LsT (T : Wd) (p : List UInt8) (L : List Nm) : Prop := (listE T p ≠ 0 ∧ L = []) ∨ (listE T p = 0 ∧ ∃ C, T (findT T p).1 = some (.dir C) ∧ L = listT C ∧ C.length ≤ 1000)
theorem LsT.one {T : Wd} {p : List UInt8} {L L' : List Nm} (h : LsT T p L) (h' : LsT T p L') : L = L' := by
  rcases h with ⟨h0, rfl⟩ | ⟨h0, C, hC, rfl, _⟩
  · rcases h' with ⟨_, rfl⟩ | ⟨h1, _⟩
    · rfl
    · exact absurd h1 h0
  · rcases h' with ⟨h1, _⟩ | ⟨_, C', hC', rfl, _⟩
    · exact absurd h0 h1
    · rw [hC] at hC'; cases hC'; rfl
theorem LsT.len {T : Wd} {p : List UInt8} {L : List Nm} (h : LsT T p L) : L.length ≤ 100000 := by
  rcases h with ⟨_, rfl⟩ | ⟨_, C, _, rfl, hl⟩
  · simp
  · rw [listT_len]; omega

section
variable {w w' : World} {j r r2 : Nat} {xs : Array Value} {T T2 T' : Wd} {A A' : Nat → Prop} {m : Int} {k : Nat}

theorem NB.pList (h : NB w j xs r r2 T T2 A m) (hT : TrLv T) (hS : Sm k T) (hk : k ≤ 900) (p : List UInt8) (hp : p.length < 100000) :
    Calls Tryz.prog 31 #[wp r, tx p] w fun e w' => ∃ v L, e = .returned (.tuple #[v, uev (listE T p)]) ∧ LsT T p L ∧ Txts w' v L ∧ Below w.heap.size w w' := by
  obtain ⟨O, gN, s, G, h1, _⟩ := h.bt.both
  by_cases hE : listE T p = 0
  · obtain ⟨hf, C, hC⟩ := listE_zero hE
    have hCl := hS.dirs hk _ C hC
    refine (h1.list_ok hT p hp m h.ml hf hC hCl).mono ?_
    rintro e w' ⟨v, rfl, ht, b⟩
    exact ⟨v, listT C, by rw [hE]; rfl, .inr ⟨hE, C, hC, rfl, hCl⟩, row_txts ht, b⟩
  · refine (h1.list_no hT p hp m h.ml hE).mono ?_
    rintro e w' ⟨rfl, b⟩
    exact ⟨.slice none 0 0, [], by rw [uev_ne hE], .inl ⟨hE, rfl⟩, .inl ⟨rfl, none, 0, rfl⟩, b⟩
theorem NB.dList (h : NB w j xs r r2 T T2 A m) (hT : TrLv T2) (hS : Sm k T2) (hk : k ≤ 900) (p : List UInt8) (hp : p.length < 100000) :
    Calls Tryz.prog 32 #[wp r2, tx p] w fun e w' => ∃ v L, e = .returned (.tuple #[v, .int .i64 (listE T2 p)]) ∧ LsT T2 p L ∧ Txts w' v L ∧ Below w.heap.size w w' := by
  obtain ⟨O, gN, s, G, _, h2, _⟩ := h.bt.both
  by_cases hE : listE T2 p = 0
  · obtain ⟨hf, C, hC⟩ := listE_zero hE
    have hCl := hS.dirs hk _ C hC
    refine (h2.list_ok hT.toTrOk p hp m h.ml hf hC hCl).mono ?_
    rintro e w' ⟨v, rfl, L, ht, hn, hm, b⟩
    have e1 := listT_one (hT.nodup _ C hC) hn hm
    refine ⟨v, listT C, by rw [hE], .inr ⟨hE, C, hC, rfl, hCl⟩, ?_, b⟩
    rw [e1] at ht
    exact row_txts ht
  · refine (h2.list_no hT.toTrOk p hp m h.ml hE).mono ?_
    rintro e w' ⟨rfl, b⟩
    exact ⟨.slice none 0 0, [], rfl, .inl ⟨hE, rfl⟩, .inl ⟨rfl, none, 0, rfl⟩, b⟩

/-- What one of names leaves. -/
def Nxt (w : World) (r r2 : Nat) (A : Nat → Prop) (m : Int) (k : Nat) (w' : World) : Prop := ∃ T' A', BT w' r r2 T' T' A' m ∧ Stp w w' A A' ∧ TrLv T' ∧ Sm k T'

theorem NB.new (h : BT w r r2 T T2 A m) (xs : Array Value) : NB (w.alloc (.cells xs 31)) w.heap.size xs r r2 T T2 A m :=
  ⟨h.below ((Below.refl _ _).alloc (Nat.le_refl _) _), World.alloc_heap_new _ _, fun ha => by have := h.lt _ ha; omega⟩

end
end Go.Proofs.YtpibokijbidgdabGreatDoor
