/- The fact that each law of the keeper's asks first: a file in a directory. -/
import Derived.Test.YtpibokijbidgdabDoorKState
namespace Go.Proofs.YtpibokijbidgdabDoor
open Go.RowKit Go.Maps

theorem setT_some (T : Wd) (n k : Int) (x : Nd) : (setT T n x k).isSome = true ↔ k = n ∨ (T k).isSome = true := by
  by_cases e : k = n
  · subst e; rw [setT_same]; simp
  · rw [setT_other _ e]; simp [e]
/-- One node more is one more. -/
theorem IsNum.make {T : Wd} {s : Nat} {p : List UInt8} {n : Int} (h : IsNum T s) (hT : TrOk T) (hE : makeE T s p = 0) (hn : IsFree T n) (dir : Bool) : IsNum (makeN T p dir n) (s + 1) := by
  obtain ⟨_, ⟨C, hd, _⟩, _⟩ := makeE_zero hT hE
  obtain ⟨ks, nd, rfl, mem⟩ := h
  have hdn : (placeT T p).1 ≠ n := fun e => by have := hn.none; rw [← e, hd] at this; cases this
  refine ⟨n :: ks, List.nodup_cons.2 ⟨fun hm => absurd ((mem n).1 hm) (by rw [hn.none]; simp), nd⟩, rfl, fun x => ?_⟩
  unfold makeN
  rw [addT_eq (show setT T n (newNd dir) (placeT T p).1 = some (.dir C) by rw [setT_other _ hdn]; exact hd), setT_some, setT_some, List.mem_cons, mem x]
  constructor
  · intro h; exact .inr h
  · rintro (e | h)
    · right; rw [e, hd]; rfl
    · exact h

def t1N : Wd := makeN nullT [47, 100] true 1
def t2N : Wd := makeN t1N [47, 100, 47, 102] false 2
theorem null_num : IsNum nullT 1 := ⟨[0], by simp, rfl, fun x => by
  unfold nullT
  by_cases e : x = 0
  · simp [e]
  · simp [e]⟩
theorem null_free : IsFree nullT 1 := ⟨by omega, rfl, fun j h0 h1 => by
  obtain rfl : j = 0 := by omega
  rfl⟩
theorem named_e1 : makeE nullT 1 [47, 100] = 0 := by decide
theorem named_f2 : IsFree t1N 2 := ⟨by omega, by decide, fun j h0 h1 => by
  rcases (show j = 0 ∨ j = 1 by omega) with rfl | rfl <;> decide⟩
theorem named_e2 : makeE t1N 2 [47, 100, 47, 102] = 0 := by decide
theorem named_find : findT t2N [47, 100] = (1, 0) := by decide
theorem named_list : listT [([102], 2)] = [[102]] := by unfold listT inOrder; simp
theorem named_dir : t2N 1 = some (.dir [([102], 2)]) := rfl
theorem named_n1 : IsNum t1N 2 := null_num.make nullT_lv.toTrOk named_e1 null_free true
theorem named_lv1 : TrLv t1N := nullT_lv.make named_e1 null_free (by omega) true
theorem named_n2 : IsNum t2N 3 := named_n1.make named_lv1.toTrOk named_e2 named_f2 false

section
variable {w wr w' : World} {m : Int} {r k : Nat} {T T' : Wd}
theorem KT.list (h : KT w m r k T wr) (hk : k ≤ 900) (p : List UInt8) (hp : p.length < 100000) {C : List (Nm × Int)} (hE : (findT T p).2 = 0) (hn : T (findT T p).1 = some (.dir C)) :
    Calls Tryd.prog 37 #[wp r, tx p] wr fun e w' => ∃ v, e = .returned (.tuple #[v, .nilIface]) ∧ TxR w' wr.heap.size v (listT C) ∧ KT w m r k T w' := by
  obtain ⟨O, h1, hO⟩ := h.st
  refine (h1.list_ok h.lv p hp m h.mlr hE hn (by have := h.sm.1 _ C hn; omega)).mono ?_
  rintro e w' ⟨v, rfl, ht, hb⟩
  exact ⟨v, rfl, ht, h.below hb⟩
/-- Made, where it can be made. -/
theorem KT.mkdir_yes (h : KT w m r k T wr) (hk : k ≤ 900) {s : Nat} (hs : IsNum T s) (p : List UInt8) (hp : p.length < 100000) {n : Int} (hE : makeE T s p = 0) (hn : IsFree T n) :
    Calls Tryd.prog 67 #[wp r, tx p] wr fun e w' => e = .returned (.tuple #[.int .i64 n, .nilIface]) ∧ KT w m r (k + 1) (makeN T p true n) w' := by
  refine (h.mkdir hk hs p hp).mono ?_
  rintro e w' (⟨a, _⟩ | ⟨_, n', b, c, rfl, k'⟩)
  · exact absurd hE a
  · obtain rfl := b.same hn
    exact ⟨rfl, k'⟩
theorem KT.create_yes (h : KT w m r k T wr) (hk : k ≤ 900) {s : Nat} (hs : IsNum T s) (p : List UInt8) (hp : p.length < 100000) {n : Int} (hE : makeE T s p = 0) (hn : IsFree T n) :
    Calls Tryd.prog 40 #[wp r, tx p] wr fun e w' => e = .returned (.tuple #[.int .i64 n, .nilIface]) ∧ KT w m r (k + 1) (makeN T p false n) w' := by
  refine (h.create hk hs p hp).mono ?_
  rintro e w' (⟨a, _⟩ | ⟨_, n', b, c, rfl, k'⟩)
  · exact absurd hE a
  · obtain rfl := b.same hn
    exact ⟨rfl, k'⟩
end

/-- One text in an array. -/
theorem one_text {w : World} {B : Nat} {v : Value} {x : Nm} (h : TxR w B v [x]) : ∃ g c, v = .slice (some ⟨g, 0, none⟩) 1 c ∧ w.cell? ⟨g, 0, none⟩ = some (tx x) := by
  obtain ⟨_, hh⟩ := h
  rcases hh with ⟨rfl, e⟩ | ⟨g, cap, cur, rfl, hB, hg, hc, _, hz, ht⟩
  · cases e
  · refine ⟨g, cap, rfl, ?_⟩
    rw [cell_of_row _ _ 0 _ _ _ hg]
    have e1 : ([x].map encStr)[0]? = some (tx x) := rfl
    rw [← ht, List.getElem?_take_of_lt (by simp), Array.getElem?_toList] at e1
    exact e1

theorem ktree_ne (b : Nat) (w : World) : (binOp BinOp.eql 72 (wp b) (.pointer none)).run Tryd.prog w = .ok (.bool false) w := by kernel_rfl

set_option maxRecDepth 100000 in
set_option maxHeartbeats 2000000 in
theorem named_ok (w : World) (m : Int) (hm : w.cell? ⟨1, 0, none⟩ = some (.int .i64 m)) :
    Calls Tryd.prog 30 #[] w fun e w' => e = .returned (.bool true) ∧ Below w.heap.size w w' := by
  have hN := KT.first w m hm
  have hne := ktree_ne
  have h1 := fun r W (h : KT w m r 0 nullT W) => h.mkdir_yes (by omega) null_num [47, 100] (by simp) named_e1 null_free
  have h2 := fun r W (h : KT w m r (0 + 1) t1N W) => h.create_yes (by omega) named_n1 [47, 100, 47, 102] (by simp) named_e2 named_f2
  have h3 := fun r W (h : KT w m r (0 + 1 + 1) t2N W) => h.list (by omega) [47, 100] (by simp) (C := [([102], 2)]) (by rw [named_find]) (by rw [named_find]; exact named_dir)
  have h4 := fun r W (h : KT w m r (0 + 1 + 1) t2N W) => h.nodes named_n2
  go_enter Tryd.func30, Tryd.ntmps30
  go_wp2_with (first
    | (go_at_call 31; refine hN.mono ?_; rintro e w1 ⟨r, rfl, k1⟩)
    | (go_at_call 67; refine (h1 _ _ k1).mono ?_; rintro e w2 ⟨rfl, k2⟩)
    | (go_at_call 40; refine (h2 _ _ k2).mono ?_; rintro e w3 ⟨rfl, k3⟩)
    | (go_at_call 37; refine (h3 _ _ k3).mono ?_; rintro e w4 ⟨v, rfl, ht, k4⟩; rw [named_list] at ht; obtain ⟨g, c, rfl, hc⟩ := one_text (x := [102]) ht)
    | (go_at_call 38; refine (h4 _ _ k4).mono ?_; rintro e w5 ⟨rfl, rfl⟩))
  go_ret
  exact ⟨rfl, k4.bel⟩
end Go.Proofs.YtpibokijbidgdabDoor
