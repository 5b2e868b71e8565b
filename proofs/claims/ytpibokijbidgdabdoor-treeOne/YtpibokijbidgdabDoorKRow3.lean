/- One tree of the program's and a list of texts of the caller's beside it. -/
import Derived.Test.YtpibokijbidgdabDoorKLinks
import Derived.Maps.AppendAt
namespace Go.Proofs.YtpibokijbidgdabDoor
open Go.RowKit Go.Maps

/-- The tree T at r, the list L in v: apart from each other, newer than w. -/
structure KR (w : World) (m : Int) (r k : Nat) (T : Wd) (v : Value) (L : List Nm) (wr : World) : Prop where
  st : ∃ O, PT wr r T O ∧ (∀ i, O i → w.heap.size ≤ i) ∧ ∀ i, v.ownBlock = some i → ¬ O i
  row : TxR wr w.heap.size v L
  lv : TrLv T
  sm : Sm k T
  bel : Below w.heap.size w wr
  ml : w.cell? ⟨1, 0, none⟩ = some (.int .i64 m)

section
variable {w wr w' : World} {m : Int} {r k : Nat} {T T' : Wd} {v : Value} {L : List Nm}
theorem KR.kt (h : KR w m r k T v L wr) : KT w m r k T wr := by
  obtain ⟨O, h1, h2, _⟩ := h.st
  exact ⟨⟨O, h1, h2⟩, h.lv, h.sm, h.bel, h.ml⟩
theorem KT.kr (h : KT w m r k T wr) : KR w m r k T (.slice none 0 0) [] wr := by
  obtain ⟨O, h1, h2⟩ := h.st
  exact ⟨⟨O, h1, h2, fun i e => by cases e⟩, World.ownsRow_nil _ _ _ _, h.lv, h.sm, h.bel, h.ml⟩
/-- A list's block stays, so does the list. -/
theorem TxR.keep {B : Nat} (h : TxR wr B v L) (hk : ∀ i, v.ownBlock = some i → w'.heap[i]? = wr.heap[i]?) : TxR w' B v L := by
  unfold TxR at *
  obtain ⟨hz, hh⟩ := h
  rcases hh with ⟨e1, e2⟩ | ⟨g, cap, cur, e1, hB, hg, rest⟩
  · exact ⟨hz, .inl ⟨e1, e2⟩⟩
  · refine ⟨hz, .inr ⟨g, cap, cur, e1, hB, ?_, rest⟩⟩
    rw [hk g (by rw [e1]; rfl)]
    exact hg
theorem TxR.lt {B : Nat} (h : TxR wr B v L) {i : Nat} (hi : v.ownBlock = some i) : i < wr.heap.size := by
  unfold TxR at h
  obtain ⟨_, hh⟩ := h
  rcases hh with ⟨e1, e2⟩ | ⟨g, cap, cur, e1, hB, hg, rest⟩
  · rw [e1] at hi; cases hi
  · rw [e1] at hi; cases hi; exact (Array.getElem?_eq_some_iff.1 hg).1
theorem KR.below (h : KR w m r k T v L wr) (hb : Below wr.heap.size wr w') : KR w m r k T v L w' := by
  obtain ⟨O, h1, h2, h3⟩ := h.st
  exact ⟨⟨O, h1.below hb, h2, h3⟩, h.row.keep (fun i hi => hb.block i (h.row.lt hi)), h.lv, h.sm, h.bel.trans (hb.mono h.bel.size), h.ml⟩
/-- A call of the tree's: the list stays. -/
theorem KR.call (h : KR w m r k T v L wr) {f : FuncId} {args : Array Value} {k' : Nat} {Q : Ending → Wd → Prop} (hc : ∀ O, PT wr r T O → Calls Tryd.prog f args wr fun e w' => ∃ T' O', Q e T' ∧ PT w' r T' O' ∧ Stp wr w' O O') (hq : ∀ e T', Q e T' → TrLv T' ∧ Sm k' T') :
    Calls Tryd.prog f args wr fun e w' => ∃ T', Q e T' ∧ KR w m r k' T' v L w' := by
  obtain ⟨O, h1, h2, h3⟩ := h.st
  refine (hc O h1).mono ?_
  rintro e w' ⟨T', O', hQ, p', st⟩
  have hb := h.kt.step h2 p' st (hq e T' hQ).1 (hq e T' hQ).2
  have hap : ∀ i, v.ownBlock = some i → ¬ O i ∧ i < wr.heap.size := fun i hi => ⟨h3 i hi, h.row.lt hi⟩
  exact ⟨T', hQ, ⟨⟨O', p', fun i hi => by
    rcases st.own i hi with e | e
    · exact h2 i e
    · exact Nat.le_trans h.bel.size e, fun i hi => (st.apart hap i hi).1⟩, h.row.keep (fun i hi => st.keep hap i hi), (hq e T' hQ).1, (hq e T' hQ).2, hb.bel, h.ml⟩⟩
end
end Go.Proofs.YtpibokijbidgdabDoor

namespace Go.Proofs.YtpibokijbidgdabDoor
open Go.RowKit Go.Maps

/-- The file by the names J; behind the last of them it is gone. -/
def lT (J : List Nat) (s : List UInt8) : Wd := if J = [] then nullT else tC (cJ J) s 0
theorem lT_nil (s : List UInt8) : lT [] s = nullT := if_pos rfl
theorem lT_ne {J : List Nat} (s : List UInt8) (h : J ≠ []) : lT J s = tC (cJ J) s 0 := if_neg h
theorem pth_len {j : Nat} (h : j < 20) : (pth j).length < 100000 := by
  have := dg_len j h
  show (47 :: dg j).length < 100000
  rw [List.length_cons]; omega

section
variable {w wr w' : World} {m : Int} {r k : Nat} {v : Value} {L : List Nm} {J : List Nat} {s : List UInt8}
theorem linked {a i : Nat} (hJ : ∀ x ∈ J, x < 20) (ha : a ∈ J) (hi : i < 20) (hn : i ∉ J) : linkE (tC (cJ J) s 0) (pth a) (pth i) = 0 ∧ linkN (tC (cJ J) s 0) (pth a) (pth i) = tC (cJ (i :: J)) s 0 := by
  have hE := link_can (C := cJ J) (b := s) (x := 0) (pth_names a (hJ a ha)) (cJ_in ha) (pth_names i hi) (cJ_out hJ hi hn)
  obtain ⟨nm2, e1, _, e2⟩ := link_one cJ_all (pth_names a (hJ a ha)) (cJ_in ha) hE
  rw [pth_names i hi] at e1
  cases e1
  exact ⟨hE, e2⟩
theorem KR.linkMore (h : KR w m r k (tC (cJ J) s 0) v L wr) (hk : k ≤ 900) {a i : Nat} (hJ : ∀ x ∈ J, x < 20) (ha : a ∈ J) (hi : i < 20) (hn : i ∉ J) :
    Calls Tryd.prog 43 #[wp r, tx (pth a), tx (pth i)] wr fun e w' => e = .returned .nilIface ∧ KR w m r (k + 1) (tC (cJ (i :: J)) s 0) v L w' := by
  obtain ⟨hE, hN⟩ := linked (s := s) hJ ha hi hn
  refine (h.call (k' := k + 1) (Q := fun e T' => e = .returned .nilIface ∧ T' = tC (cJ (i :: J)) s 0) (fun O p => ?_) ?_).mono ?_
  · refine (p.link_ok h.lv (pth a) (pth i) (pth_len (hJ a ha)) (pth_len hi) m h.kt.mlr (fun i C e => by have := h.sm.1 i C e; omega)).mono ?_
    rintro e w' ⟨rfl, p', st⟩
    exact ⟨_, O, ⟨by rw [hE]; rfl, hN⟩, p', st⟩
  · rintro e T' ⟨_, rfl⟩
    rw [← hN]
    exact ⟨h.lv.link _ _, h.sm.link _ _⟩
  · rintro e w' ⟨T', ⟨rfl, rfl⟩, k'⟩
    exact ⟨rfl, k'⟩
theorem unlinked {j : Nat} (hJ : ∀ x ∈ J, x < 20) (hj : j ∈ J) : unlinkE (tC (cJ J) s 0) (pth j) = 0 ∧ unlinkN (tC (cJ J) s 0) (pth j) = lT (J.filter (fun i => i != j)) s := by
  obtain ⟨e1, e2⟩ := unlink_one (C := cJ J) (b := s) (x := 0) (pth_names j (hJ j hj)) (cJ_in hj)
  refine ⟨e1, ?_⟩
  rw [e2, cJ_del hJ (hJ j hj)]
  by_cases h : J.filter (fun i => i != j) = []
  · rw [h, lT_nil]
    exact sweep_gone (fun s => rfl) rfl rfl
  · rw [lT_ne s h]
    obtain ⟨a, ha⟩ := List.exists_mem_of_ne_nil _ h
    exact sweep_named (cJ_in ha)
theorem KR.unlinkOne (h : KR w m r k (tC (cJ J) s 0) v L wr) (hk : k ≤ 900) {j : Nat} (hJ : ∀ x ∈ J, x < 20) (hj : j ∈ J) :
    Calls Tryd.prog 45 #[wp r, tx (pth j)] wr fun e w' => e = .returned .nilIface ∧ KR w m r (k + 1) (lT (J.filter (fun i => i != j)) s) v L w' := by
  obtain ⟨hE, hN⟩ := unlinked (s := s) hJ hj
  refine (h.call (k' := k + 1) (Q := fun e T' => e = .returned .nilIface ∧ T' = lT (J.filter (fun i => i != j)) s) (fun O p => ?_) ?_).mono ?_
  · refine (p.unlink_ok h.lv (pth j) (pth_len (hJ j hj)) m h.kt.mlr (fun i C e => by have := h.sm.1 i C e; omega)).mono ?_
    rintro e w' ⟨rfl, p', st⟩
    exact ⟨_, O, ⟨by rw [hE]; rfl, hN⟩, p', st⟩
  · rintro e T' ⟨_, rfl⟩
    rw [← hN]
    exact ⟨h.lv.unlink _, h.sm.unlink _⟩
  · rintro e w' ⟨T', ⟨rfl, rfl⟩, k'⟩
    exact ⟨rfl, k'⟩
theorem missed {j : Nat} (hJ : ∀ x ∈ J, x < 20) (hj : j < 20) (hn : j ∉ J) : unlinkE (lT J s) (pth j) = 7 ∧ unlinkN (lT J s) (pth j) = lT J s := by
  have hE : unlinkE (lT J s) (pth j) = 7 := by
    by_cases h : J = []
    · rw [h, lT_nil]
      unfold unlinkE
      rw [root_place (T := nullT) (C := []) rfl (pth_names j hj)]
      rfl
    · rw [lT_ne s h]
      exact unlink_miss (pth_names j hj) (cJ_out hJ hj hn)
  exact ⟨hE, by unfold unlinkN; rw [if_pos (by rw [hE]; omega)]⟩
theorem KR.again (h : KR w m r k (lT J s) v L wr) (hk : k ≤ 900) {j : Nat} (hJ : ∀ x ∈ J, x < 20) (hj : j < 20) (hn : j ∉ J) :
    Calls Tryd.prog 45 #[wp r, tx (pth j)] wr fun e w' => e = .returned (uer 7) ∧ KR w m r (k + 1) (lT J s) v L w' := by
  obtain ⟨hE, hN⟩ := missed (s := s) hJ hj hn
  refine (h.call (k' := k + 1) (Q := fun e T' => e = .returned (uer 7) ∧ T' = lT J s) (fun O p => ?_) ?_).mono ?_
  · refine (p.unlink_ok h.lv (pth j) (pth_len hj) m h.kt.mlr (fun i C e => by have := h.sm.1 i C e; omega)).mono ?_
    rintro e w' ⟨rfl, p', st⟩
    exact ⟨_, O, ⟨by rw [hE]; rfl, hN⟩, p', st⟩
  · rintro e T' ⟨_, rfl⟩
    exact ⟨h.lv, h.sm.more (by omega)⟩
  · rintro e w' ⟨T', ⟨rfl, rfl⟩, k'⟩
    exact ⟨rfl, k'⟩
theorem KR.findOne (h : KR w m r k (tC (cJ J) s 0) v L wr) {j : Nat} (hJ : ∀ x ∈ J, x < 20) (hj : j ∈ J) :
    Calls Tryd.prog 44 #[wp r, tx (pth j)] wr fun e w' => e = .returned (.tuple #[.int .i64 1, .nilIface]) ∧ KR w m r k (tC (cJ J) s 0) v L w' := by
  obtain ⟨O, ⟨gN, n, B, G, V, h1⟩, _⟩ := h.st
  refine (h1.find_ok h.lv.toTrOk (h1.num.pos h.lv.toTrOk) (pth j) (pth_len (hJ j hj)) m h.kt.mlr).mono ?_
  rintro e w' ⟨rfl, hb⟩
  rw [root_find (T := tC (cJ J) s 0) tC_0 (pth_names j (hJ j hj)) (cJ_in hj)]
  exact ⟨rfl, h.below hb⟩
theorem KR.readAll (h : KR w m r k (tC (cJ J) s 0) v L wr) (hs : s.length ≤ 100) :
    Calls Tryd.prog 46 #[wp r, .int .i64 1, .int .i64 0, .int .i64 100] wr fun e w' => e = .returned (.tuple #[tx s, .nilIface]) ∧ KR w m r k (tC (cJ J) s 0) v L w' := by
  obtain ⟨O, h1, _⟩ := h.st
  refine (h1.read_ok 1 0 100 (wf_few (by omega) (by omega))).mono ?_
  rintro e w' ⟨rfl, q, rfl⟩
  refine ⟨?_, h.below ⟨rfl, rfl, rfl, Nat.le_refl _, fun _ _ => rfl⟩⟩
  have e2 : readS (tC (cJ J) s 0) 1 0 100 = s := by
    unfold readS
    rw [tC_1]
    simp only
    rw [if_neg (by omega)]
    exact List.take_of_length_le hs
  rw [e2]
  rfl
end
end Go.Proofs.YtpibokijbidgdabDoor

namespace Go.Proofs.YtpibokijbidgdabDoor
open Go.RowKit Go.Maps

section
variable {w wr w1 w' : World} {m : Int} {r k : Nat} {T : Wd} {v v' : Value} {L : List Nm} {x : Nm}
theorem TxR.base {B : Nat} (h : TxR wr B v L) {i : Nat} (hi : v.ownBlock = some i) : B ≤ i := by
  unfold TxR at h
  obtain ⟨_, hh⟩ := h
  rcases hh with ⟨e1, e2⟩ | ⟨g, cap, cur, e1, hB, hg, rest⟩
  · rw [e1] at hi; cases hi
  · rw [e1] at hi; cases hi; exact hB
/-- The list grew, or was copied, and nothing else turned. -/
theorem KR.grow (h : KR w m r k T v L wr) {L' : List Nm} (ho : TxR w' w.heap.size v' L') (hg : wr.grownBy w' v.ownBlock) (hloc : v'.ownBlock = v.ownBlock ∨ ∃ i, v'.ownBlock = some i ∧ wr.heap.size ≤ i) : KR w m r k T v' L' w' := by
  obtain ⟨O, h1, h2, h3⟩ := h.st
  have hk : ∀ i, O i → w'.heap[i]? = wr.heap[i]? := fun i hi => hg.block i (h1.lt i hi) (fun e => h3 i e.symm hi)
  refine ⟨⟨O, h1.keep hk hg.size, h2, fun i hi ho => ?_⟩, ho, h.lv, h.sm, ⟨hg.os.trans h.bel.os, hg.tape.trans h.bel.tape, hg.output.trans h.bel.output, Nat.le_trans h.bel.size hg.size, fun i hi => ?_⟩, h.ml⟩
  · rcases hloc with e | ⟨j, e, hj⟩
    · exact h3 i (e ▸ hi) ho
    · rw [e] at hi; cases hi
      have := h1.lt i ho
      omega
  · refine (hg.block i (Nat.lt_of_lt_of_le hi h.bel.size) (fun e => ?_)).trans (h.bel.block i hi)
    have := h.row.base e.symm
    omega
/-- The list's texts. -/
theorem TxR.at {B : Nat} (h : TxR wr B v L) : L = [] ∨ ∃ g c, v = .slice (some ⟨g, 0, none⟩) L.length c ∧ L.length ≤ c ∧ ∀ i (hi : i < L.length), wr.cell? ⟨g, i, none⟩ = some (tx L[i]) := by
  unfold TxR at h
  obtain ⟨_, hh⟩ := h
  rcases hh with ⟨rfl, e⟩ | ⟨g, cap, cur, rfl, hB, hg, hc, _, hz, ht⟩
  · exact .inl (List.length_eq_zero_iff.1 e)
  · rw [Nat.mul_one] at hz ht
    refine .inr ⟨g, cap, rfl, hc, fun j hj => ?_⟩
    rw [cell_of_row _ _ j _ _ _ hg]
    have e1 : (L.map encStr)[j]? = some (tx L[j]) := by rw [List.getElem?_map, List.getElem?_eq_getElem hj]; rfl
    rw [← ht, List.getElem?_take_of_lt (by omega), Array.getElem?_toList] at e1
    exact e1
end
end Go.Proofs.YtpibokijbidgdabDoor
