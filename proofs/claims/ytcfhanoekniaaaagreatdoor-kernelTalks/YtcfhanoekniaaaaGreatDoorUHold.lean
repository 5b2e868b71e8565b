/- Package tree in memory: what its turns leave. -/
import Derived.Test.YtcfhanoekniaaaaGreatDoorUTree
import Derived.Test.YtcfhanoekniaaaaGreatDoorShelfV
import Derived.Deep.RegionHeld3
namespace Go.Proofs.YtcfhanoekniaaaaGreatDoor
open Go.RowKit Go.Maps

theorem map_no_cell {w : World} {j o : Nat} {es : Array MapEntry} {cl : Nat} (h : w.heap[j]? = some (.map es cl)) : w.cell? ⟨j, o, none⟩ = none := by simp [World.cell?, h]

section
variable {w w' : World} {r gN s : Nat} {T : Wd} {Z : Int → Nat} {B G : Int → Nat} {V : Int → Value} {O : Nat → Prop}

/-- Bytes stay where a block is turned that does not begin with a byte. -/
theorem Dat.grown {v : Value} {b : List UInt8} {j : Nat} (h : Dat w v b) (hg : w.grownBy w' (some j)) (hj : ∀ x, w.cell? ⟨j, 0, none⟩ ≠ some (.int .u8 x)) : Dat w' v b := by
  rcases h with h | ⟨g, c, rfl, hc, hl, hi⟩
  · exact .inl h
  · refine .inr ⟨g, c, rfl, hc, Nat.lt_of_lt_of_le hl hg.size, fun i h => ?_⟩
    have hne : g ≠ j := fun e => hj _ (by rw [← e]; exact hi 0 (by omega))
    rw [World.cell?_of_block (w := w) (a := ⟨g, i, none⟩) (hg.block g hl (fun e => hne (Option.some.inj e)))]; exact hi i h

/-- A node's own block turned. -/
theorem PTr.apart (h : PTr w r gN s T Z B G V O) {k : Int} {nd : Nd} (hk : T k = some nd) : r ≠ B k ∧ gN ≠ B k ∧ (∀ i C, T i = some (.dir C) → G i ≠ B k) ∧ (∀ i, (T i).isSome = true → i ≠ k → B i ≠ B k) ∧ ∀ x, w.cell? ⟨B k, 0, none⟩ ≠ some (.int .u8 x) := by
  have hn := h.node k nd hk
  refine ⟨fun e => ?_, fun e => ?_, fun i C hi e => ?_, fun i hi hne e => hne (h.binj i k hi (by rw [hk]; rfl) e), fun x e => ?_⟩
  · rw [← e, h.head] at hn; injection hn with hn; injection hn with h1 h2
    exact absurd h2 (by decide)
  · obtain ⟨es, cl, hm⟩ := h.map.isMap
    rw [e, hn] at hm; cases hm
  · obtain ⟨es, cl, hm⟩ := (h.dirs i C hi).isMap
    rw [e, hn] at hm; cases hm
  · rw [cell_of_row w (B k) 0 _ _ _ hn] at e
    cases nd <;> (simp [ncells] at e)

theorem PTr.renode {nd' : Nd} {Z' : Int → Nat} {V' : Int → Value} {O' : Nat → Prop} (h : PTr w r gN s T Z B G V O) {k : Int} {nd : Nd} (hk : T k = some nd) (hg : w.grownBy w' (some (B k)))
    (hnew : w'.heap[B k]? = some (.cells (ncells G V' Z' k nd') 337)) (hZ : ∀ i, i ≠ k → Z' i = Z i) (hV : ∀ i, i ≠ k → V' i = V i)
    (hkind : (∃ C, nd = .dir C ∧ nd' = .dir C) ∨ ∃ b x b' x', nd = .file b x ∧ nd' = .file b' x' ∧ Dat w' (V' k) b' ∧ ∀ i, blkOf (V' k) = some i → O' i)
    (hO : ∀ i, O i → O' i) (hlt : ∀ i, O' i → i < w'.heap.size) : PTr w' r gN s (setT T k nd') Z' B G V' O' := by
  obtain ⟨a1, a2, a3, a4, a5⟩ := h.apart hk
  have hkp : ∀ i, i < w.heap.size → i ≠ B k → w'.heap[i]? = w.heap[i]? := fun i hi hne => hg.block i hi (fun e => hne (Option.some.inj e))
  have hsm : ∀ i, (setT T k nd' i).isSome = (T i).isSome := fun i => by
    by_cases e1 : i = k
    · subst e1; rw [setT_same, hk]; rfl
    · rw [setT_other _ e1]
  have hdir : ∀ i D, setT T k nd' i = some (.dir D) → T i = some (.dir D) := fun i D e => by
    by_cases e1 : i = k
    · subst e1
      rw [setT_same] at e
      rcases hkind with ⟨C, rfl, rfl⟩ | ⟨b, x, b', x', rfl, rfl, _⟩
      · cases e; exact hk
      · cases e
    · rw [setT_other _ e1] at e; exact e
  have hcell : ∀ i nd2, i ≠ k → ncells G V' Z' i nd2 = ncells G V Z i nd2 := fun i nd2 e => by
    cases nd2 <;> simp [ncells, hZ i e, hV i e]
  refine ⟨(hkp r (h.lt _ h.ownR) a1).trans h.head, ?_, fun i nd2 e => ?_, fun i D e => (h.dirs i D (hdir i D e)).keep (hkp _ (h.dirs i D (hdir i D e)).lt (a3 i D (hdir i D e))), fun i b x e => ?_, fun i D e => h.sep i D (hdir i D e), fun i i' D D' e e' => h.inj i i' D D' (hdir i D e) (hdir i' D' e'), fun i i' e e' => h.binj i i' (by rw [← hsm]; exact e) (by rw [← hsm]; exact e'), hO _ h.ownR, hO _ h.ownN, fun i e => hO _ (h.ownB i (by rw [← hsm]; exact e)), fun i D e => hO _ (h.ownG i D (hdir i D e)), fun i b x j e hj => ?_, hlt⟩
  · have e : (fun i => (setT T k nd' i).map (fun _ => wp (B i))) = fun i => (T i).map (fun _ => wp (B i)) := by
      funext i
      by_cases e1 : i = k
      · subst e1; rw [setT_same, hk]; rfl
      · rw [setT_other _ e1]
    rw [e]
    exact h.map.keep (hkp gN h.map.lt a2)
  · by_cases e1 : i = k
    · subst e1; rw [setT_same] at e; cases e; exact hnew
    · rw [setT_other _ e1] at e
      rw [hcell i nd2 e1]
      exact (hkp _ (h.lt _ (h.ownB i (by rw [e]; rfl))) (a4 i (by rw [e]; rfl) e1)).trans (h.node i nd2 e)
  · by_cases e1 : i = k
    · subst e1
      rw [setT_same] at e
      rcases hkind with ⟨C, rfl, rfl⟩ | ⟨b0, x0, b', x', rfl, rfl, hdat, _⟩
      · cases e
      · cases e; exact hdat
    · rw [setT_other _ e1] at e
      rw [hV i e1]
      exact (h.data i b x e).grown hg a5
  · by_cases e1 : i = k
    · subst e1
      rw [setT_same] at e
      rcases hkind with ⟨C, rfl, rfl⟩ | ⟨b0, x0, b', x', rfl, rfl, _, hown⟩
      · cases e
      · exact hown j hj
    · rw [setT_other _ e1] at e
      rw [hV i e1] at hj
      exact hO _ (h.ownD i b x j e hj)

/-- Counts that are the same where nodes are. -/
theorem PTr.as {Z' : Int → Nat} {T' : Wd} (h : PTr w r gN s T Z B G V O) (hT : T' = T) (hZ : ∀ k, (T k).isSome = true → Z' k = Z k) : PTr w r gN s T' Z' B G V O := by
  subst hT
  refine { h with node := fun k nd e => ?_ }
  have e2 : ncells G V Z' k nd = ncells G V Z k nd := by cases nd <;> simp [ncells, hZ k (by rw [e]; rfl)]
  rw [e2]; exact h.node k nd e
/-- How often a file is held, put. -/
theorem PTr.held (h : PTr w r gN s T Z B G V O) {k : Int} {b : List UInt8} {x : Nat} (hk : T k = some (.file b x)) (z : Nat) : PTr (w.setCell ⟨B k, 3, none⟩ (.int .i64 (z : Int))) r gN s (setT T k (.file b z)) Z B G V O := by
  have hg : w.grownBy (w.setCell ⟨B k, 3, none⟩ (.int .i64 (z : Int))) (some (B k)) := ⟨rfl, rfl, rfl, by simp [World.setCell], fun i _ hne => Below.heap_setCell _ _ _ _ (fun e => hne (by rw [e]))⟩
  have hz : (w.setCell ⟨B k, 3, none⟩ (.int .i64 (z : Int))).heap.size = w.heap.size := by simp
  exact h.renode (nd' := .file b z) (Z' := Z) (V' := V) (O' := O) hk hg (by
      rw [heap_cell_same w (B k) 3 _ _ _ _ (h.node k _ hk)]
      simp [ncells]) (fun _ _ => rfl) (fun _ _ => rfl) (.inr ⟨b, x, b, z, rfl, rfl, (h.data k b x hk).grown hg (h.apart hk).2.2.2.2, fun i hi => h.ownD k b x i hk hi⟩) (fun _ h => h) (fun i hi => by rw [hz]; exact h.lt i hi)
/-- A file's bytes put: they lie in a block that is new. -/
theorem PTr.bytes (h : PTr w r gN s T Z B G V O) {k : Int} {b b' : List UInt8} {x : Nat} (hk : T k = some (.file b x)) {v : Value} (hd : Dat w v b') : ∃ V' O', PTr (w.setCell ⟨B k, 1, none⟩ v) r gN s (setT T k (.file b' x)) Z B G V' O' ∧ ∀ i, O' i ↔ O i ∨ blkOf v = some i := by
  have hg : w.grownBy (w.setCell ⟨B k, 1, none⟩ v) (some (B k)) := ⟨rfl, rfl, rfl, by simp [World.setCell], fun i _ hne => Below.heap_setCell _ _ _ _ (fun e => hne (by rw [e]))⟩
  have hz : (w.setCell ⟨B k, 1, none⟩ v).heap.size = w.heap.size := by simp
  refine ⟨fun i => if i = k then v else V i, fun i => O i ∨ blkOf v = some i, ?_, fun _ => Iff.rfl⟩
  refine h.renode (nd' := .file b' x) (Z' := Z) hk hg (by
      rw [heap_cell_same w (B k) 1 _ _ _ _ (h.node k _ hk)]
      simp [ncells]) (fun _ _ => rfl) (fun _ e => if_neg e) (.inr ⟨b, x, b', x, rfl, rfl, ?_, fun i hi => ?_⟩) (fun _ h => .inl h) (fun i hi => ?_)
  · rw [if_pos rfl]; exact hd.grown hg (h.apart hk).2.2.2.2
  · rw [if_pos rfl] at hi; exact .inr hi
  · rw [hz]
    rcases hi with hi | hi
    · exact h.lt i hi
    · exact hd.lt hi

/-- A node gone. -/
theorem PTr.era (h : PTr w r gN s T Z B G V O) (n : Int) {s' : Nat} (hg : w.grownBy w' (some gN)) (pm : PMap w' gN s' (fun i => if i = n then none else (T i).map (fun _ => wp (B i)))) : PTr w' r gN s' (eraT T n) Z B G V O := by
  obtain ⟨es, cl, hm⟩ := h.map.isMap
  have hkp : ∀ i, i < w.heap.size → i ≠ gN → w'.heap[i]? = w.heap[i]? := fun i hi hne => hg.block i hi (fun e => hne (Option.some.inj e))
  have hsub : ∀ k nd, eraT T n k = some nd → T k = some nd := fun k nd e => by
    by_cases e1 : k = n
    · subst e1; rw [eraT_same] at e; cases e
    · rw [eraT_other e1] at e; exact e
  have hss : ∀ k, (eraT T n k).isSome = true → (T k).isSome = true := fun k e => by
    by_cases e1 : k = n
    · subst e1; rw [eraT_same] at e; cases e
    · rw [eraT_other e1] at e; exact e
  refine ⟨(hkp r (h.lt _ h.ownR) (fun e => by rw [← e, h.head] at hm; cases hm)).trans h.head, ?_, fun k nd e => (hkp _ (h.lt _ (h.ownB k (hss k (by rw [e]; rfl)))) (fun e2 => by rw [← e2, h.node k nd (hsub k nd e)] at hm; cases hm)).trans (h.node k nd (hsub k nd e)), fun k D e => (h.dirs k D (hsub k _ e)).keep (hkp _ (h.dirs k D (hsub k _ e)).lt (h.sep k D (hsub k _ e))), fun k b x e => (h.data k b x (hsub k _ e)).grown hg (fun y hy => by rw [map_no_cell hm] at hy; cases hy), fun k D e => h.sep k D (hsub k _ e), fun k k' D D' e e' => h.inj k k' D D' (hsub k _ e) (hsub k' _ e'), fun k k' e e' => h.binj k k' (hss k e) (hss k' e'), h.ownR, h.ownN, fun k e => h.ownB k (hss k e), fun k D e => h.ownG k D (hsub k _ e), fun k b x i e => h.ownD k b x i (hsub k _ e), fun i hi => Nat.lt_of_lt_of_le (h.lt i hi) hg.size⟩
  have e : (fun i => if i = n then none else (T i).map (fun _ => wp (B i))) = fun k => (eraT T n k).map (fun _ => wp (B k)) := by
    funext k
    by_cases e1 : k = n
    · subst e1; rw [eraT_same, if_pos rfl]; rfl
    · rw [eraT_other e1, if_neg e1]
  rw [e] at pm
  exact pm
end
end Go.Proofs.YtcfhanoekniaaaaGreatDoor

namespace Go.Proofs.YtcfhanoekniaaaaGreatDoor
open Go.RowKit Go.Maps

/-- A tree whose counts are right. -/
def PT (w : World) (r : Nat) (T : Wd) (O : Nat → Prop) : Prop := ∃ gN s B G V, PTr w r gN s T (cntT T) B G V O

section
variable {w w' : World} {r gN s : Nat} {T : Wd} {Z : Int → Nat} {B G : Int → Nat} {V : Int → Value} {O : Nat → Prop}

theorem PT.below (h : PT w r T O) (hb : Below w.heap.size w w') : PT w' r T O := by
  obtain ⟨gN, s, B, G, V, h⟩ := h
  exact ⟨gN, s, B, G, V, h.below hb⟩
theorem PT.keep (h : PT w r T O) (hk : ∀ i, O i → w'.heap[i]? = w.heap[i]?) (hs : w.heap.size ≤ w'.heap.size) : PT w' r T O := by
  obtain ⟨gN, s, B, G, V, h⟩ := h
  exact ⟨gN, s, B, G, V, h.keep hk hs⟩
theorem PT.lt (h : PT w r T O) (i : Nat) (hi : O i) : i < w.heap.size := by
  obtain ⟨gN, s, B, G, V, h⟩ := h
  exact h.lt i hi
theorem ptr_ne (b : Nat) (w : World) : (binOp BinOp.eql 202 (wp b) (.pointer none)).run Tryz.prog w = .ok (.bool false) w := by kernel_rfl
theorem ptr_nil (w : World) : (binOp BinOp.eql 202 (.pointer none) (.pointer none)).run Tryz.prog w = .ok (.bool true) w := by kernel_rfl

set_option maxRecDepth 100000 in
set_option maxHeartbeats 2000000 in
theorem PTr.file_bad (h : PTr w r gN s T Z B G V O) (n : Int) (hw : (Lit.int .i64 n).wf = true) (hz : fileT T n ≠ 0) :
    Calls Tryz.prog 242 #[wp r, .int .i64 n] w fun e w' => e = .returned (.tuple #[.pointer none, uer (fileT T n)]) ∧ w' = w := by
  have c0 := h.c0
  have hlk := h.look n hw
  cases hn : T n with
  | none =>
    have e : fileT T n = 7 := by unfold fileT; rw [hn]
    rw [e]
    rw [hn] at hlk
    simp only [Option.isSome_none, Bool.false_eq_true, if_false] at hlk
    have h9 := ptr_nil
    go_enter Tryz.func242, Tryz.ntmps242
    go_wp2_with fail
    go_ret2
    exact ⟨rfl, rfl⟩
  | some nd =>
    cases nd with
    | dir C =>
      have e : fileT T n = 6 := by unfold fileT; rw [hn]
      rw [e]
      rw [hn] at hlk
      simp only [Option.isSome_some, if_true] at hlk
      have h9 := ptr_ne (B n)
      obtain ⟨n0, _⟩ := h.dcell hn
      have hID := isDir_yes n0
      go_enter Tryz.func242, Tryz.ntmps242
      go_wp2_with (go_at_call 298; refine hID.mono ?_; rintro e w' ⟨rfl, hw'⟩; subst w')
      go_ret2
      exact ⟨rfl, rfl⟩
    | file b x => exact absurd (by unfold fileT; rw [hn]) hz

set_option maxRecDepth 100000 in
set_option maxHeartbeats 2000000 in
theorem PTr.file_ok (h : PTr w r gN s T Z B G V O) (n : Int) (hw : (Lit.int .i64 n).wf = true) {b : List UInt8} {x : Nat} (hn : T n = some (.file b x)) :
    Calls Tryz.prog 242 #[wp r, .int .i64 n] w fun e w' => e = .returned (.tuple #[wp (B n), .nilIface]) ∧ w' = w := by
  have c0 := h.c0
  have hlk := h.look n hw
  rw [hn] at hlk
  simp only [Option.isSome_some, if_true] at hlk
  have h9 := ptr_ne (B n)
  obtain ⟨n0, _⟩ := h.fcell hn
  have hID := isDir_no n0
  go_enter Tryz.func242, Tryz.ntmps242
  go_wp2_with (go_at_call 298; refine hID.mono ?_; rintro e w' ⟨rfl, hw'⟩; subst w')
  go_ret2
  exact ⟨rfl, rfl⟩

theorem Dat.len {v : Value} {b : List UInt8} (h : Dat w v b) : ∃ a c, v = .slice a b.length c := by
  rcases h with ⟨rfl, rfl⟩ | ⟨g, c, rfl, _⟩
  · exact ⟨none, 0, rfl⟩
  · exact ⟨_, c, rfl⟩
end
end Go.Proofs.YtcfhanoekniaaaaGreatDoor

namespace Go.Proofs.YtcfhanoekniaaaaGreatDoor
open Go.RowKit Go.Maps

section
variable {w w' : World} {r gN s : Nat} {T : Wd} {Z : Int → Nat} {B G : Int → Nat} {V : Int → Value} {O : Nat → Prop}

/-- One block of its own was turned. -/
theorem Stp.grown {i : Nat} (hg : w.grownBy w' (some i)) (hi : O i) : Stp w w' O O := ⟨.grown hg hi, fun _ h => .inl h⟩
theorem Stp.cell {b o : Nat} (v : Value) (hi : O b) : Stp w (w.setCell ⟨b, o, none⟩ v) O O :=
  .grown (i := b) ⟨rfl, rfl, rfl, by simp [World.setCell], fun i _ hne => Below.heap_setCell _ _ _ _ (fun e => hne (by rw [e]))⟩ hi

theorem PTr.scell (h : PTr w r gN s T Z B G V O) {k : Int} {nd : Nd} (e : T k = some nd) : w.cell? ⟨B k, 2, none⟩ = some (.int .i64 (Z k : Int)) ∧ w.cell? ⟨B k, 3, none⟩ = some (.int .i64 (heldT nd : Int)) := by
  cases nd with
  | dir C => obtain ⟨_, _, h2, h3⟩ := h.dcell e; exact ⟨h2, h3⟩
  | file b x => obtain ⟨_, _, h2, h3⟩ := h.fcell e; exact ⟨h2, h3⟩

set_option maxRecDepth 100000 in
set_option maxHeartbeats 2000000 in
theorem PTr.settle_stay (h : PTr w r gN s T Z B G V O) (n : Int) (hw : (Lit.int .i64 n).wf = true) {nd : Nd} (hn : T n = some nd) (hz : ¬ (Z n = 0 ∧ heldT nd = 0)) :
    Calls Tryz.prog 312 #[wp r, .int .i64 n] w fun e w' => (∃ v, e = .returned v) ∧ w' = w := by
  have c0 := h.c0
  have hlk := h.look n hw
  rw [hn] at hlk
  simp only [Option.isSome_some, if_true] at hlk
  obtain ⟨s2, s3⟩ := h.scell hn
  by_cases e1 : Z n = 0
  · have e2 : heldT nd ≠ 0 := fun e => hz ⟨e1, e⟩
    have e3 : ((heldT nd : Int) == 0) = false := by simp; omega
    rw [e1] at s2
    generalize heldT nd = H at *
    clear hn hz
    go_enter Tryz.func312, Tryz.ntmps312
    go_wp2_with fail
    go_end0
    exact ⟨⟨_, rfl⟩, rfl⟩
  · have e3 : ((Z n : Int) == 0) = false := by simp; omega
    generalize heldT nd = H at *
    generalize Z n = z at *
    clear hn hz
    go_enter Tryz.func312, Tryz.ntmps312
    go_wp2_with fail
    go_end0
    exact ⟨⟨_, rfl⟩, rfl⟩

set_option maxRecDepth 100000 in
set_option maxHeartbeats 2000000 in
theorem PTr.settle_go (h : PTr w r gN s T Z B G V O) (n : Int) (hw : (Lit.int .i64 n).wf = true) {nd : Nd} (hn : T n = some nd) (hz : Z n = 0) (hh : heldT nd = 0) :
    Calls Tryz.prog 312 #[wp r, .int .i64 n] w fun e w' => (∃ v, e = .returned v) ∧ PTr w' r gN (s - 1) (eraT T n) Z B G V O ∧ Stp w w' O O := by
  have c0 := h.c0
  have hlk := h.look n hw
  rw [hn] at hlk
  simp only [Option.isSome_some, if_true] at hlk
  obtain ⟨s2, s3⟩ := h.scell hn
  rw [hz] at s2
  rw [hh] at s3
  have hmap := h.map
  have hM : ((T n).map (fun _ => wp (B n))).isSome = true := by rw [hn]; rfl
  go_enter Tryz.func312, Tryz.ntmps312
  go_wp2_with (refine wpList_kdel rfl _ _ 204 rfl 202 Tryz.underlying204 gN _ _ rfl hmap n rfl hw ?_; intro w1 pm g1; rw [if_pos hM] at pm)
  go_end0
  exact ⟨⟨_, rfl⟩, h.era n g1 pm, .grown g1 h.ownN⟩

theorem TrLv.setF (hT : TrLv T) {n : Int} {b b' : List UInt8} {x x' : Nat} (hn : T n = some (.file b x)) (hb : b'.length ≤ 256) (hx : x' ≤ 1000) (hx' : x' ≠ 0 ∨ cntT T n ≠ 0) : TrLv (setT T n (.file b' x')) :=
  { toTrOk := hT.toTrOk.setF hn hb hx
    nr := by rw [cnt_setF hn]; exact hT.nr
    lv := fun k nd e => by
      rw [cnt_setF hn]
      by_cases e1 : k = n
      · subst e1; rw [setT_same] at e; cases e
        rcases hx' with e2 | e2
        · exact .inr (.inr e2)
        · exact .inr (.inl e2)
      · rw [setT_other _ e1] at e; exact hT.lv k nd e }

theorem TrOk.era (hT : TrOk T) {n : Int} (h0 : n ≠ 0) (hc : cntT T n = 0) : TrOk (eraT T n) := by
  have hsub : ∀ k nd, eraT T n k = some nd → T k = some nd := fun k nd e => by
    by_cases e1 : k = n
    · subst e1; rw [eraT_same] at e; cases e
    · rw [eraT_other e1] at e; exact e
  have hl : ¬ Led T n := fun h => by
    rcases (led_cnt hT n).1 h with e | e
    · exact h0 e
    · exact e hc
  refine ⟨?_, fun k e => hT.key k ?_, fun k C e => hT.nodup k C (hsub k _ e), fun k C sx m e e2 => ?_, fun k C x e => hT.name k C x (hsub k _ e), fun k b x e => hT.small k b x (hsub k _ e)⟩
  · obtain ⟨C, e⟩ := hT.root
    exact ⟨C, by rw [eraT_other (Ne.symm h0)]; exact e⟩
  · cases h : eraT T n k with
    | none => rw [h] at e; cases e
    | some nd => rw [hsub k nd h]; rfl
  · have := hT.child k C sx m (hsub k _ e) e2
    rw [eraT_other (fun em => hl (.inr ⟨k, C, sx, hsub k _ e, by rw [← em]; exact e2⟩))]
    exact this
/-- A node that no name leads to and nobody holds goes. -/
theorem TrLv.era (hT : TrOk T) (hnr : cntT T 0 = 0) {n : Int} {nd : Nd} (hl : ∀ k nd, k ≠ n → T k = some nd → k = 0 ∨ cntT T k ≠ 0 ∨ heldT nd ≠ 0) (hn : T n = some nd) (h0 : n ≠ 0) (hc : cntT T n = 0) (h1 : ∀ k, cnt1 (T n) k = 0) : TrLv (eraT T n) :=
  { toTrOk := hT.era h0 hc
    nr := by rw [cnt_era h1]; exact hnr
    lv := fun k nd' e => by
      rw [cnt_era h1]
      by_cases e1 : k = n
      · subst e1; rw [eraT_same] at e; cases e
      · rw [eraT_other e1] at e; exact hl k nd' e1 e }
end
end Go.Proofs.YtcfhanoekniaaaaGreatDoor
