/- Package tree: what is asked of a file by its number: Size, Hold, Drop, by their Go text. -/
import Derived.Test.YtjkneekfijibiabGreatDoorUMem
namespace Go.Proofs.YtjkneekfijibiabGreatDoor
open Go.RowKit Go.Maps

/-- How many nodes there are. -/
def IsNum (T : Wd) (s : Nat) : Prop := ∃ ks : List Int, ks.Nodup ∧ ks.length = s ∧ ∀ x, x ∈ ks ↔ (T x).isSome = true
theorem perm_len {a b : List Int} (ha : a.Nodup) (hb : b.Nodup) (h : ∀ x, x ∈ a ↔ x ∈ b) : a.length = b.length := ((List.perm_ext_iff_of_nodup ha hb).2 h).length_eq
theorem IsNum.one {T : Wd} {s s' : Nat} (h : IsNum T s) (h' : IsNum T s') : s = s' := by
  obtain ⟨a, ha, rfl, ma⟩ := h
  obtain ⟨b, hb, rfl, mb⟩ := h'
  exact perm_len ha hb (fun x => (ma x).trans (mb x).symm)
theorem PMap.num {w : World} {g s : Nat} {T : Wd} {f : Int → Nd → Value} (h : PMap w g s (fun k => (T k).map (f k))) : IsNum T s := by
  obtain ⟨D, _, _, hn, hl, hm⟩ := h.data
  exact ⟨_, hn, hl, fun x => by rw [hm x]; cases T x <;> rfl⟩
theorem IsNum.pos {T : Wd} {s : Nat} (h : IsNum T s) (hT : TrOk T) : 1 ≤ s := by
  obtain ⟨ks, _, rfl, m⟩ := h
  obtain ⟨C, e⟩ := hT.root
  exact List.length_pos_of_mem ((m 0).2 (by rw [e]; rfl))
theorem sub_len : ∀ {a b : List Int}, a.Nodup → a ⊆ b → a.length ≤ b.length
  | [], _, _, _ => Nat.zero_le _
  | x :: t, b, hn, hs => by
    rw [List.nodup_cons] at hn
    have hx : x ∈ b := hs List.mem_cons_self
    have h1 := sub_len (b := b.erase x) hn.2 (fun y hy => (List.mem_erase_of_ne (fun e => hn.1 (by rw [← e]; exact hy))).2 (hs (List.mem_cons_of_mem _ hy)))
    have h2 := List.length_erase_of_mem hx
    have h3 := List.length_pos_of_mem hx
    rw [List.length_cons]; omega
/-- The least number that no node has is at most how many there are. -/
theorem IsNum.free {T : Wd} {s : Nat} (h : IsNum T s) {k : Nat} (hk : ∀ i : Nat, i < k → (T i).isSome = true) : k ≤ s := by
  obtain ⟨ks, hn, rfl, m⟩ := h
  have hsub : ((List.range k).map (fun i : Nat => (i : Int))) ⊆ ks := fun x hx => by
    obtain ⟨i, hi, rfl⟩ := List.mem_map.1 hx
    exact (m _).2 (hk i (List.mem_range.1 hi))
  have hnd : ((List.range k).map (fun i : Nat => (i : Int))).Nodup := List.pairwise_map.2 (List.nodup_range.imp (fun {a b} h e => h (by omega)))
  have := sub_len hnd hsub
  simpa using this

/-- A tree whose counts are right. -/
def PT (w : World) (r : Nat) (T : Wd) (O : Nat → Prop) : Prop := ∃ gN s B G V, PTr w r gN s T (cntT T) B G V O

section
variable {w w' : World} {r gN s : Nat} {T : Wd} {Z : Int → Nat} {B G : Int → Nat} {V : Int → Value} {O : Nat → Prop}

theorem PT.below (h : PT w r T O) (hb : Below w.heap.size w w') : PT w' r T O := by
  obtain ⟨gN, s, B, G, V, h⟩ := h
  exact ⟨gN, s, B, G, V, h.below hb⟩
theorem PT.keep (h : PT w r T O) (hk : ∀ i, O i → w'.heap[i]? = w.heap[i]?) (hs : w.heap.size ≤ w'.heap.size) : PT w' r T O := by
  obtain ⟨gN, s, B, G, V, h⟩ := h
  exact ⟨gN, s, B, G, V, h.keep hk hs⟩
theorem PT.lt (h : PT w r T O) (i : Nat) (hi : O i) : i < w.heap.size := by
  obtain ⟨gN, s, B, G, V, h⟩ := h
  exact h.lt i hi
theorem PTr.num (h : PTr w r gN s T Z B G V O) : IsNum T s := h.map.num (f := fun k _ => wp (B k))
theorem PT.nodes_ok (h : PT w r T O) {s : Nat} (hs : IsNum T s) : Calls Tryz.prog 13 #[wp r] w fun e w' => e = .returned (.int .i64 (s : Int)) ∧ w' = w := by
  obtain ⟨gN, s', B, G, V, h⟩ := h
  rw [hs.one h.num]
  exact h.nodes_ok
theorem PT.num (h : PT w r T O) : ∃ s, IsNum T s := by
  obtain ⟨gN, s, B, G, V, h⟩ := h
  exact ⟨s, h.num⟩

theorem ptr_ne (b : Nat) (w : World) : (binOp BinOp.eql 106 (wp b) (.pointer none)).run Tryz.prog w = .ok (.bool false) w := by kernel_rfl
theorem ptr_nil (w : World) : (binOp BinOp.eql 106 (.pointer none) (.pointer none)).run Tryz.prog w = .ok (.bool true) w := by kernel_rfl

set_option maxRecDepth 100000 in
set_option maxHeartbeats 2000000 in
theorem PTr.file_bad (h : PTr w r gN s T Z B G V O) (n : Int) (hw : (Lit.int .i64 n).wf = true) (hz : fileT T n ≠ 0) :
    Calls Tryz.prog 64 #[wp r, .int .i64 n] w fun e w' => e = .returned (.tuple #[.pointer none, uer (fileT T n)]) ∧ w' = w := by
  have c0 := h.c0
  have hlk := h.look n hw
  cases hn : T n with
  | none =>
    have e : fileT T n = 7 := by unfold fileT; rw [hn]
    rw [e]
    rw [hn] at hlk
    simp only [Option.isSome_none, Bool.false_eq_true, if_false] at hlk
    have h9 := ptr_nil
    go_enter Tryz.func64, Tryz.ntmps64
    go_wp2_with fail
    go_ret2
    exact ⟨rfl, rfl⟩
  | some nd =>
    cases nd with
    | dir C =>
      have e : fileT T n = 6 := by unfold fileT; rw [hn]
      rw [e]
      rw [hn] at hlk
      simp only [Option.isSome_some, if_true] at hlk
      have h9 := ptr_ne (B n)
      obtain ⟨n0, _⟩ := h.dcell hn
      have hID := isDir_yes n0
      go_enter Tryz.func64, Tryz.ntmps64
      go_wp2_with (go_at_call 98; refine hID.mono ?_; rintro e w' ⟨rfl, hw'⟩; subst w')
      go_ret2
      exact ⟨rfl, rfl⟩
    | file b x => exact absurd (by unfold fileT; rw [hn]) hz

set_option maxRecDepth 100000 in
set_option maxHeartbeats 2000000 in
theorem PTr.file_ok (h : PTr w r gN s T Z B G V O) (n : Int) (hw : (Lit.int .i64 n).wf = true) {b : List UInt8} {x : Nat} (hn : T n = some (.file b x)) :
    Calls Tryz.prog 64 #[wp r, .int .i64 n] w fun e w' => e = .returned (.tuple #[wp (B n), .nilIface]) ∧ w' = w := by
  have c0 := h.c0
  have hlk := h.look n hw
  rw [hn] at hlk
  simp only [Option.isSome_some, if_true] at hlk
  have h9 := ptr_ne (B n)
  obtain ⟨n0, _⟩ := h.fcell hn
  have hID := isDir_no n0
  go_enter Tryz.func64, Tryz.ntmps64
  go_wp2_with (go_at_call 98; refine hID.mono ?_; rintro e w' ⟨rfl, hw'⟩; subst w')
  go_ret2
  exact ⟨rfl, rfl⟩

def sizeS (T : Wd) (n : Int) : Int := match T n with
  | some (.file b _) => (b.length : Int)
  | _ => 0
theorem Dat.len {v : Value} {b : List UInt8} (h : Dat w v b) : ∃ a c, v = .slice a b.length c := by
  rcases h with ⟨rfl, rfl⟩ | ⟨g, c, rfl, _⟩
  · exact ⟨none, 0, rfl⟩
  · exact ⟨_, c, rfl⟩
end
end Go.Proofs.YtjkneekfijibiabGreatDoor

namespace Go.Proofs.YtjkneekfijibiabGreatDoor
open Go.RowKit Go.Maps

section
variable {w w' : World} {r gN s : Nat} {T : Wd} {Z : Int → Nat} {B G : Int → Nat} {V : Int → Value} {O : Nat → Prop}

/-- One block of its own was turned. -/
theorem Stp.grown {i : Nat} (hg : w.grownBy w' (some i)) (hi : O i) : Stp w w' O O := ⟨.grown hg hi, fun _ h => .inl h⟩
theorem Stp.cell {b o : Nat} (v : Value) (hi : O b) : Stp w (w.setCell ⟨b, o, none⟩ v) O O :=
  .grown (i := b) ⟨rfl, rfl, rfl, by simp [World.setCell], fun i _ hne => Below.heap_setCell _ _ _ _ (fun e => hne (by rw [e]))⟩ hi

theorem PTr.scell (h : PTr w r gN s T Z B G V O) {k : Int} {nd : Nd} (e : T k = some nd) : w.cell? ⟨B k, 2, none⟩ = some (.int .i64 (Z k : Int)) ∧ w.cell? ⟨B k, 3, none⟩ = some (.int .i64 (heldT nd : Int)) := by
  cases nd with
  | dir C => obtain ⟨_, _, h2, h3⟩ := h.dcell e; exact ⟨h2, h3⟩
  | file b x => obtain ⟨_, _, h2, h3⟩ := h.fcell e; exact ⟨h2, h3⟩

set_option maxRecDepth 100000 in
set_option maxHeartbeats 2000000 in
theorem PTr.settle_stay (h : PTr w r gN s T Z B G V O) (n : Int) (hw : (Lit.int .i64 n).wf = true) {nd : Nd} (hn : T n = some nd) (hz : ¬ (Z n = 0 ∧ heldT nd = 0)) :
    Calls Tryz.prog 72 #[wp r, .int .i64 n] w fun e w' => (∃ v, e = .returned v) ∧ w' = w := by
  have c0 := h.c0
  have hlk := h.look n hw
  rw [hn] at hlk
  simp only [Option.isSome_some, if_true] at hlk
  obtain ⟨s2, s3⟩ := h.scell hn
  by_cases e1 : Z n = 0
  · have e2 : heldT nd ≠ 0 := fun e => hz ⟨e1, e⟩
    have e3 : ((heldT nd : Int) == 0) = false := by simp; omega
    rw [e1] at s2
    generalize heldT nd = H at *
    clear hn hz
    go_enter Tryz.func72, Tryz.ntmps72
    go_wp2_with fail
    go_end0
    exact ⟨⟨_, rfl⟩, rfl⟩
  · have e3 : ((Z n : Int) == 0) = false := by simp; omega
    generalize heldT nd = H at *
    generalize Z n = z at *
    clear hn hz
    go_enter Tryz.func72, Tryz.ntmps72
    go_wp2_with fail
    go_end0
    exact ⟨⟨_, rfl⟩, rfl⟩

set_option maxRecDepth 100000 in
set_option maxHeartbeats 2000000 in
theorem PTr.settle_go (h : PTr w r gN s T Z B G V O) (n : Int) (hw : (Lit.int .i64 n).wf = true) {nd : Nd} (hn : T n = some nd) (hz : Z n = 0) (hh : heldT nd = 0) :
    Calls Tryz.prog 72 #[wp r, .int .i64 n] w fun e w' => (∃ v, e = .returned v) ∧ PTr w' r gN (s - 1) (eraT T n) Z B G V O ∧ Stp w w' O O := by
  have c0 := h.c0
  have hlk := h.look n hw
  rw [hn] at hlk
  simp only [Option.isSome_some, if_true] at hlk
  obtain ⟨s2, s3⟩ := h.scell hn
  rw [hz] at s2
  rw [hh] at s3
  have hmap := h.map
  have hM : ((T n).map (fun _ => wp (B n))).isSome = true := by rw [hn]; rfl
  go_enter Tryz.func72, Tryz.ntmps72
  go_wp2_with (refine wpList_kdel rfl _ _ 108 rfl 106 Tryz.underlying108 gN _ _ rfl hmap n rfl hw ?_; intro w1 pm g1; rw [if_pos hM] at pm)
  go_end0
  exact ⟨⟨_, rfl⟩, h.era n g1 pm, .grown g1 h.ownN⟩

theorem TrLv.setF (hT : TrLv T) {n : Int} {b b' : List UInt8} {x x' : Nat} (hn : T n = some (.file b x)) (hb : b'.length ≤ 256) (hx : x' ≤ 1000) (hx' : x' ≠ 0 ∨ cntT T n ≠ 0) : TrLv (setT T n (.file b' x')) :=
  { toTrOk := hT.toTrOk.setF hn hb hx
    nr := by rw [cnt_setF hn]; exact hT.nr
    lv := fun k nd e => by
      rw [cnt_setF hn]
      by_cases e1 : k = n
      · subst e1; rw [setT_same] at e; cases e
        rcases hx' with e2 | e2
        · exact .inr (.inr e2)
        · exact .inr (.inl e2)
      · rw [setT_other _ e1] at e; exact hT.lv k nd e }

set_option maxRecDepth 100000 in
set_option maxHeartbeats 2000000 in
theorem PT.hold_ok (h : PT w r T O) (hT : TrLv T) (n : Int) (hw : (Lit.int .i64 n).wf = true) (hhx : ∀ b x, T n = some (.file b x) → x + 1 ≤ 1000) :
    Calls Tryz.prog 57 #[wp r, .int .i64 n] w fun e w' => e = .returned (uev (holdE T n 1)) ∧ PT w' r (holdN T n 1) O ∧ Stp w w' O O := by
  obtain ⟨gN, s, B, G, V, h⟩ := h
  by_cases hz : fileT T n = 0
  · obtain ⟨b, x, hn⟩ := fileT_zero hz
    have hF := h.file_ok n hw hn
    have hx := hhx b x hn
    have hb := (hT.small n b x hn).1
    obtain ⟨_, _, _, n3⟩ := h.fcell hn
    have nf := h.nfrozen hn 3
    have hE : holdE T n 1 = 0 := by unfold holdE; rw [hn]; simp only; rw [if_neg (by omega)]
    have hT' := hT.setF (b' := b) (x' := x + 1) hn hb hx (.inl (by omega))
    have hN : holdN T n 1 = setT T n (.file b (x + 1)) := by
      unfold holdN; rw [hn]; simp only
      rw [if_neg (by omega), show ((x : Int) + 1).toNat = x + 1 by omega]
      exact sweep_none hT'.toTrOk hT'.lv
    have h1 := h.held hn (x + 1)
    have hcast : (((x + 1 : Nat) : Int)) = (x : Int) + 1 := by omega
    rw [hcast] at h1
    have hfin : PT (w.setCell ⟨B n, 3, none⟩ (.int .i64 ((x : Int) + 1))) r (holdN T n 1) O := by
      rw [hN]
      exact ⟨gN, s, B, G, V, h1.as rfl (fun k _ => cnt_setF hn k)⟩
    have hst : Stp w (w.setCell ⟨B n, 3, none⟩ (.int .i64 ((x : Int) + 1))) O O := .cell _ (h.ownB n (by rw [hn]; rfl))
    have hwx : wrap64 ((x : Int) + 1) = (x : Int) + 1 := by unfold wrap64; omega
    rw [hE, uev_zero]
    clear h1 hT' hN hn hz hT hE hcast
    go_enter Tryz.func57, Tryz.ntmps57
    go_wp2_with (go_at_call 64; refine hF.mono ?_; rintro e w' ⟨rfl, hw'⟩; subst w')
    go_ret
    exact ⟨rfl, hfin, hst⟩
  · have hF := h.file_bad n hw hz
    have hE : holdE T n 1 = fileT T n := by
      unfold holdE
      cases hn : T n with
      | none => rfl
      | some nd => cases nd with
        | dir C => rfl
        | file b x => exact absurd (by unfold fileT; rw [hn]) hz
    have hN : holdN T n 1 = T := by
      unfold holdN
      cases hn : T n with
      | none => rfl
      | some nd => cases nd with
        | dir C => rfl
        | file b x => exact absurd (by unfold fileT; rw [hn]) hz
    rw [hE, hN, uev_ne hz]
    generalize fileT T n = z at *
    go_enter Tryz.func57, Tryz.ntmps57
    go_wp2_with (go_at_call 64; refine hF.mono ?_; rintro e w' ⟨rfl, hw'⟩; subst w')
    go_ret
    exact ⟨rfl, ⟨gN, s, B, G, V, h⟩, .refl _ _⟩

theorem TrOk.era (hT : TrOk T) {n : Int} (h0 : n ≠ 0) (hc : cntT T n = 0) : TrOk (eraT T n) := by
  have hsub : ∀ k nd, eraT T n k = some nd → T k = some nd := fun k nd e => by
    by_cases e1 : k = n
    · subst e1; rw [eraT_same] at e; cases e
    · rw [eraT_other e1] at e; exact e
  have hl : ¬ Led T n := fun h => by
    rcases (led_cnt hT n).1 h with e | e
    · exact h0 e
    · exact e hc
  refine ⟨?_, fun k e => hT.key k ?_, fun k C e => hT.nodup k C (hsub k _ e), fun k C sx m e e2 => ?_, fun k C x e => hT.name k C x (hsub k _ e), fun k b x e => hT.small k b x (hsub k _ e)⟩
  · obtain ⟨C, e⟩ := hT.root
    exact ⟨C, by rw [eraT_other (Ne.symm h0)]; exact e⟩
  · cases h : eraT T n k with
    | none => rw [h] at e; cases e
    | some nd => rw [hsub k nd h]; rfl
  · have := hT.child k C sx m (hsub k _ e) e2
    rw [eraT_other (fun em => hl (.inr ⟨k, C, sx, hsub k _ e, by rw [← em]; exact e2⟩))]
    exact this
/-- A node that no name leads to and nobody holds goes. -/
theorem TrLv.era (hT : TrOk T) (hnr : cntT T 0 = 0) {n : Int} {nd : Nd} (hl : ∀ k nd, k ≠ n → T k = some nd → k = 0 ∨ cntT T k ≠ 0 ∨ heldT nd ≠ 0) (hn : T n = some nd) (h0 : n ≠ 0) (hc : cntT T n = 0) (h1 : ∀ k, cnt1 (T n) k = 0) : TrLv (eraT T n) :=
  { toTrOk := hT.era h0 hc
    nr := by rw [cnt_era h1]; exact hnr
    lv := fun k nd' e => by
      rw [cnt_era h1]
      by_cases e1 : k = n
      · subst e1; rw [eraT_same] at e; cases e
      · rw [eraT_other e1] at e; exact hl k nd' e1 e }
end
end Go.Proofs.YtjkneekfijibiabGreatDoor
