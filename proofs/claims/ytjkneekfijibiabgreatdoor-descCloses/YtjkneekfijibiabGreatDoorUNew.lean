/- Package tree: Mkdir, Create, New, by their Go text. -/
import Derived.Test.YtjkneekfijibiabGreatDoorUAdd
namespace Go.Proofs.YtjkneekfijibiabGreatDoor
open Go.RowKit Go.Maps

section
variable {w w' : World} {r gN s : Nat} {T : Wd} {Z : Int → Nat} {B G : Int → Nat} {V : Int → Value} {O : Nat → Prop}

set_option maxHeartbeats 1000000 in
theorem newDir_ok (w : World) : Calls Tryz.prog 48 #[] w fun e w' => e = .returned (wp (w.heap.size + 1)) ∧ w' = (w.alloc (.map #[] 0)).alloc (.cells #[.map (some w.heap.size), .slice none 0 0, .int .i64 0, .int .i64 0] 128) := by
  have hmm := @run_makeMap Tryz.prog
  go_enter Tryz.func48, Tryz.ntmps48
  go_wp2_with fail
  go_ret
  exact ⟨rfl, rfl⟩

/-- What Mkdir and Create answer. -/
def MkR (w : World) (r : Nat) (T : Wd) (O : Nat → Prop) (s : Nat) (p : List UInt8) (dir : Bool) (e : Ending) (w' : World) : Prop :=
  (makeE T s p ≠ 0 ∧ e = .returned (.tuple #[.int .i64 0, uer (makeE T s p)]) ∧ PT w' r T O ∧ Stp w w' O O) ∨
  (makeE T s p = 0 ∧ ∃ k O', IsFree T k ∧ k < 64 ∧ e = .returned (.tuple #[.int .i64 k, .nilIface]) ∧ PT w' r (makeN T p dir k) O' ∧ Stp w w' O O')

set_option maxRecDepth 100000 in
set_option maxHeartbeats 2000000 in
theorem PT.create_ok (h : PT w r T O) (hT : TrLv T) (hs : IsNum T s) (p : List UInt8) (hp : p.length < 100000) (m : Int) (hm : w.cell? ⟨2, 0, none⟩ = some (.int .i64 m)) (hC : ∀ k C, T k = some (.dir C) → C.length ≤ 1000) :
    Calls Tryz.prog 15 #[wp r, tx p] w (MkR w r T O s p false) := by
  obtain ⟨gN, s', B, G, V, h⟩ := h
  obtain rfl := hs.one h.num
  have bA : Below w.heap.size w (w.alloc (.cells #[.map none, .slice none 0 0, .int .i64 0, .int .i64 0] 128)) := (Below.refl _ _).alloc (Nat.le_refl _) _
  have hA := h.below bA
  have hmA := maxLen_kept hm bA
  by_cases hE : makeE T s p = 0
  · have hAdd := hA.add_yes hT p w.heap.size 0 false hp m hmA hC (World.alloc_heap_new _ _) (fun ho => by have := h.lt _ ho; omega) (fun e => by cases e) hE
    go_enter Tryz.func15, Tryz.ntmps15
    go_wp2_with (go_at_call 63; refine hAdd.mono ?_; rintro e w1 ⟨k, hk, hk64, rfl, h1, wt1⟩)
    go_ret2
    refine .inr ⟨hE, k, _, hk, hk64, rfl, h1, ⟨⟨wt1.os, wt1.tape, wt1.output, Nat.le_trans bA.size wt1.size, fun i hi hn => ?_⟩, fun i hi => ?_⟩⟩
    · refine (wt1.block i (Nat.lt_of_lt_of_le hi bA.size) (fun ho => ?_)).trans (bA.block i hi)
      rcases ho with ho | rfl | ⟨_, e⟩
      · exact hn ho
      · omega
      · cases e
    · rcases hi with ho | rfl | ⟨_, e⟩
      · exact .inl ho
      · exact .inr (Nat.le_refl _)
      · cases e
  · have hAdd := hA.add_no hT.toTrOk p w.heap.size hp m hmA hE
    have hfin : ∀ e w', e = .returned (.tuple #[.int .i64 0, uer (makeE T s p)]) → Below w.heap.size w w' → MkR w r T O s p false e w' := fun e w' he b => .inl ⟨hE, he, ⟨gN, s, B, G, V, h.below b⟩, .below b⟩
    generalize makeE T s p = z at *
    go_enter Tryz.func15, Tryz.ntmps15
    go_wp2_with (go_at_call 63; refine hAdd.mono ?_; rintro e w1 ⟨rfl, b1⟩)
    go_ret2
    exact hfin _ _ rfl (bA.trans (b1.mono bA.size))

/-- A tree of a directory without names. -/
def nullT : Wd := fun k => if k = 0 then some (.dir []) else none
theorem nullT_node {k : Int} {nd : Nd} (h : nullT k = some nd) : k = 0 ∧ nd = .dir [] := by
  unfold nullT at h
  by_cases e : k = 0
  · rw [if_pos e] at h; cases h; exact ⟨e, rfl⟩
  · rw [if_neg e] at h; cases h
theorem nullT_cnt (k : Int) : cntT nullT k = 0 := by
  by_cases e : cntT nullT k = 0
  · exact e
  · obtain ⟨i, _, hi⟩ := cntTo_pos 64 e
    exfalso
    apply hi
    cases h : nullT (i : Int) with
    | none => rfl
    | some nd => obtain ⟨_, rfl⟩ := nullT_node h; rfl
theorem nullT_lv : TrLv nullT :=
  { root := ⟨[], rfl⟩
    key := fun k h => by
      cases e : nullT k with
      | none => rw [e] at h; cases h
      | some nd => obtain ⟨rfl, _⟩ := nullT_node e; omega
    nodup := fun k C h => by obtain ⟨_, e⟩ := nullT_node h; cases e; exact List.nodup_nil
    child := fun k C s n h hl => by obtain ⟨_, e⟩ := nullT_node h; cases e; cases hl
    name := fun k C x h hx => by obtain ⟨_, e⟩ := nullT_node h; cases e; cases hx
    small := fun k b x h => by obtain ⟨_, e⟩ := nullT_node h; cases e
    nr := nullT_cnt 0
    lv := fun k nd h => .inl (nullT_node h).1 }

set_option maxRecDepth 100000 in
set_option maxHeartbeats 4000000 in
theorem new_ok (w : World) : Calls Tryz.prog 9 #[] w fun e w' => ∃ r O, e = .returned (wp r) ∧ PT w' r nullT O ∧ Below w.heap.size w w' ∧ ∀ i, O i → w.heap.size ≤ i := by
  have hmm := @run_makeMap Tryz.prog
  have hz1 : (w.alloc (.map #[] 0)).heap.size = w.heap.size + 1 := by simp
  have hND := newDir_ok (w.alloc (.map #[] 0))
  rw [hz1] at hND
  have hp0 := PMap.made w
  have bA : Below w.heap.size w (((w.alloc (.map #[] 0)).alloc (.map #[] 0)).alloc (.cells #[.map (some (w.heap.size + 1)), .slice none 0 0, .int .i64 0, .int .i64 0] 128)) := (((Below.refl _ _).alloc (Nat.le_refl _) _).alloc (by rw [hz1]; omega) _).alloc (by simp; omega) _
  have hszA : (((w.alloc (.map #[] 0)).alloc (.map #[] 0)).alloc (.cells #[.map (some (w.heap.size + 1)), .slice none 0 0, .int .i64 0, .int .i64 0] 128)).heap.size = w.heap.size + 3 := by simp
  have hpA : PMap (((w.alloc (.map #[] 0)).alloc (.map #[] 0)).alloc (.cells #[.map (some (w.heap.size + 1)), .slice none 0 0, .int .i64 0, .int .i64 0] 128)) w.heap.size 0 (fun _ => none) := (hp0.keep (Below.heap_alloc _ _ _ (by rw [hz1]; omega))).keep (Below.heap_alloc _ _ _ (by simp; omega))
  have hsA : SMap (((w.alloc (.map #[] 0)).alloc (.map #[] 0)).alloc (.cells #[.map (some (w.heap.size + 1)), .slice none 0 0, .int .i64 0, .int .i64 0] 128)) (w.heap.size + 1) 0 (fun _ => none) := by
    have := SMap.made (w.alloc (.map #[] 0))
    rw [hz1] at this
    exact this.keep (Below.heap_alloc _ _ _ this.lt)
  have hnA : (((w.alloc (.map #[] 0)).alloc (.map #[] 0)).alloc (.cells #[.map (some (w.heap.size + 1)), .slice none 0 0, .int .i64 0, .int .i64 0] 128)).heap[w.heap.size + 2]? = some (.cells #[.map (some (w.heap.size + 1)), .slice none 0 0, .int .i64 0, .int .i64 0] 128) := by
    have := two_alloc (w.alloc (.map #[] 0)) (.map #[] 0) (.cells #[.map (some (w.heap.size + 1)), .slice none 0 0, .int .i64 0, .int .i64 0] 128)
    rwa [hz1] at this
  generalize ((w.alloc (.map #[] 0)).alloc (.map #[] 0)).alloc (.cells #[.map (some (w.heap.size + 1)), .slice none 0 0, .int .i64 0, .int .i64 0] 128) = wA at *
  obtain ⟨w1, hrun, pm1, g1⟩ := hpA.put Tryz.underlying108 (by unfold maxLen; omega) 0 (by decide) (wp (w.heap.size + 2))
  have hkp : ∀ i, i < w.heap.size + 3 → i ≠ w.heap.size → w1.heap[i]? = wA.heap[i]? := fun i hi hne => g1.block i (by rw [hszA]; exact hi) (fun e => hne (Option.some.inj e))
  have b1 : Below w.heap.size w w1 := bA.grown g1 (by omega) (fun k e => by cases e; omega)
  have hz9 : w.heap.size + 3 ≤ w1.heap.size := by have := g1.size; omega
  have hfin : PT (w1.alloc (.cells #[.map (some w.heap.size)] 110)) w1.heap.size nullT (fun i => w.heap.size ≤ i ∧ i < w1.heap.size + 1) := by
    have hal : ∀ i, i < w1.heap.size → (w1.alloc (.cells #[.map (some w.heap.size)] 110)).heap[i]? = w1.heap[i]? := fun i hi => Below.heap_alloc _ _ _ hi
    refine ⟨w.heap.size, 1, fun _ => w.heap.size + 2, fun _ => w.heap.size + 1, fun _ => .slice none 0 0, World.alloc_heap_new _ _, ?_, fun k nd e => ?_, fun k C e => ?_, fun k b x e => ?_, fun k C e => by omega, fun k k' C C' e e' _ => ?_, fun k k' e e' _ => ?_, ⟨by omega, by omega⟩, ⟨by omega, by omega⟩, fun k _ => ⟨by omega, by omega⟩, fun k C _ => ⟨by omega, by omega⟩, fun k b x i e => ?_, fun i hi => by simp; omega⟩
    · have e : (fun i => if i = (0 : Int) then some (wp (w.heap.size + 2)) else (fun _ => none) i) = fun k => (nullT k).map (fun _ => wp (w.heap.size + 2)) := by
        funext i; unfold nullT; by_cases e : i = 0 <;> simp [e]
      rw [← e]
      exact pm1.keep (hal _ (by omega))
    · obtain ⟨rfl, rfl⟩ := nullT_node e
      rw [hal _ (by omega), hkp _ (by omega) (by omega), hnA]
      simp [ncells, nullT_cnt]
    · obtain ⟨rfl, e9⟩ := nullT_node e
      cases e9
      exact (hsA.keep (hkp _ (by omega) (by omega))).keep (hal _ (by omega))
    · obtain ⟨_, e9⟩ := nullT_node e; cases e9
    · rw [(nullT_node e).1, (nullT_node e').1]
    · cases h1 : nullT k with
      | none => rw [h1] at e; cases e
      | some nd => cases h2 : nullT k' with
        | none => rw [h2] at e'; cases e'
        | some nd' => rw [(nullT_node h1).1, (nullT_node h2).1]
    · obtain ⟨_, e9⟩ := nullT_node e; cases e9
  have b2 : Below w.heap.size w (w1.alloc (.cells #[.map (some w.heap.size)] 110)) := b1.alloc b1.size _
  clear pm1 g1 hkp hpA hsA hnA bA b1
  go_enter Tryz.func9, Tryz.ntmps9
  go_wp2_with (go_at_call 48; refine hND.mono ?_; rintro e w' ⟨rfl, hw'⟩; subst w')
  go_ret
  exact ⟨w1.heap.size, _, rfl, hfin, b2, fun i hi => hi.1⟩
end
end Go.Proofs.YtjkneekfijibiabGreatDoor
