/- Package tree: what is asked of a file by its number: Size, Hold, Drop, by their Go text. -/
import Derived.Test.YtjkneekfijibiabGreatDoorUMem
namespace Go.Proofs.YtjkneekfijibiabGreatDoor
open Go.RowKit Go.Maps

/-- How many nodes there are. -/
def IsNum (T : Wd) (s : Nat) : Prop := ∃ ks : List Int, ks.Nodup ∧ ks.length = s ∧ ∀ x, x ∈ ks ↔ (T x).isSome = true
theorem perm_len {a b : List Int} (ha : a.Nodup) (hb : b.Nodup) (h : ∀ x, x ∈ a ↔ x ∈ b) : a.length = b.length := ((List.perm_ext_iff_of_nodup ha hb).2 h).length_eq
theorem IsNum.one {T : Wd} {s s' : Nat} (h : IsNum T s) (h' : IsNum T s') : s = s' := by
  obtain ⟨a, ha, rfl, ma⟩ := h
  obtain ⟨b, hb, rfl, mb⟩ := h'
  exact perm_len ha hb (fun x => (ma x).trans (mb x).symm)
theorem PMap.num {w : World} {g s : Nat} {T : Wd} {f : Int → Nd → Value} (h : PMap w g s (fun k => (T k).map (f k))) : IsNum T s := by
  obtain ⟨D, _, _, hn, hl, hm⟩ := h.data
  exact ⟨_, hn, hl, fun x => by rw [hm x]; cases T x <;> rfl⟩
theorem IsNum.pos {T : Wd} {s : Nat} (h : IsNum T s) (hT : TrOk T) : 1 ≤ s := by
  obtain ⟨ks, _, rfl, m⟩ := h
  obtain ⟨C, e⟩ := hT.root
  exact List.length_pos_of_mem ((m 0).2 (by rw [e]; rfl))
theorem sub_len : ∀ {a b : List Int}, a.Nodup → a ⊆ b → a.length ≤ b.length
  | [], _, _, _ => Nat.zero_le _
  | x :: t, b, hn, hs => by
    rw [List.nodup_cons] at hn
    have hx : x ∈ b := hs List.mem_cons_self
    have h1 := sub_len (b := b.erase x) hn.2 (fun y hy => (List.mem_erase_of_ne (fun e => hn.1 (by rw [← e]; exact hy))).2 (hs (List.mem_cons_of_mem _ hy)))
    have h2 := List.length_erase_of_mem hx
    have h3 := List.length_pos_of_mem hx
    rw [List.length_cons]; omega
/-- The least number that no node has is at most how many there are. -/
theorem IsNum.free {T : Wd} {s : Nat} (h : IsNum T s) {k : Nat} (hk : ∀ i : Nat, i < k → (T i).isSome = true) : k ≤ s := by
  obtain ⟨ks, hn, rfl, m⟩ := h
  have hsub : ((List.range k).map (fun i : Nat => (i : Int))) ⊆ ks := fun x hx => by
    obtain ⟨i, hi, rfl⟩ := List.mem_map.1 hx
    exact (m _).2 (hk i (List.mem_range.1 hi))
  have hnd : ((List.range k).map (fun i : Nat => (i : Int))).Nodup := List.pairwise_map.2 (List.nodup_range.imp (fun {a b} h e => h (by omega)))
  have := sub_len hnd hsub
  simpa using this

/-- A tree whose counts are right. -/
def PT (w : World) (r : Nat) (T : Wd) (O : Nat → Prop) : Prop := ∃ gN s B G V, PTr w r gN s T (cntT T) B G V O

section
variable {w w' : World} {r gN s : Nat} {T : Wd} {Z : Int → Nat} {B G : Int → Nat} {V : Int → Value} {O : Nat → Prop}

theorem PT.below (h : PT w r T O) (hb : Below w.heap.size w w') : PT w' r T O := by
  obtain ⟨gN, s, B, G, V, h⟩ := h
  exact ⟨gN, s, B, G, V, h.below hb⟩
theorem PT.keep (h : PT w r T O) (hk : ∀ i, O i → w'.heap[i]? = w.heap[i]?) (hs : w.heap.size ≤ w'.heap.size) : PT w' r T O := by
  obtain ⟨gN, s, B, G, V, h⟩ := h
  exact ⟨gN, s, B, G, V, h.keep hk hs⟩
theorem PT.lt (h : PT w r T O) (i : Nat) (hi : O i) : i < w.heap.size := by
  obtain ⟨gN, s, B, G, V, h⟩ := h
  exact h.lt i hi
theorem PTr.num (h : PTr w r gN s T Z B G V O) : IsNum T s := h.map.num (f := fun k _ => wp (B k))
theorem PT.nodes_ok (h : PT w r T O) {s : Nat} (hs : IsNum T s) : Calls Tryz.prog 13 #[wp r] w fun e w' => e = .returned (.int .i64 (s : Int)) ∧ w' = w := by
  obtain ⟨gN, s', B, G, V, h⟩ := h
  rw [hs.one h.num]
  exact h.nodes_ok
theorem PT.num (h : PT w r T O) : ∃ s, IsNum T s := by
  obtain ⟨gN, s, B, G, V, h⟩ := h
  exact ⟨s, h.num⟩

theorem ptr_ne (b : Nat) (w : World) : (binOp BinOp.eql 106 (wp b) (.pointer none)).run Tryz.prog w = .ok (.bool false) w := by kernel_rfl
theorem ptr_nil (w : World) : (binOp BinOp.eql 106 (.pointer none) (.pointer none)).run Tryz.prog w = .ok (.bool true) w := by kernel_rfl

set_option maxRecDepth 100000 in
set_option maxHeartbeats 2000000 in
theorem PTr.file_bad (h : PTr w r gN s T Z B G V O) (n : Int) (hw : (Lit.int .i64 n).wf = true) (hz : fileT T n ≠ 0) :
    Calls Tryz.prog 64 #[wp r, .int .i64 n] w fun e w' => e = .returned (.tuple #[.pointer none, uer (fileT T n)]) ∧ w' = w := by
  have c0 := h.c0
  have hlk := h.look n hw
  cases hn : T n with
  | none =>
    have e : fileT T n = 7 := by unfold fileT; rw [hn]
    rw [e]
    rw [hn] at hlk
    simp only [Option.isSome_none, Bool.false_eq_true, if_false] at hlk
    have h9 := ptr_nil
    go_enter Tryz.func64, Tryz.ntmps64
    go_wp2_with fail
    go_ret2
    exact ⟨rfl, rfl⟩
  | some nd =>
    cases nd with
    | dir C =>
      have e : fileT T n = 6 := by unfold fileT; rw [hn]
      rw [e]
      rw [hn] at hlk
      simp only [Option.isSome_some, if_true] at hlk
      have h9 := ptr_ne (B n)
      obtain ⟨n0, _⟩ := h.dcell hn
      have hID := isDir_yes n0
      go_enter Tryz.func64, Tryz.ntmps64
      go_wp2_with (go_at_call 98; refine hID.mono ?_; rintro e w' ⟨rfl, hw'⟩; subst w')
      go_ret2
      exact ⟨rfl, rfl⟩
    | file b x => exact absurd (by unfold fileT; rw [hn]) hz

set_option maxRecDepth 100000 in
set_option maxHeartbeats 2000000 in
theorem PTr.file_ok (h : PTr w r gN s T Z B G V O) (n : Int) (hw : (Lit.int .i64 n).wf = true) {b : List UInt8} {x : Nat} (hn : T n = some (.file b x)) :
    Calls Tryz.prog 64 #[wp r, .int .i64 n] w fun e w' => e = .returned (.tuple #[wp (B n), .nilIface]) ∧ w' = w := by
  have c0 := h.c0
  have hlk := h.look n hw
  rw [hn] at hlk
  simp only [Option.isSome_some, if_true] at hlk
  have h9 := ptr_ne (B n)
  obtain ⟨n0, _⟩ := h.fcell hn
  have hID := isDir_no n0
  go_enter Tryz.func64, Tryz.ntmps64
  go_wp2_with (go_at_call 98; refine hID.mono ?_; rintro e w' ⟨rfl, hw'⟩; subst w')
  go_ret2
  exact ⟨rfl, rfl⟩

def sizeS (T : Wd) (n : Int) : Int := match T n with
  | some (.file b _) => (b.length : Int)
  | _ => 0
theorem Dat.len {v : Value} {b : List UInt8} (h : Dat w v b) : ∃ a c, v = .slice a b.length c := by
  rcases h with ⟨rfl, rfl⟩ | ⟨g, c, rfl, _⟩
  · exact ⟨none, 0, rfl⟩
  · exact ⟨_, c, rfl⟩
end
end Go.Proofs.YtjkneekfijibiabGreatDoor
