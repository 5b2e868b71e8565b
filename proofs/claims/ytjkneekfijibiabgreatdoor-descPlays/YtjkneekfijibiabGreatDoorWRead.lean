/- The document's own tree in memory; where names lead, by its Go text. -/
import Derived.Test.YtjkneekfijibiabGreatDoorWNames
import Derived.Test.YtjkneekfijibiabGreatDoorWBuf2
import Derived.Test.YtjkneekfijibiabGreatDoorRangesDel
import Derived.RegionTactic
import Derived.ChangeAlike
namespace Go.Proofs.YtjkneekfijibiabGreatDoor
open Go.RowKit Go.Maps

/-- A node of the document's, as a value. -/
def ndv (G : Int → Nat) (k : Int) : Nd → Value
  | .dir _ => .agg #[.map (some (G k)), .bool true, tx [], .int .i64 0]
  | .file b h => .agg #[.map none, .bool false, tx b, .int .i64 (h : Int)]
/-- No node. -/
abbrev nd0 : Value := .agg #[.map none, .bool false, tx [], .int .i64 0]
theorem zero_node (w : World) : (zeroValue 113).run Tryz.prog w = .ok nd0 w := by kernel_rfl
theorem node_f0 (m : Option Nat) (b : Bool) (l : List UInt8) (h : Int) (W : World) : (Instr.field 113 (.agg #[.map m, .bool b, tx l, .int .i64 h]) 0).run Tryz.prog W = .ok (.map m) W := by kernel_rfl
theorem node_f1 (m : Option Nat) (b : Bool) (l : List UInt8) (h : Int) (W : World) : (Instr.field 113 (.agg #[.map m, .bool b, tx l, .int .i64 h]) 1).run Tryz.prog W = .ok (.bool b) W := by kernel_rfl
theorem node_f2 (m : Option Nat) (b : Bool) (l : List UInt8) (h : Int) (W : World) : (Instr.field 113 (.agg #[.map m, .bool b, tx l, .int .i64 h]) 2).run Tryz.prog W = .ok (tx l) W := by kernel_rfl
theorem node_f3 (m : Option Nat) (b : Bool) (l : List UInt8) (h : Int) (W : World) : (Instr.field 113 (.agg #[.map m, .bool b, tx l, .int .i64 h]) 3).run Tryz.prog W = .ok (.int .i64 h) W := by kernel_rfl

structure RTr (w : World) (r gN s : Nat) (T : Wd) (G : Int → Nat) : Prop where
  head : w.heap[r]? = some (.cells #[.map (some gN)] 35)
  map : PMap w gN s (fun k => (T k).map (ndv G k))
  dirs : ∀ k C, T k = some (.dir C) → SMap w (G k) C.length (fun nm => (C.lookup nm).map (.int .i64 ·))
  sep : ∀ k C, T k = some (.dir C) → G k ≠ gN
  inj : ∀ k k' C C', T k = some (.dir C) → T k' = some (.dir C') → G k = G k' → k = k'

/-- Its blocks. -/
def town (r gN : Nat) (T : Wd) (G : Int → Nat) (i : Nat) : Prop := i = r ∨ i = gN ∨ ∃ k C, T k = some (.dir C) ∧ i = G k

section
variable {w w' : World} {r gN s : Nat} {T : Wd} {G : Int → Nat}
theorem RTr.c0 (h : RTr w r gN s T G) : w.cell? ⟨r, 0, none⟩ = some (.map (some gN)) := by rw [cell_of_row w r 0 _ _ _ h.head]; rfl
theorem RTr.keep (h : RTr w r gN s T G) (hk : ∀ i, town r gN T G i → w'.heap[i]? = w.heap[i]?) : RTr w' r gN s T G :=
  ⟨(hk r (.inl rfl)).trans h.head, h.map.keep (hk gN (.inr (.inl rfl))), fun k C e => (h.dirs k C e).keep (hk _ (.inr (.inr ⟨k, C, e, rfl⟩))), h.sep, h.inj⟩
theorem RTr.lt (h : RTr w r gN s T G) {i : Nat} (ht : town r gN T G i) : i < w.heap.size := by
  rcases ht with rfl | rfl | ⟨k, C, e, rfl⟩
  · exact World.block_lt_of_cell? w _ h.c0
  · exact h.map.lt
  · exact (h.dirs k C e).lt
theorem RTr.below (h : RTr w r gN s T G) (hb : Below w.heap.size w w') : RTr w' r gN s T G := h.keep (fun i ht => hb.block i (h.lt ht))

theorem node_dir {k : Int} {C : List (Nm × Int)} (e : T k = some (.dir C)) : ((T k).map (ndv G k)).getD nd0 = .agg #[.map (some (G k)), .bool true, tx [], .int .i64 0] := by rw [e]; rfl
theorem node_file {k : Int} {b : List UInt8} {h : Nat} (e : T k = some (.file b h)) : ((T k).map (ndv G k)).getD nd0 = .agg #[.map none, .bool false, tx b, .int .i64 (h : Int)] := by rw [e]; rfl

set_option maxRecDepth 100000 in
set_option maxHeartbeats 2000000 in
theorem RTr.lead_ok (h : RTr w r gN s T G) (hT : TrOk T) (v : Value) (l : List Nm) (hv : Txts w v l) (hlb : l.length ≤ 100001) (hnm : ∀ x ∈ l, x.length ≤ maxLen) :
    Calls Tryz.prog 112 #[wp r, v] w fun e w' => e = .returned (.tuple #[.int .i64 (leadT T 0 l).1, .int .i64 (leadT T 0 l).2]) ∧ w' = w := by
  have c0 := h.c0
  have hmap := h.map
  have f0 := node_f0
  have f1 := node_f1
  have hv' : ∃ a c, v = .slice a l.length c ∧ ∀ i (hi : i < l.length), ∃ b o, a = some ⟨b, o, none⟩ ∧ w.cell? ⟨b, o + i, none⟩ = some (tx l[i]) := by
    rcases hv with ⟨rfl, a, c, rfl⟩ | ⟨b, o, c, rfl, hc, _, hi⟩
    · exact ⟨a, c, rfl, fun i hi => by simp at hi⟩
    · exact ⟨_, c, rfl, fun i h' => ⟨b, o, rfl, hi i h'⟩⟩
  obtain ⟨a, c, rfl, hcell⟩ := hv'
  obtain ⟨N, hN⟩ : ∃ N, l.length = N := ⟨_, rfl⟩
  obtain ⟨R, hR⟩ : ∃ R, leadT T 0 l = R := ⟨_, rfl⟩
  rw [hR, hN]
  go_enter Tryz.func112, Tryz.ntmps112
  go_wp2_with fail
  go_loopg [6, 13] N (fun mm s6 s13 wr => ∃ (i : Nat) (n : Int), i + mm = N ∧ s13 = .int .i64 (i : Int) ∧ s6 = .int .i64 n ∧ (T n).isSome = true ∧ leadT T n (l.drop i) = R ∧ wr = w)
  case atStart => exact ⟨0, 0, by omega, rfl, rfl, by obtain ⟨C, e⟩ := hT.root; rw [e]; rfl, by rw [List.drop_zero]; exact hR, rfl⟩
  case round =>
    obtain ⟨i, n, hi, rfl, rfl, hn, hl, hw⟩ := hrel
    subst hw
    by_cases hlt : (i : Int) < (N : Int)
    · have hil : i < l.length := by omega
      obtain ⟨b, o, rfl, ci⟩ := hcell i hil
      rw [List.drop_eq_getElem_cons hil] at hl
      have hxm := hnm l[i] (List.getElem_mem hil)
      obtain ⟨x, hx⟩ : ∃ x, l[i] = x := ⟨_, rfl⟩
      rw [hx] at hl ci hxm
      have hnk := hT.key n hn
      have hwf : (Lit.int .i64 n).wf = true := wf_few hnk.1 (by omega)
      clear hx hcell hnm
      by_cases hd : ∃ C, T n = some (.dir C)
      · obtain ⟨C, hC⟩ := hd
        have hg := node_dir (G := G) hC
        have hSm := h.dirs n C hC
        have hch := hT.child n C x
        cases hlk : C.lookup x with
        | none =>
          rw [leadT_miss _ hC hlk] at hl
          subst hl
          clear h hT hch
          go_wp2_with (first
            | (at_lookup; refine wpList_klook rfl _ _ 33 rfl 113 Tryz.underlying33 _ (zero_node _) gN _ _ rfl hmap n rfl hwf ?_; rw [hg])
            | (at_lookup; refine wpList_sask rfl _ _ 111 rfl 3 Tryz.underlying111 _ (zero_num _) (G n) _ _ rfl hSm x rfl hxm ?_; simp only [hlk, Option.map_none, Option.getD_none, Option.isSome_none]))
          go_ret2
          exact ⟨rfl, rfl⟩
        | some n' =>
          rw [leadT_step _ hC hlk] at hl
          have hn' := hch n' hC hlk
          clear h hT hch
          go_wp2_with (first
            | (at_lookup; refine wpList_klook rfl _ _ 33 rfl 113 Tryz.underlying33 _ (zero_node _) gN _ _ rfl hmap n rfl hwf ?_; rw [hg])
            | (at_lookup; refine wpList_sask rfl _ _ 111 rfl 3 Tryz.underlying111 _ (zero_num _) (G n) _ _ rfl hSm x rfl hxm ?_; simp only [hlk, Option.map_some, Option.getD_some, Option.isSome_some]))
          go_roundg (gk - 1)
          case measure => omega
          case rel => exact ⟨i + 1, n', by omega, by go_num, rfl, hn', hl, rfl⟩
      · rw [leadT_file _ (fun C e => hd ⟨C, e⟩)] at hl
        subst hl
        obtain ⟨fb, fh, hF⟩ : ∃ fb fh, T n = some (.file fb fh) := by
          cases e : T n with
          | none => rw [e] at hn; cases hn
          | some nd => cases nd with
            | dir C => exact absurd ⟨C, e⟩ hd
            | file fb fh => exact ⟨fb, fh, rfl⟩
        have hg := node_file (G := G) hF
        clear h hT hd
        go_wp2_with (at_lookup; refine wpList_klook rfl _ _ 33 rfl 113 Tryz.underlying33 _ (zero_node _) gN _ _ rfl hmap n rfl hwf ?_; rw [hg])
        go_ret2
        exact ⟨rfl, rfl⟩
    · have hiN : i = N := by omega
      subst hiN
      rw [List.drop_eq_nil_of_le (by omega), leadT_nil] at hl
      subst hl
      go_wp2_with fail
      go_ret2
      exact ⟨rfl, rfl⟩
end
end Go.Proofs.YtjkneekfijibiabGreatDoor

namespace Go.Proofs.YtjkneekfijibiabGreatDoor
open Go.RowKit Go.Maps

/-- A node's four cells. -/
theorem node_cells {W : World} {i : Nat} {a b c d : Value} (h : W.heap[i]? = some (.cells #[a, b, c, d] 113)) : (W.cell? ⟨i, 0, none⟩ = some a ∧ W.cell? ⟨i, 1, none⟩ = some b ∧ W.cell? ⟨i, 2, none⟩ = some c ∧ W.cell? ⟨i, 3, none⟩ = some d) ∧ ∀ j, W.frozen? ⟨i, j, none⟩ = false := by
  refine ⟨⟨?_, ?_, ?_, ?_⟩, fun j => by simp [World.frozen?, h]⟩ <;> (rw [cell_of_row W i _ _ _ _ h]; rfl)

section
variable {w w' : World} {r gN s : Nat} {T : Wd} {G : Int → Nat}

theorem RTr.rne (h : RTr w r gN s T G) : r ≠ gN := by
  rintro rfl
  obtain ⟨es, cl, hm⟩ := h.map.isMap
  rw [h.head] at hm; cases hm
/-- A file's node put anew. -/
theorem RTr.put (h : RTr w r gN s T G) {n : Int} {b b' : List UInt8} {x x' : Nat} (hn : T n = some (.file b x)) (hg : w.grownBy w' (some gN))
    (pm : PMap w' gN (if ((T n).map (ndv G n)).isSome then s else s + 1) (fun i => if i = n then some (.agg #[.map none, .bool false, tx b', .int .i64 (x' : Int)]) else (T i).map (ndv G i))) : RTr w' r gN s (setT T n (.file b' x')) G := by
  have hk : ∀ i, i < w.heap.size → i ≠ gN → w'.heap[i]? = w.heap[i]? := fun i hi hne => hg.block i hi (fun e => hne (Option.some.inj e))
  have hd : ∀ k C, setT T n (.file b' x') k = some (.dir C) → T k = some (.dir C) := fun k C e => by
    by_cases e1 : k = n
    · subst e1; rw [setT_same] at e; cases e
    · rw [setT_other _ e1] at e; exact e
  refine ⟨(hk r (h.lt (.inl rfl)) h.rne).trans h.head, ?_, fun k C e => (h.dirs k C (hd k C e)).keep (hk _ (h.dirs k C (hd k C e)).lt (h.sep k C (hd k C e))), fun k C e => h.sep k C (hd k C e), fun k k' C C' e e' => h.inj k k' C C' (hd k C e) (hd k' C' e')⟩
  rw [hn] at pm
  have e : (fun i => if i = n then some (.agg #[.map none, .bool false, tx b', .int .i64 (x' : Int)]) else (T i).map (ndv G i)) = fun k => (setT T n (.file b' x') k).map (ndv G k) := by
    funext k; unfold setT; by_cases e1 : k = n <;> simp [e1, ndv]
  rw [e] at pm
  exact pm

set_option maxRecDepth 100000 in
set_option maxHeartbeats 2000000 in
theorem RTr.file_ok (h : RTr w r gN s T G) (n : Int) (hw : (Lit.int .i64 n).wf = true) :
    Calls Tryz.prog 115 #[wp r, .int .i64 n] w fun e w' => e = .returned (.int .i64 (fileT T n)) ∧ Below w.heap.size w w' := by
  have c0 := h.c0
  have hmap := h.map
  have hB : ∀ o, Below w.heap.size w (w.alloc o) := fun o => (Below.refl _ _).alloc (Nat.le_refl _) o
  cases hn : T n with
  | none =>
    have e : fileT T n = 7 := by unfold fileT; rw [hn]
    rw [e]
    go_enter Tryz.func115, Tryz.ntmps115
    go_wp2_with (at_lookup; refine wpList_kask rfl _ _ 33 rfl 113 Tryz.underlying33 _ (zero_node _) gN _ _ rfl hmap n rfl hw ?_; simp only [hn, Option.map_none, Option.getD_none, Option.isSome_none])
    go_ret
    exact ⟨rfl, hB _⟩
  | some nd =>
    cases nd with
    | dir C =>
      have e : fileT T n = 6 := by unfold fileT; rw [hn]
      rw [e]
      go_enter Tryz.func115, Tryz.ntmps115
      go_wp2_with (at_lookup; refine wpList_kask rfl _ _ 33 rfl 113 Tryz.underlying33 _ (zero_node _) gN _ _ rfl hmap n rfl hw ?_; simp only [hn, Option.map_some, Option.getD_some, Option.isSome_some, ndv])
      go_ret
      exact ⟨rfl, hB _⟩
    | file b x =>
      have e : fileT T n = 0 := by unfold fileT; rw [hn]
      rw [e]
      go_enter Tryz.func115, Tryz.ntmps115
      go_wp2_with (at_lookup; refine wpList_kask rfl _ _ 33 rfl 113 Tryz.underlying33 _ (zero_node _) gN _ _ rfl hmap n rfl hw ?_; simp only [hn, Option.map_some, Option.getD_some, Option.isSome_some, ndv])
      go_ret
      exact ⟨rfl, hB _⟩
end
end Go.Proofs.YtjkneekfijibiabGreatDoor

namespace Go.Proofs.YtjkneekfijibiabGreatDoor
open Go.RowKit Go.Maps

theorem tx_len (s : List UInt8) : (⟨s.toArray⟩ : ByteArray).size = s.length := by simp [ByteArray.size]

section
variable {w w' : World} {r gN s : Nat} {T : Wd} {G : Int → Nat}

set_option maxRecDepth 100000 in
set_option maxHeartbeats 4000000 in
theorem RTr.read_ok (h : RTr w r gN s T G) (hT : TrOk T) (n at' m : Int) (hw : (Lit.int .i64 n).wf = true) :
    Calls Tryz.prog 61 #[wp r, .int .i64 n, .int .i64 at', .int .i64 m] w fun e w' => e = .returned (.tuple #[tx (readS T n at' m), .int .i64 (readE T n at' m)]) ∧ Below w.heap.size w w' := by
  have hF := h.file_ok n hw
  by_cases hf : fileT T n = 0
  · obtain ⟨b, x, hn⟩ := fileT_zero hf
    rw [hf] at hF
    by_cases hs0 : at' < 0 ∨ m < 0
    · have e1 : readE T n at' m = 2 := by unfold readE; rw [if_neg (fun e => e hf), if_pos hs0]
      have e2 : readS T n at' m = [] := by unfold readS; rw [hn]; simp only [if_pos hs0]
      rw [e1, e2]
      by_cases ha : at' < 0
      · go_enter Tryz.func61, Tryz.ntmps61
        go_wp2_with fail
        refine hF.mono ?_
        rintro e w1 ⟨rfl, b1⟩
        go_wp2_with fail
        go_ret2
        exact ⟨rfl, b1⟩
      · have hm : m < 0 := hs0.resolve_left ha
        go_enter Tryz.func61, Tryz.ntmps61
        go_wp2_with fail
        refine hF.mono ?_
        rintro e w1 ⟨rfl, b1⟩
        go_wp2_with fail
        go_ret2
        exact ⟨rfl, b1⟩
    · have ha : ¬ at' < 0 := fun e => hs0 (.inl e)
      have hm : ¬ m < 0 := fun e => hs0 (.inr e)
      have e1 : readE T n at' m = 0 := by unfold readE; rw [if_neg (fun e => e hf), if_neg hs0]
      have e2 : readS T n at' m = (b.drop at'.toNat).take m.toNat := by unfold readS; rw [hn]; simp only [if_neg hs0]
      obtain ⟨R, hR⟩ : ∃ R, readS T n at' m = R := ⟨_, rfl⟩
      rw [hR] at e2
      rw [e1, hR]
      have hbs := (hT.small n b x hn).1
      obtain ⟨N, hN⟩ : ∃ N, b.length = N := ⟨_, rfl⟩
      rw [hN] at hbs
      have htl := tx_len b
      rw [hN] at htl
      go_enter Tryz.func61, Tryz.ntmps61
      go_wp2_with fail
      refine hF.mono ?_
      rintro e w1 ⟨rfl, b1⟩
      have h1 := h.below b1
      have c0 := h1.c0
      have hmap := h1.map
      have hg := node_file (G := G) hn
      have f2 := node_f2 none false b (x : Int)
      clear hF h1 h hT
      go_wp2_with (at_lookup; refine wpList_klook rfl _ _ 33 rfl 113 Tryz.underlying33 _ (zero_node _) gN _ _ rfl hmap n rfl hw ?_; rw [hg])
      go_loopg [11, 13] N (fun mm s11 s13 wr => ∃ (j : Nat), j + mm = N ∧ (j : Int) ≤ m ∧ (0 < j → at' + (j : Int) ≤ (N : Int)) ∧ s13 = .int .i64 (at' + (j : Int)) ∧ s11 = tx ((b.drop at'.toNat).take j) ∧ wr = w1)
      case atStart => exact ⟨0, by omega, by omega, fun e => absurd e (by omega), by rw [show at' + ((0 : Nat) : Int) = at' by omega], rfl, rfl⟩
      case round =>
        obtain ⟨j, hj, hjm, hjN, rfl, rfl, hw1⟩ := hrel
        subst hw1
        by_cases hlt : at' + (j : Int) < (N : Int)
        · have hil : at'.toNat + j < b.length := by omega
          have hkl : ((b.drop at'.toNat).take j).length = j := by rw [List.length_take, List.length_drop]; omega
          have htk := tx_len ((b.drop at'.toNat).take j)
          rw [hkl] at htk
          by_cases hjl : (j : Int) < m
          · have hsl := wtext_one b (at'.toNat + j) hil
            rw [show ((at'.toNat + j : Nat) : Int) = at' + (j : Int) by omega] at hsl
            have hcat := wtext_cat ((b.drop at'.toNat).take j) [b[at'.toNat + j]]
            have hnx : (b.drop at'.toNat).take j ++ [b[at'.toNat + j]] = (b.drop at'.toNat).take (j + 1) := by
              rw [List.take_add_one, List.getElem?_drop, List.getElem?_eq_getElem hil]; rfl
            rw [hnx] at hcat
            generalize (b.drop at'.toNat).take j = u at *
            generalize b[at'.toNat + j] = bb at *
            go_wp2_with fail
            go_roundg (gk - 1)
            case measure => omega
            case rel => exact ⟨j + 1, by omega, by omega, fun _ => by omega, by go_num, rfl, rfl⟩
          · have hu : (b.drop at'.toNat).take j = R := by rw [e2, show m.toNat = j by omega]
            rw [hu] at htk ⊢
            go_wp2_with fail
            go_ret2
            exact ⟨rfl, b1⟩
        · have hu : (b.drop at'.toNat).take j = R := by
            rw [e2, List.take_of_length_le (by rw [List.length_drop]; omega), List.take_of_length_le (by rw [List.length_drop]; omega)]
          rw [hu]
          go_wp2_with fail
          go_ret2
          exact ⟨rfl, b1⟩
  · have e1 : readE T n at' m = fileT T n := by unfold readE; rw [if_pos hf]
    have e2 : readS T n at' m = [] := by
      unfold readS
      cases e : T n with
      | none => rfl
      | some nd => cases nd with
        | dir C => rfl
        | file b x => exact absurd (by unfold fileT; rw [e]) hf
    have hq : (fileT T n == 0) = false := by simp [hf]
    rw [e1, e2]
    generalize fileT T n = c at *
    go_enter Tryz.func61, Tryz.ntmps61
    go_wp2_with fail
    refine hF.mono ?_
    rintro e w1 ⟨rfl, b1⟩
    go_wp2_with fail
    go_ret2
    exact ⟨rfl, b1⟩
end
end Go.Proofs.YtjkneekfijibiabGreatDoor
