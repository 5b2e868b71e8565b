/- The document's cache as it lies in memory: things by their numbers, its frames as a row; how many a frame has; Give. -/
import Derived.Test.YthknommfnajeiaaDoorReap3
import Derived.Test.YthknommfnajeiaaDoorRefGive
import Derived.Test.YthknommfnajeiaaDoorOwn3
namespace Go.Proofs.YthknommfnajeiaaDoor
open Go.RowKit Go.Shelf Go.Lib Go.Sort Go.Maps

/-- Things by their numbers. -/
def th (per : Nat) (C : Int → Option Nat) : Int → Option Value := fun k => if isT per C k then some (.int .i64 1) else none
theorem th_val (per : Nat) (C : Int → Option Nat) (k : Int) : (th per C k).getD (.int .i64 0) = .int .i64 (if isT per C k then 1 else 0) := by
  unfold th; cases isT per C k <;> rfl
theorem th_same {per : Nat} {C C' : Int → Option Nat} (h : ∀ k, isT per C k = isT per C' k) : th per C = th per C' := by
  funext k; unfold th; rw [h k]

/-- What is the document's cache's. -/
def ro (rc r f g gt : Nat) (vs : Value) (i : Nat) : Prop := i = rc ∨ rown r f g i ∨ i = gt ∨ vs.ownBlock = some i

structure RS (w : World) (B rc r f g gt per n : Nat) (vs : Value) (L : List Int) (C : Int → Option Nat) (U : Nat → Bool) (T : Int → Option Nat) (m : Nat) : Prop where
  head : w.heap[rc]? = some (.cells #[pp r, .int .i64 (per : Int), .map (some gt), vs] 73)
  map : PMap w gt (tot C n) (th per C)
  row : w.ownsRow B 3 1 vs L.length (L.map encZ)
  pool : RAt w r f g n U T m
  keys : Ks C L
  inv : Inv n U T
  tk : ∀ x, (C x).isSome = true → T x = some 0
  per1 : 1 ≤ per
  per16 : per ≤ 16
  most : Most per C
  rcr : ¬ rown r f g rc
  gtr : ¬ rown r f g gt
  vsr : ∀ i, vs.ownBlock = some i → ¬ rown r f g i ∧ i ≠ rc ∧ i ≠ gt

section
variable {w w' : World} {B rc r f g gt per n m : Nat} {vs : Value} {L : List Int} {C : Int → Option Nat} {U : Nat → Bool} {T : Int → Option Nat}
theorem RS.rcgt (h : RS w B rc r f g gt per n vs L C U T m) : rc ≠ gt := by
  rintro rfl
  obtain ⟨es, cl, hm⟩ := h.map.isMap
  rw [h.head] at hm; cases hm
theorem RS.n256 (h : RS w B rc r f g gt per n vs L C U T m) : n ≤ 256 := h.pool.small
theorem RS.within (h : RS w B rc r f g gt per n vs L C U T m) : Within C n := fun x hx => by
  obtain ⟨_, p, hp, hf⟩ := h.inv.tk x 0 (h.tk x hx)
  have := (hf _ (first_in 0 p)).1
  rw [hp]; exact ⟨by omega, by omega⟩
theorem RS.keysIn (h : RS w B rc r f g gt per n vs L C U T m) : (∀ x ∈ L, 0 ≤ x ∧ x < 256) ∧ L.length ≤ 256 := by
  have hn := h.n256
  have h1 := num_le C n
  refine ⟨fun x hx => ?_, ?_⟩
  · have := h.within x ((h.keys.2 x).1 hx); omega
  · rw [num_keys h.keys h.within]; omega
theorem RS.c0 (h : RS w B rc r f g gt per n vs L C U T m) : w.cell? ⟨rc, 0, none⟩ = some (pp r) := by rw [cell_of_row w rc 0 _ _ _ h.head]; rfl
theorem RS.c1 (h : RS w B rc r f g gt per n vs L C U T m) : w.cell? ⟨rc, 1, none⟩ = some (.int .i64 (per : Int)) := by rw [cell_of_row w rc 1 _ _ _ h.head]; rfl
theorem RS.c2 (h : RS w B rc r f g gt per n vs L C U T m) : w.cell? ⟨rc, 2, none⟩ = some (.map (some gt)) := by rw [cell_of_row w rc 2 _ _ _ h.head]; rfl
theorem RS.c3 (h : RS w B rc r f g gt per n vs L C U T m) : w.cell? ⟨rc, 3, none⟩ = some vs := by rw [cell_of_row w rc 3 _ _ _ h.head]; rfl
theorem RS.fz (h : RS w B rc r f g gt per n vs L C U T m) (k : Nat) : w.frozen? ⟨rc, k, none⟩ = false := by simp [World.frozen?, h.head]
theorem RS.lt (h : RS w B rc r f g gt per n vs L C U T m) {i : Nat} (hi : ro rc r f g gt vs i) : i < w.heap.size := by
  rcases hi with rfl | hi | rfl | hi
  · exact lt_of_heap h.head
  · exact h.pool.lt hi
  · exact h.map.lt
  · exact (World.ownsRow.lt h.row i hi).2
theorem RS.keep (h : RS w B rc r f g gt per n vs L C U T m) (hk : ∀ i, ro rc r f g gt vs i → w'.heap[i]? = w.heap[i]?) : RS w' B rc r f g gt per n vs L C U T m := by
  refine ⟨(hk rc (.inl rfl)).trans h.head, h.map.keep (hk gt (.inr (.inr (.inl rfl)))), ⟨h.row.1, ?_⟩, h.pool.keep (fun i hi => hk i (.inr (.inl hi))), h.keys, h.inv, h.tk, h.per1, h.per16, h.most, h.rcr, h.gtr, h.vsr⟩
  rcases h.row.2 with h' | ⟨gb, cap, cur, rfl, hN, hg, rest⟩
  · exact .inl h'
  · exact .inr ⟨gb, cap, cur, rfl, hN, (hk gb (.inr (.inr (.inr rfl)))).trans hg, rest⟩
theorem RS.below (h : RS w B rc r f g gt per n vs L C U T m) (hb : Below w.heap.size w w') : RS w' B rc r f g gt per n vs L C U T m := h.keep (fun i hi => hb.block i (h.lt hi))

/-- It turned; all else is as it was. -/
def RTurns (w : World) (B rc r f g gt per n : Nat) (vs : Value) (w' : World) (C : Int → Option Nat) (U : Nat → Bool) (T : Int → Option Nat) (m : Nat) : Prop :=
  ∃ vs' L', RS w' B rc r f g gt per n vs' L' C U T m ∧ Fr (ro rc r f g gt vs) w w' ∧ ∀ i, i < w.heap.size → ro rc r f g gt vs' i → ro rc r f g gt vs i

theorem isT_at {per : Nat} {C : Int → Option Nat} {F k : Nat} (hk : k < per) : isT per C ((F : Int) * per + k) = (val C (F : Int)).testBit k := by
  have hd := div_at (per := per) (F : Int) hk
  rw [isT, hd.1, hd.2, decide_eq_true (by have := Int.mul_nonneg (Int.natCast_nonneg F) (Int.natCast_nonneg per); omega)]
  rfl

theorem RS.look (h : RS w B rc r f g gt per n vs L C U T m) (x : Int) (hx : (Lit.int .i64 x).wf = true) : (Instr.lookup 65 (.map (some gt)) (.int .i64 x) false).run Tryd.prog w = .ok (.int .i64 (if isT per C x then 1 else 0)) w := by
  rw [← th_val]; exact h.map.look Tryd.underlying65 (zero_int w) x hx

set_option maxRecDepth 100000 in
set_option maxHeartbeats 4000000 in
theorem rhas_at {s : Nat} (c1 : w.cell? ⟨rc, 1, none⟩ = some (.int .i64 (per : Int))) (c2 : w.cell? ⟨rc, 2, none⟩ = some (.map (some gt))) (hmap : PMap w gt s (th per C)) (hp16 : per ≤ 16) (hM : Most per C) (F : Nat) (hF : F < 256) : Calls Tryd.prog 60 #[pp rc, .int .i64 (F : Int)] w fun e w' => e = .returned (.int .i64 (ones (val C (F : Int)) : Nat)) ∧ ∃ q, w' = w.drewN q := by
  have hv := hM.val (F : Int)
  have hones := ones_per hp16 hv
  obtain ⟨y, hy⟩ : ∃ y, F * per = y := ⟨_, rfl⟩
  have hyI : (F : Int) * (per : Int) = (y : Int) := by rw [← hy]; simp
  have hy4 : y ≤ 4096 := by
    have := Nat.mul_le_mul (show F ≤ 256 by omega) hp16; omega
  have hbit : ∀ k : Nat, k < per → isT per C ((y : Int) + (k : Int)) = (val C (F : Int)).testBit k := fun k hk => by rw [← hyI]; exact isT_at hk
  rw [hones]
  go_enter Tryd.func60, Tryd.ntmps60
  go_wp2_with fail
  go_loopg [5, 11] per (fun mm s5 s11 wr => ∃ k q : Nat, k + mm = per ∧ s11 = .int .i64 k ∧ s5 = .int .i64 (cnt (fun j => (val C (F : Int)).testBit j) 0 k : Nat) ∧ wr = w.drewN q)
  case atStart => exact ⟨0, 0, by omega, rfl, rfl, rfl⟩
  case round =>
    obtain ⟨k, q, hk, rfl, rfl, hwr⟩ := hrel
    subst wr
    have hcl := cnt_le (fun j => (val C (F : Int)).testBit j) k 0
    by_cases hlt : (k : Int) < (per : Int)
    · have hkp : k < per := by omega
      have hb := hbit k hkp
      have hwf : (Lit.int .i64 ((y : Int) + (k : Int))).wf = true := wf_small (by omega) (by omega)
      have hl : ∀ q, (Instr.lookup 65 (.map (some gt)) (.int .i64 ((y : Int) + (k : Int))) false).run Tryd.prog (w.drewN q) = .ok (.int .i64 (if isT per C ((y : Int) + (k : Int)) then 1 else 0)) (w.drewN q) := fun q => by rw [← th_val]; exact (hmap.keep (w' := w.drewN q) rfl).look Tryd.underlying65 (zero_int _) _ hwf
      have hc1 : cnt (fun j => (val C (F : Int)).testBit j) 0 (k + 1) = cnt (fun j => (val C (F : Int)).testBit j) 0 k + if (val C (F : Int)).testBit k then 1 else 0 := by rw [cnt_succ, Nat.zero_add]
      rw [hb] at hl
      clear hy hbit
      cases hbv : (val C (F : Int)).testBit k with
      | true =>
        rw [hbv] at hl hc1
        simp only [if_true] at hl hc1
        generalize hc0 : cnt (fun j => (val C (F : Int)).testBit j) 0 k = c0 at *
        go_upto_region 5 with fail
        go_quiet (fail)
        go_wp2_with fail
        go_roundg (per - (k + 1))
        case measure => omega
        case rel => exact ⟨k + 1, q + nq, by omega, by go_num, by rw [hc1]; go_num, rfl⟩
      | false =>
        rw [hbv] at hl hc1
        simp only [Bool.false_eq_true, if_false] at hl hc1
        generalize hc0 : cnt (fun j => (val C (F : Int)).testBit j) 0 k = c0 at *
        go_upto_region 5 with fail
        go_quiet (fail)
        go_wp2_with fail
        go_roundg (per - (k + 1))
        case measure => omega
        case rel => exact ⟨k + 1, q + nq, by omega, by go_num, by rw [hc1]; go_num, rfl⟩
    · have hkp : k = per := by omega
      subst hkp
      go_wp2_with fail
      go_ret
      exact ⟨rfl, q, rfl⟩

theorem rhas_ok (h : RS w B rc r f g gt per n vs L C U T m) (F : Nat) (hF : F < 256) : Calls Tryd.prog 60 #[pp rc, .int .i64 (F : Int)] w fun e w' => e = .returned (.int .i64 (ones (val C (F : Int)) : Nat)) ∧ ∃ q, w' = w.drewN q :=
  rhas_at h.c1 h.c2 h.map h.per16 h.most F hF

set_option maxRecDepth 100000 in
set_option maxHeartbeats 4000000 in
theorem rcgive_ok (h : RS w B rc r f g gt per n vs L C U T m) (k : Int) (hk : (Lit.int .i64 k).wf = true) : Calls Tryd.prog 37 #[pp rc, .int .i64 k] w fun e w' => (isT per C k = false ∧ e = .returned (.int .i64 7) ∧ w' = w) ∨ (isT per C k = true ∧ e = .returned (.int .i64 0) ∧ RTurns w B rc r f g gt per n vs w' (putC C (k / per) (drop (val C (k / per)) (k % per).toNat)) U T m) := by
  have c2 := h.c2
  have hth := th_val per C k
  have hmap := h.map
  cases hT : isT per C k with
  | false =>
    rw [hT] at hth
    simp only [Bool.false_eq_true, if_false] at hth
    go_enter Tryd.func37, Tryd.ntmps37
    go_wp2_with (at_lookup; refine wpList_klook rfl _ _ 65 rfl 3 Tryd.underlying65 _ (zero_int _) gt (tot C n) (th per C) rfl hmap k rfl hk ?_; rw [hth])
    go_ret
    exact .inl ⟨trivial, rfl, rfl⟩
  | true =>
    rw [hT] at hth
    simp only [if_true] at hth
    have hT' := hT
    unfold isT at hT'
    simp only [Bool.and_eq_true, decide_eq_true_eq] at hT'
    have hsf : (C (k / per)).isSome = true := some_of_val (fun e => by rw [e] at hT'; simp at hT')
    have hf := h.within _ hsf
    have hr : (k % (per : Int)).toNat < per := by
      have hp1 := h.per1
      have := Int.emod_lt_of_pos k (show (0 : Int) < per by omega)
      have := Int.emod_nonneg k (show (per : Int) ≠ 0 by omega)
      omega
    have hp16 := h.per16
    have htot : tot (putC C (k / per) (drop (val C (k / per)) (k % per).toNat)) n + 1 = tot C n := by
      have hd := ones_drop (show (k % (per : Int)).toNat < 16 by omega) hT'.2
      obtain ⟨F, hF⟩ : ∃ F : Nat, k / (per : Int) = F := ⟨(k / (per : Int)).toNat, by omega⟩
      rw [hF] at hd ⊢
      exact tot_del (show F < n by rw [hF] at hf; omega) hd
    have hdel : (fun i => if i = k then none else th per C i) = th per (putC C (k / per) (drop (val C (k / per)) (k % per).toNat)) := by
      funext i
      have := isT_del h.per1 hT i
      unfold th
      by_cases e : i = k
      · subst e
        have hn : isT per (putC C (i / per) (drop (val C (i / per)) (i % per).toNat)) i = false := by
          cases e2 : isT per (putC C (i / per) (drop (val C (i / per)) (i % per).toNat)) i with
          | false => rfl
          | true => exact absurd rfl (this.1 e2).2
        rw [if_pos rfl, hn]; rfl
      · rw [if_neg e]
        have he : isT per (putC C (k / per) (drop (val C (k / per)) (k % per).toNat)) i = isT per C i := by
          apply Bool.eq_iff_iff.2; rw [this]; exact ⟨fun h => h.1, fun h => ⟨h, e⟩⟩
        rw [he]
    have hsome : (th per C k).isSome = true := by unfold th; rw [hT]; rfl
    go_enter Tryd.func37, Tryd.ntmps37
    go_wp2_with (first
      | (at_lookup; refine wpList_klook rfl _ _ 65 rfl 3 Tryd.underlying65 _ (zero_int _) gt (tot C n) (th per C) rfl hmap k rfl hk ?_; rw [hth])
      | (at_delete; refine wpList_kdel rfl _ _ 65 rfl 3 Tryd.underlying65 gt (tot C n) (th per C) rfl hmap k rfl hk ?_; intro w5 pm5 g5; rw [hsome, hdel] at pm5))
    go_ret
    refine ⟨rfl, vs, L, ⟨?_, ?_, ⟨h.row.1, ?_⟩, ?_, ⟨h.keys.1, fun x => ?_⟩, h.inv, fun x hx => ?_, h.per1, h.per16, h.most.put (drop_lt (h.most.val _) hr), h.rcr, h.gtr, h.vsr⟩, (Fr.grown g5).mono (fun i _ e => .inr (.inr (.inl e))), fun _ _ hi => hi⟩
    · exact (g5.block rc (h.lt (.inl rfl)) (fun e => h.rcgt (Option.some.inj e))).trans h.head
    · rw [show tot (putC C (k / per) (drop (val C (k / per)) (k % per).toNat)) n = tot C n - 1 by omega]; simpa using pm5
    · rcases h.row.2 with h' | ⟨gb, cap, cur, rfl, hN, hg, rest⟩
      · exact .inl h'
      · exact .inr ⟨gb, cap, cur, rfl, hN, (g5.block gb (lt_of_heap hg) (fun e => (h.vsr gb rfl).2.2 (Option.some.inj e))).trans hg, rest⟩
    · exact h.pool.keep (fun i hi => g5.block i (h.pool.lt hi) (fun e => h.gtr (by cases e; exact hi)))
    · rw [h.keys.2 x]; unfold putC; split
      · rename_i e; rw [e, hsf]; simp
      · exact Iff.rfl
    · refine h.tk x ?_
      unfold putC at hx; split at hx
      · rename_i e; rw [e]; exact hsf
      · exact hx
end
end Go.Proofs.YthknommfnajeiaaDoor
