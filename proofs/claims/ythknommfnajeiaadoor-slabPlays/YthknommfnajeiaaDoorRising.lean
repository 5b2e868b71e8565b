/- Package slab's frames, rising, by the library's contracts; the library's two counters of bits. -/
import Derived.Test.YthknommfnajeiaaDoorCache
import Derived.Test.YthknommfnajeiaaDoorShelf5
import Derived.Deep.QuietTactic
import Derived.BigQuiet
import Derived.Shelf.Small.Bits
namespace Go.Proofs.YthknommfnajeiaaDoor
open Go.RowKit Go.Shelf Go.Lib Go.Sort Go.Maps

theorem sorts_in (m : Nat) : AnyZI.SortsIn Tryd.prog Tryd.sortedL_ren Fence.wide m :=
  ⟨fun blk off cap ss W hH hblk hsz => callsIn_wide.2 (AnyM.slices_Sort_int Tryd.sortIL blk off cap ss W hH hblk hsz),
   fun p cap W => callsIn_wide.2 (AnyM.slices_Sort_int_none Tryd.sortIL p cap W)⟩

set_option maxHeartbeats 1000000 in
theorem frames_ok {w : World} {c b per g s : Nat} {C : Int → Option Nat} (h : Ch w c b per g s C) (hs : s ≤ 1000) :
    Calls Tryd.prog 64 #[cp c] w fun e w' => ∃ v ks, e = .returned v ∧ Ks C ks ∧ ks.length = s ∧ w'.ownsRow w.heap.size 3 1 v ks.length (ks.map encZ) ∧ Below w.heap.size w w' := by
  obtain ⟨D, hown, hsz, hnd, hlen, hmem⟩ := h.map.data
  have h2 := h.c2
  have hbl := h.mlt
  refine (callsIn_wide (n := 6)).1 ?_
  have hseq : SeqGives Fence.wide 2 Tryd.prog 104 #[.pointer (some ⟨w.heap.size, 0, none⟩)] encZ (fun ss => ss.Perm (Go.intKeys D)) (Maps.size D) (w.alloc (.cells #[.map (some g)] 109)) :=
    AnyZI.keys_gives (ρ := Tryd.keysL_ren) { Tryd.keysL with } Fence.wide _ trivial rfl (by omega) w.heap.size g s D _ (by simp) (by simp) (by
      obtain ⟨es, clock, hb, Ft, hs, hD⟩ := hown
      exact ⟨es, clock, (Below.heap_alloc _ _ g hbl).trans hb, Ft, hs, hD⟩)
  have cK : ∀ mb W, CallsIn Fence.wide 5 Tryd.prog 84 #[.map mb] W fun e w' => e = .returned (.func (.func 104) #[] #[.pointer (some ⟨W.heap.size, 0, none⟩)]) ∧ w' = W.alloc (.cells #[.map mb] 109) := fun mb W => AnyZI.keys_in Tryd.keysL Fence.wide 5 trivial rfl mb W
  have cS := AnyZI.sorted_in Tryd.sortedL Fence.wide 5 trivial trivial trivial trivial rfl (by omega) (sorts_in _) (enters_of Tryd.func79 (by kernel_rfl) rfl) 104 #[.pointer (some ⟨w.heap.size, 0, none⟩)] trivial (enters_of Tryd.func104 (by kernel_rfl) rfl) _ _ (by rw [hsz]; unfold maxLen; omega) (by omega) _ hseq
  change CallsIn _ _ Tryd.prog 83 _ _ _ at cS
  have hfK : Fence.wide.fn 84 := trivial
  have hfS : Fence.wide.fn 83 := trivial
  refine callsIn_of_wp Tryd.func64 rfl trivial ?_ rfl
  simp only [Tryd.ntmps64, List.size_toArray, List.length_cons, List.length_nil, Nat.reduceAdd, Nat.reduceSub, Array.replicate_succ, Array.replicate_zero, List.push_toArray, List.append_toArray, List.nil_append, List.cons_append]
  gi_wp2_with (first
    | (gi_at_call 84; refine (cK _ _).mono ?_; rintro e w' ⟨rfl, rfl⟩)
    | (gi_at_call 83; refine cS.mono ?_; rintro e w' ⟨v, ss, rfl, hS, hrow, hnil, hb⟩))
  go_ret
  have hn : ss.Nodup := hS.nodup_iff.2 hnd
  refine ⟨v, ss.mergeSort (fun x y => decide (x ≤ y)), rfl, ⟨sorted_keys hn, fun x => ?_⟩, by rw [List.length_mergeSort, hS.length_eq, hlen], ?_, ((Below.refl _ w).alloc (Nat.le_refl _) _).trans (hb.mono (by simp))⟩
  · rw [(List.mergeSort_perm ss _).mem_iff, hS.mem_iff, hmem, cm_isSome]
  · rw [List.length_mergeSort]; exact ownsRow_base_a hrow (by simp)

/-- The table of math/bits, as it was laid. -/
def Tab (w : World) : Prop := TabAt 1 Lib.deBruijn32tab w
theorem Tab.lt {w : World} (h : Tab w) : 1 < w.heap.size := World.block_lt_of_cell? w _ (h 0 (by decide))
theorem Tab.keep {w w' : World} (h : Tab w) (hb : w'.heap[1]? = w.heap[1]?) : Tab w' := fun j hj => by
  rw [World.cell?_of_block (w := w) (a := ⟨1, j, none⟩) hb]; exact h j hj

theorem low_call (m : Nat) (hm : m < 65536) (w : World) (hT : Tab w) : Calls Tryd.prog 63 #[.int .u32 ((4294967295 - m : Nat) : Int)] w fun e w' => e = .returned (.int .i64 (low m)) ∧ w' = w :=
  Any7.bits_TrailingZeros32 Tryd.tzL (4294967295 - m) (by omega) w (fun _ => hT)

theorem fold_pop : (⟨(([0, 1, 1, 2, 1, 2, 2, 3, 1, 2, 2, 3, 2, 3, 3, 4, 1, 2, 2, 3, 2, 3, 3, 4, 2, 3, 3, 4, 3, 4, 4, 5, 1, 2, 2, 3, 2, 3, 3, 4, 2, 3, 3, 4, 3, 4, 4, 5, 2, 3, 3, 4, 3, 4, 4, 5, 3, 4, 4, 5, 4, 5, 5, 6].append [1, 2, 2, 3, 2, 3, 3, 4, 2, 3, 3, 4, 3, 4, 4, 5, 2, 3, 3, 4, 3, 4, 4, 5, 3, 4, 4, 5, 4, 5, 5, 6, 2, 3, 3, 4, 3, 4, 4, 5, 3, 4, 4, 5, 4, 5, 5, 6, 3, 4, 4, 5, 4, 5, 5, 6, 4, 5, 5, 6, 5, 6, 6, 7]).append ([1, 2, 2, 3, 2, 3, 3, 4, 2, 3, 3, 4, 3, 4, 4, 5, 2, 3, 3, 4, 3, 4, 4, 5, 3, 4, 4, 5, 4, 5, 5, 6, 2, 3, 3, 4, 3, 4, 4, 5, 3, 4, 4, 5, 4, 5, 5, 6, 3, 4, 4, 5, 4, 5, 5, 6, 4, 5, 5, 6, 5, 6, 6, 7].append [2, 3, 3, 4, 3, 4, 4, 5, 3, 4, 4, 5, 4, 5, 5, 6, 3, 4, 4, 5, 4, 5, 5, 6, 4, 5, 5, 6, 5, 6, 6, 7, 3, 4, 4, 5, 4, 5, 5, 6, 4, 5, 5, 6, 5, 6, 6, 7, 4, 5, 5, 6, 5, 6, 6, 7, 5, 6, 6, 7, 6, 7, 7, 8])).toArray⟩ : ByteArray) = Lib.pop8tab := by kernel_rfl

set_option maxRecDepth 100000 in
set_option maxHeartbeats 4000000 in
theorem ones_call (m : Nat) (hm : m < 65536) (w : World) : Calls Tryd.prog 65 #[.int .u32 (m : Int)] w fun e w' => e = .returned (.int .i64 (ones m)) ∧ ∃ q, w' = w.drewN q := by
  have e0 := ones_eq hm
  have hf := fold_pop
  have m1 : (m : Int) / 16777216 = 0 := by omega
  have m2 : (m : Int) / 65536 = 0 := by omega
  have m3 : bits BinOp.and IntKind.u32 ((m : Int) / 256) 255 = ((m / 256 : Nat) : Int) := by
    have := bits_and_u32_nat (m / 256) 255 (by omega) (by omega)
    rw [show (255 : Nat) = 2 ^ 8 - 1 from rfl, Nat.and_two_pow_sub_one_eq_mod, Nat.mod_eq_of_lt (by omega)] at this
    exact this
  have m4 : bits BinOp.and IntKind.u32 (m : Int) 255 = ((m % 256 : Nat) : Int) := by
    have := bits_and_u32_nat m 255 (by omega) (by omega)
    rw [show (255 : Nat) = 2 ^ 8 - 1 from rfl, Nat.and_two_pow_sub_one_eq_mod] at this
    exact this
  have m5 : bits BinOp.and IntKind.u32 0 255 = 0 := by kernel_rfl
  have m6 : pop8 0 = 0 := by kernel_rfl
  have n1 : 0 ≤ ((m / 256 : Nat) : Int) ∧ ((m / 256 : Nat) : Int) ≤ 255 := by omega
  have n2 : 0 ≤ ((m % 256 : Nat) : Int) ∧ ((m % 256 : Nat) : Int) ≤ 255 := by omega
  generalize m / 256 = a at *
  generalize m % 256 = b at *
  go_enter Tryd.func65, Tryd.ntmps65
  go_upto_region 1 with fail
  go_quiet (fail)
  clear hf m1 m2 m3 m4 m5 m6 hm
  have e1 := pop8_eq ⟨a, by omega⟩
  have e2 := pop8_eq ⟨b, by omega⟩
  have l1 := onesCount_le8 ⟨a, by omega⟩
  have l2 := onesCount_le8 ⟨b, by omega⟩
  simp only at e1 e2 l1 l2
  have e : (pop8 (a : Int) + pop8 (b : Int)) % 256 = ((ones m : Nat) : Int) := by rw [e1, e2, e0]; omega
  rw [e]
  go_wp2_with fail
  go_ret
  exact ⟨rfl, _, rfl⟩
end Go.Proofs.YthknommfnajeiaaDoor
