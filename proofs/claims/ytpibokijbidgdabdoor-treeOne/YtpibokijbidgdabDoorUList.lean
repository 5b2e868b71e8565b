/- Package tree: List, by its Go text. -/
import Derived.Test.YtpibokijbidgdabDoorUWrite
import Derived.Test.YtpibokijbidgdabDoorSKeys2
import Derived.Test.YtpibokijbidgdabDoorShelfW
namespace Go.Proofs.YtpibokijbidgdabDoor
open Go.RowKit Go.Maps Go.Sort Go.Shelf

theorem sortsS_in (m : Nat) : AnyZ.SortsIn Tryd.prog Tryd.sortedSL_ren Fence.wide m :=
  ⟨fun blk off cap ss W hH hblk hsz => callsIn_wide.2 (AnyM.slices_Sort_string Tryd.sortSL blk off cap ss W hH hblk hsz),
   fun p cap W => callsIn_wide.2 (AnyM.slices_Sort_string_none Tryd.sortSL p cap W)⟩

/-- Texts in an array of the call's own. -/
def TxR (w : World) (B : Nat) (v : Value) (L : List Nm) : Prop := w.ownsRow B 9 1 v L.length (L.map encStr)

section
variable {w w' : World} {r gN s : Nat} {T : Wd} {Z : Int → Nat} {B G : Int → Nat} {V : Int → Value} {O : Nat → Prop}

set_option maxRecDepth 100000 in
set_option maxHeartbeats 4000000 in
theorem PT.list_ok (h : PT w r T O) (hT : TrLv T) (p : List UInt8) (hp : p.length < 100000) (m : Int) (hm : w.cell? ⟨1, 0, none⟩ = some (.int .i64 m)) {C : List (Nm × Int)} (hE : (findT T p).2 = 0) (hn : T (findT T p).1 = some (.dir C)) (hCl : C.length ≤ 1000) :
    Calls Tryd.prog 37 #[wp r, tx p] w fun e w' => ∃ v, e = .returned (.tuple #[v, .nilIface]) ∧ TxR w' w.heap.size v (listT C) ∧ Below w.heap.size w w' := by
  obtain ⟨gN, s, B, G, V, h⟩ := h
  have hTok := hT.toTrOk
  have hs1 := h.num.pos hTok
  have hF := h.find_ok hTok hs1 p hp m hm
  have hkey := hT.key _ (show (T (findT T p).1).isSome = true by rw [hn]; rfl)
  have hwf : (Lit.int .i64 (findT T p).1).wf = true := wf_few hkey.1 (by omega)
  rw [hE, uev_zero] at hF
  generalize (findT T p).1 = k at *
  have hstep : ∀ w1, Below w.heap.size w w1 → w1.cell? ⟨r, 0, none⟩ = some (.map (some gN)) ∧ (Instr.lookup 131 (.map (some gN)) (.int .i64 k) false).run Tryd.prog w1 = .ok (wp (B k)) w1 ∧ w1.cell? ⟨B k, 0, none⟩ = some (.map (some (G k))) ∧ SMap w1 (G k) C.length (fun nm => (C.lookup nm).map (.int .i64 ·)) := fun w1 b1 => by
    have h1 := h.below b1
    have hlk := h1.look k hwf
    rw [hn] at hlk
    exact ⟨h1.c0, hlk, (h1.dcell hn).1, h1.dirs k C hn⟩
  have hS : ∀ w1, SMap w1 (G k) C.length (fun nm => (C.lookup nm).map (.int .i64 ·)) → CallsIn Fence.wide 5 Tryd.prog 75 #[.func (.func 113) #[] #[.pointer (some ⟨w1.heap.size, 0, none⟩)]] (w1.alloc (.cells #[.map (some (G k))] 81)) fun e w' => ∃ v, e = .returned v ∧ TxR w' w1.heap.size v (listT C) ∧ Below w1.heap.size w1 w' := fun w1 hSm => by
    obtain ⟨D, hown, hsz, hnd, hlen, hmem⟩ := hSm.data
    have hseq : SeqGives Fence.wide 2 Tryd.prog 113 #[.pointer (some ⟨w1.heap.size, 0, none⟩)] encStr (fun ss => ss.Perm (strKeys D)) (Maps.size D) (w1.alloc (.cells #[.map (some (G k))] 81)) :=
      AnyZ.keys_gives (ρ := Tryd.keysSL_ren) { Tryd.keysSL with } Fence.wide _ trivial rfl (by omega) w1.heap.size (G k) C.length D _ (by simp) (by simp) (by
        obtain ⟨es, clock, hb, Ft, hs, hD⟩ := hown
        exact ⟨es, clock, (Below.heap_alloc _ _ (G k) (Array.getElem?_eq_some_iff.1 hb).1).trans hb, Ft, hs, hD⟩)
    have cS := AnyZ.sorted_in Tryd.sortedSL Fence.wide 5 trivial trivial trivial trivial rfl (by omega) (sortsS_in _) (enters_of Tryd.func112 (by kernel_rfl) rfl) 113 #[.pointer (some ⟨w1.heap.size, 0, none⟩)] trivial (enters_of Tryd.func113 (by kernel_rfl) rfl) _ _ (by rw [hsz]; unfold maxLen; omega) (by omega) _ hseq
    refine CallsIn.mono cS ?_
    rintro e w' ⟨v, ss, rfl, hperm, hrow, _, hb⟩
    have hLn : ss.Nodup := hperm.nodup_iff.2 hnd
    have hLm : ∀ x, x ∈ ss ↔ (C.lookup x).isSome = true := fun x => by rw [hperm.mem_iff, hmem x]; cases C.lookup x <;> rfl
    have hone := listT_one (hT.nodup k C hn) hLn hLm
    refine ⟨v, rfl, ?_, ((Below.refl _ w1).alloc (Nat.le_refl _) _).trans (hb.mono (by simp))⟩
    unfold TxR
    rw [← hone]
    have hl : (inOrder ss).length = ss.length := List.length_mergeSort ss
    rw [hl]
    exact ownsRow_base_a hrow (by simp)
  have cK : ∀ mb W, CallsIn Fence.wide 5 Tryd.prog 76 #[.map mb] W fun e w' => e = .returned (.func (.func 113) #[] #[.pointer (some ⟨W.heap.size, 0, none⟩)]) ∧ w' = W.alloc (.cells #[.map mb] 81) := fun mb W => AnyZ.keys_in Tryd.keysSL Fence.wide 5 trivial rfl mb W
  have f1 : Fence.wide.fn 76 := trivial
  have f2 : Fence.wide.fn 75 := trivial
  have f3 : Fence.wide.fn 44 := trivial
  have f4 : Fence.wide.fn 74 := trivial
  clear hn hT hTok hm h
  refine (callsIn_wide (n := 6)).1 ?_
  refine callsIn_of_wp Tryd.func37 rfl trivial ?_ rfl
  simp only [Tryd.ntmps37, List.size_toArray, List.length_cons, List.length_nil, Nat.reduceAdd, Nat.reduceSub, Array.replicate_succ, Array.replicate_zero, List.push_toArray, List.append_toArray, List.nil_append, List.cons_append]
  gi_wp2_with (first
    | (gi_at_call 44; refine (callsIn_wide.2 hF).mono ?_; rintro e w1 ⟨rfl, b1⟩; obtain ⟨c0, hlk, n0, hSm⟩ := hstep w1 b1; have hS1 := hS w1 hSm)
    | (gi_at_call 74; refine (callsIn_wide.2 (isDir_yes n0)).mono ?_; rintro e w' ⟨rfl, hw'⟩; subst w')
    | (gi_at_call 76; refine (cK _ _).mono ?_; rintro e w' ⟨rfl, hw'⟩; subst w')
    | (gi_at_call 75; refine hS1.mono ?_; rintro e w2 ⟨v, rfl, ht, b2⟩))
  go_ret2
  exact ⟨v, rfl, ownsRow_base_a ht b1.size, b1.trans (b2.mono b1.size)⟩

set_option maxRecDepth 100000 in
set_option maxHeartbeats 4000000 in
theorem PT.list_no (h : PT w r T O) (hT : TrLv T) (p : List UInt8) (hp : p.length < 100000) (m : Int) (hm : w.cell? ⟨1, 0, none⟩ = some (.int .i64 m)) (hE : listE T p ≠ 0) :
    Calls Tryd.prog 37 #[wp r, tx p] w fun e w' => e = .returned (.tuple #[.slice none 0 0, uer (listE T p)]) ∧ Below w.heap.size w w' := by
  obtain ⟨gN, s, B, G, V, h⟩ := h
  have hTok := hT.toTrOk
  have hs1 := h.num.pos hTok
  have hF := h.find_ok hTok hs1 p hp m hm
  have hsome := findT_some hTok (p := p)
  unfold listE at hE ⊢
  by_cases hf : (findT T p).2 = 0
  · rw [if_neg (fun e => e hf)] at hE ⊢
    have hs := hsome hf
    have hkey := hT.key _ hs
    have hwf : (Lit.int .i64 (findT T p).1).wf = true := wf_few hkey.1 (by omega)
    rw [hf, uev_zero] at hF
    generalize (findT T p).1 = n at *
    have hdr : ¬ isDirT T n = true := fun e => hE (by rw [if_pos e])
    rw [if_neg hdr]
    obtain ⟨b, x, hn⟩ := isDir_file hs hdr
    have hstep : ∀ w1, Below w.heap.size w w1 → w1.cell? ⟨r, 0, none⟩ = some (.map (some gN)) ∧ (Instr.lookup 131 (.map (some gN)) (.int .i64 n) false).run Tryd.prog w1 = .ok (wp (B n)) w1 ∧ w1.cell? ⟨B n, 0, none⟩ = some (.map none) := fun w1 b1 => by
      have h1 := h.below b1
      have hlk := h1.look n hwf
      rw [hn] at hlk
      exact ⟨h1.c0, hlk, (h1.fcell hn).1⟩
    clear hE hdr hn
    go_enter Tryd.func37, Tryd.ntmps37
    go_wp2_with (first
      | (go_at_call 44; refine hF.mono ?_; rintro e w1 ⟨rfl, b1⟩; obtain ⟨c0, hlk, n0⟩ := hstep w1 b1)
      | (go_at_call 74; refine (isDir_no n0).mono ?_; rintro e w' ⟨rfl, hw'⟩; subst w'))
    go_ret2
    exact ⟨rfl, b1⟩
  · rw [if_pos hf] at hE ⊢
    rw [uev_ne hf] at hF
    generalize (findT T p).2 = z at *
    generalize (findT T p).1 = n at *
    clear hsome
    go_enter Tryd.func37, Tryd.ntmps37
    go_wp2_with (go_at_call 44; refine hF.mono ?_; rintro e w1 ⟨rfl, b1⟩)
    go_ret2
    exact ⟨rfl, b1⟩
end
end Go.Proofs.YtpibokijbidgdabDoor
