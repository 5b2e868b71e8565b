/- What the keys of a map keyed by texts are, as a list; a list in order is one. -/
import Derived.Test.YtjkneekfijibiabGreatDoorRangesDel
import Derived.Test.YtjkneekfijibiabGreatDoorWDel
import Derived.Test.YtjkneekfijibiabGreatDoorUTree
import Derived.Sort.KeysCollected
import Derived.Maps.Views
import Derived.Test.YtjkneekfijibiabGreatDoorUWrite
import Derived.Test.YtjkneekfijibiabGreatDoorShelfW
namespace Go.Proofs.YtjkneekfijibiabGreatDoor
open Go.RowKit Go.Maps

theorem SMap.data {w : World} {g s : Nat} {M : List UInt8 → Option Value} (m : SMap w g s M) : ∃ D : DataW Value, w.ownsMap Tryz.prog 9 self g s D ∧ Maps.size D = s ∧ (strKeys D).Nodup ∧ (strKeys D).length = s ∧ ∀ x, x ∈ strKeys D ↔ (M x).isSome = true := by
  obtain ⟨D, hown, hs, hS, _⟩ := m
  refine ⟨D, hown, hs, ?_⟩
  obtain ⟨es, hD, hpw, _⟩ := hown.entries keyedText
  obtain ⟨es', hD', hko⟩ := hown.keysOf
  obtain rfl : es = es' := by rw [hD] at hD'; simpa using hD'
  have hk : ∀ p ∈ es, ∃ x, p.1 = .string x := fun p hp => by
    obtain ⟨v, hv⟩ := hko p hp
    obtain ⟨x, _, hx, _⟩ := keyOf_text_inv hv
    exact ⟨x, hx⟩
  have hnd : (es.map fun p => strOf p.1).Nodup := by
    refine List.pairwise_map.2 (hpw.imp_of_mem fun {p q} hp hq hne e => hne ?_)
    obtain ⟨a, ha⟩ := hk p hp
    obtain ⟨d, hd⟩ := hk q hq
    rw [ha, hd] at e ⊢
    exact congrArg _ e
  subst hD
  refine ⟨hnd, by rw [← hs]; simp [strKeys, Maps.size], fun x => ?_⟩
  rw [← hS x, has_eq, List.any_eq_true]
  show x ∈ es.map (fun p => strOf p.1) ↔ _
  rw [List.mem_map]
  constructor
  · rintro ⟨p, hp, rfl⟩
    obtain ⟨a, ha⟩ := hk p hp
    exact ⟨p, hp, by rw [ha]; simp [Lit.sameKey, strOf]⟩
  · rintro ⟨p, hp, hq⟩
    obtain ⟨a, ha⟩ := hk p hp
    rw [ha] at hq
    exact ⟨p, hp, by rw [ha]; simpa [Lit.sameKey, strOf] using hq⟩

theorem ltr (a b c : Nm) (h1 : decide (a ≤ b) = true) (h2 : decide (b ≤ c) = true) : decide (a ≤ c) = true := by
  simp only [decide_eq_true_eq] at *; exact List.le_trans h1 h2
theorem ltl (a b : Nm) : (decide (a ≤ b) || decide (b ≤ a)) = true := by
  simp only [Bool.or_eq_true, decide_eq_true_eq]; exact List.le_total a b
/-- Two lists in order that have the same, are the same. -/
theorem order_one : ∀ {a b : List Nm}, a.Pairwise (fun x y => decide (x ≤ y) = true) → b.Pairwise (fun x y => decide (x ≤ y) = true) → a.Perm b → a = b
  | [], b, _, _, hp => (List.nil_perm.1 hp).symm
  | x :: a, b, ha, hb, hp => by
    cases b with
    | nil => exact absurd hp.length_eq (by simp)
    | cons y b =>
      have hxy : x = y := by
        have hx : x ∈ y :: b := hp.mem_iff.1 List.mem_cons_self
        have hy : y ∈ x :: a := hp.mem_iff.2 List.mem_cons_self
        rcases List.mem_cons.1 hx with e | hx
        · exact e
        · rcases List.mem_cons.1 hy with e | hy
          · exact e.symm
          · have h1 := (List.pairwise_cons.1 ha).1 y hy
            have h2 := (List.pairwise_cons.1 hb).1 x hx
            simp only [decide_eq_true_eq] at h1 h2
            exact List.le_antisymm h1 h2
      subst hxy
      rw [order_one (List.pairwise_cons.1 ha).2 (List.pairwise_cons.1 hb).2 (List.perm_cons x |>.1 hp)]

/-- A directory's names, in order. -/
def listT (C : List (Nm × Int)) : List Nm := inOrder (C.map (·.1))
theorem listT_one {C : List (Nm × Int)} (hn : (C.map (·.1)).Nodup) {L : List Nm} (hL : L.Nodup) (hm : ∀ x, x ∈ L ↔ (C.lookup x).isSome = true) : inOrder L = listT C := by
  have hp : L.Perm (C.map (·.1)) := (List.perm_ext_iff_of_nodup hL hn).2 (fun x => by
    rw [hm x]
    constructor
    · intro h
      obtain ⟨n, e⟩ := Option.isSome_iff_exists.1 h
      exact List.mem_map.2 ⟨(x, n), lookup_mem e, rfl⟩
    · intro h
      obtain ⟨⟨y, n⟩, hy, rfl⟩ := List.mem_map.1 h
      rw [mem_lookup hn hy]; rfl)
  exact order_one (List.pairwise_mergeSort ltr ltl L) (List.pairwise_mergeSort ltr ltl _) ((List.mergeSort_perm L _).trans (hp.trans (List.mergeSort_perm _ _).symm))
theorem listT_mem {C : List (Nm × Int)} {x : Nm} : x ∈ listT C ↔ x ∈ C.map (·.1) := (List.mergeSort_perm _ _).mem_iff
theorem listT_len (C : List (Nm × Int)) : (listT C).length = C.length := by unfold listT inOrder; rw [List.length_mergeSort, List.length_map]
theorem listT_nodup {C : List (Nm × Int)} (h : (C.map (·.1)).Nodup) : (listT C).Nodup := (List.mergeSort_perm _ _).nodup_iff.2 h
end Go.Proofs.YtjkneekfijibiabGreatDoor

namespace Go.Proofs.YtjkneekfijibiabGreatDoor
open Go.RowKit Go.Maps Go.Sort Go.Shelf

theorem sortsS_in (m : Nat) : AnyZ.SortsIn Tryz.prog Tryz.sortedSL_ren Fence.wide m :=
  ⟨fun blk off cap ss W hH hblk hsz => callsIn_wide.2 (AnyM.slices_Sort_string Tryz.sortSL blk off cap ss W hH hblk hsz),
   fun p cap W => callsIn_wide.2 (AnyM.slices_Sort_string_none Tryz.sortSL p cap W)⟩

/-- Texts in an array of the call's own. -/
def TxR (w : World) (B : Nat) (v : Value) (L : List Nm) : Prop := w.ownsRow B 9 1 v L.length (L.map encStr)

section
variable {w w' : World} {r gN s : Nat} {T : Wd} {Z : Int → Nat} {B G : Int → Nat} {V : Int → Value} {O : Nat → Prop}

set_option maxRecDepth 100000 in
set_option maxHeartbeats 4000000 in
theorem PT.list_ok (h : PT w r T O) (hT : TrLv T) (p : List UInt8) (hp : p.length < 100000) (m : Int) (hm : w.cell? ⟨2, 0, none⟩ = some (.int .i64 m)) {C : List (Nm × Int)} (hE : (findT T p).2 = 0) (hn : T (findT T p).1 = some (.dir C)) (hCl : C.length ≤ 1000) :
    Calls Tryz.prog 40 #[wp r, tx p] w fun e w' => ∃ v, e = .returned (.tuple #[v, .nilIface]) ∧ TxR w' w.heap.size v (listT C) ∧ Below w.heap.size w w' := by
  obtain ⟨gN, s, B, G, V, h⟩ := h
  have hTok := hT.toTrOk
  have hs1 := h.num.pos hTok
  have hF := h.find_ok hTok hs1 p hp m hm
  have hkey := hT.key _ (show (T (findT T p).1).isSome = true by rw [hn]; rfl)
  have hwf : (Lit.int .i64 (findT T p).1).wf = true := wf_few hkey.1 (by omega)
  rw [hE, uev_zero] at hF
  generalize (findT T p).1 = k at *
  have hstep : ∀ w1, Below w.heap.size w w1 → w1.cell? ⟨r, 0, none⟩ = some (.map (some gN)) ∧ (Instr.lookup 108 (.map (some gN)) (.int .i64 k) false).run Tryz.prog w1 = .ok (wp (B k)) w1 ∧ w1.cell? ⟨B k, 0, none⟩ = some (.map (some (G k))) ∧ SMap w1 (G k) C.length (fun nm => (C.lookup nm).map (.int .i64 ·)) := fun w1 b1 => by
    have h1 := h.below b1
    have hlk := h1.look k hwf
    rw [hn] at hlk
    exact ⟨h1.c0, hlk, (h1.dcell hn).1, h1.dirs k C hn⟩
  have hS : ∀ w1, SMap w1 (G k) C.length (fun nm => (C.lookup nm).map (.int .i64 ·)) → CallsIn Fence.wide 5 Tryz.prog 99 #[.func (.func 137) #[] #[.pointer (some ⟨w1.heap.size, 0, none⟩)]] (w1.alloc (.cells #[.map (some (G k))] 111)) fun e w' => ∃ v, e = .returned v ∧ TxR w' w1.heap.size v (listT C) ∧ Below w1.heap.size w1 w' := fun w1 hSm => by
    obtain ⟨D, hown, hsz, hnd, hlen, hmem⟩ := hSm.data
    have hseq : SeqGives Fence.wide 2 Tryz.prog 137 #[.pointer (some ⟨w1.heap.size, 0, none⟩)] encStr (fun ss => ss.Perm (strKeys D)) (Maps.size D) (w1.alloc (.cells #[.map (some (G k))] 111)) :=
      AnyZ.keys_gives (ρ := Tryz.keysSL_ren) { Tryz.keysSL with } Fence.wide _ trivial rfl (by omega) w1.heap.size (G k) C.length D _ (by simp) (by simp) (by
        obtain ⟨es, clock, hb, Ft, hs, hD⟩ := hown
        exact ⟨es, clock, (Below.heap_alloc _ _ (G k) (Array.getElem?_eq_some_iff.1 hb).1).trans hb, Ft, hs, hD⟩)
    have cS := AnyZ.sorted_in Tryz.sortedSL Fence.wide 5 trivial trivial trivial trivial rfl (by omega) (sortsS_in _) (enters_of Tryz.func136 (by kernel_rfl) rfl) 137 #[.pointer (some ⟨w1.heap.size, 0, none⟩)] trivial (enters_of Tryz.func137 (by kernel_rfl) rfl) _ _ (by rw [hsz]; unfold maxLen; omega) (by omega) _ hseq
    refine CallsIn.mono cS ?_
    rintro e w' ⟨v, ss, rfl, hperm, hrow, _, hb⟩
    have hLn : ss.Nodup := hperm.nodup_iff.2 hnd
    have hLm : ∀ x, x ∈ ss ↔ (C.lookup x).isSome = true := fun x => by rw [hperm.mem_iff, hmem x]; cases C.lookup x <;> rfl
    have hone := listT_one (hT.nodup k C hn) hLn hLm
    refine ⟨v, rfl, ?_, ((Below.refl _ w1).alloc (Nat.le_refl _) _).trans (hb.mono (by simp))⟩
    unfold TxR
    rw [← hone]
    have hl : (inOrder ss).length = ss.length := List.length_mergeSort ss
    rw [hl]
    exact ownsRow_base_a hrow (by simp)
  have cK : ∀ mb W, CallsIn Fence.wide 5 Tryz.prog 100 #[.map mb] W fun e w' => e = .returned (.func (.func 137) #[] #[.pointer (some ⟨W.heap.size, 0, none⟩)]) ∧ w' = W.alloc (.cells #[.map mb] 111) := fun mb W => AnyZ.keys_in Tryz.keysSL Fence.wide 5 trivial rfl mb W
  have f1 : Fence.wide.fn 100 := trivial
  have f2 : Fence.wide.fn 99 := trivial
  have f3 : Fence.wide.fn 20 := trivial
  have f4 : Fence.wide.fn 98 := trivial
  clear hn hT hTok hm h
  refine (callsIn_wide (n := 6)).1 ?_
  refine callsIn_of_wp Tryz.func40 rfl trivial ?_ rfl
  simp only [Tryz.ntmps40, List.size_toArray, List.length_cons, List.length_nil, Nat.reduceAdd, Nat.reduceSub, Array.replicate_succ, Array.replicate_zero, List.push_toArray, List.append_toArray, List.nil_append, List.cons_append]
  gi_wp2_with (first
    | (gi_at_call 20; refine (callsIn_wide.2 hF).mono ?_; rintro e w1 ⟨rfl, b1⟩; obtain ⟨c0, hlk, n0, hSm⟩ := hstep w1 b1; have hS1 := hS w1 hSm)
    | (gi_at_call 98; refine (callsIn_wide.2 (isDir_yes n0)).mono ?_; rintro e w' ⟨rfl, hw'⟩; subst w')
    | (gi_at_call 100; refine (cK _ _).mono ?_; rintro e w' ⟨rfl, hw'⟩; subst w')
    | (gi_at_call 99; refine hS1.mono ?_; rintro e w2 ⟨v, rfl, ht, b2⟩))
  go_ret2
  exact ⟨v, rfl, ownsRow_base_a ht b1.size, b1.trans (b2.mono b1.size)⟩

set_option maxRecDepth 100000 in
set_option maxHeartbeats 4000000 in
theorem PT.list_no (h : PT w r T O) (hT : TrLv T) (p : List UInt8) (hp : p.length < 100000) (m : Int) (hm : w.cell? ⟨2, 0, none⟩ = some (.int .i64 m)) (hE : listE T p ≠ 0) :
    Calls Tryz.prog 40 #[wp r, tx p] w fun e w' => e = .returned (.tuple #[.slice none 0 0, uer (listE T p)]) ∧ Below w.heap.size w w' := by
  obtain ⟨gN, s, B, G, V, h⟩ := h
  have hTok := hT.toTrOk
  have hs1 := h.num.pos hTok
  have hF := h.find_ok hTok hs1 p hp m hm
  have hsome := findT_some hTok (p := p)
  unfold listE at hE ⊢
  by_cases hf : (findT T p).2 = 0
  · rw [if_neg (fun e => e hf)] at hE ⊢
    have hs := hsome hf
    have hkey := hT.key _ hs
    have hwf : (Lit.int .i64 (findT T p).1).wf = true := wf_few hkey.1 (by omega)
    rw [hf, uev_zero] at hF
    generalize (findT T p).1 = n at *
    have hdr : ¬ isDirT T n = true := fun e => hE (by rw [if_pos e])
    rw [if_neg hdr]
    obtain ⟨b, x, hn⟩ := isDir_file hs hdr
    have hstep : ∀ w1, Below w.heap.size w w1 → w1.cell? ⟨r, 0, none⟩ = some (.map (some gN)) ∧ (Instr.lookup 108 (.map (some gN)) (.int .i64 n) false).run Tryz.prog w1 = .ok (wp (B n)) w1 ∧ w1.cell? ⟨B n, 0, none⟩ = some (.map none) := fun w1 b1 => by
      have h1 := h.below b1
      have hlk := h1.look n hwf
      rw [hn] at hlk
      exact ⟨h1.c0, hlk, (h1.fcell hn).1⟩
    clear hE hdr hn
    go_enter Tryz.func40, Tryz.ntmps40
    go_wp2_with (first
      | (go_at_call 20; refine hF.mono ?_; rintro e w1 ⟨rfl, b1⟩; obtain ⟨c0, hlk, n0⟩ := hstep w1 b1)
      | (go_at_call 98; refine (isDir_no n0).mono ?_; rintro e w' ⟨rfl, hw'⟩; subst w'))
    go_ret2
    exact ⟨rfl, b1⟩
  · rw [if_pos hf] at hE ⊢
    rw [uev_ne hf] at hF
    generalize (findT T p).2 = z at *
    generalize (findT T p).1 = n at *
    clear hsome
    go_enter Tryz.func40, Tryz.ntmps40
    go_wp2_with (go_at_call 20; refine hF.mono ?_; rintro e w1 ⟨rfl, b1⟩)
    go_ret2
    exact ⟨rfl, b1⟩
end
end Go.Proofs.YtjkneekfijibiabGreatDoor
