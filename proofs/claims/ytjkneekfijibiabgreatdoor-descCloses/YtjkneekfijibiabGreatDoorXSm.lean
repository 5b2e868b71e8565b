/- Package tree: List, by its Go text. -/
import Derived.Test.YtjkneekfijibiabGreatDoorUWrite
import Derived.Test.YtjkneekfijibiabGreatDoorSKeys2
import Derived.Test.YtjkneekfijibiabGreatDoorShelfW
namespace Go.Proofs.YtjkneekfijibiabGreatDoor
open Go.RowKit Go.Maps Go.Sort Go.Shelf

theorem sortsS_in (m : Nat) : AnyZ.SortsIn Tryz.prog Tryz.sortedSL_ren Fence.wide m :=
  ⟨fun blk off cap ss W hH hblk hsz => callsIn_wide.2 (AnyM.slices_Sort_string Tryz.sortSL blk off cap ss W hH hblk hsz),
   fun p cap W => callsIn_wide.2 (AnyM.slices_Sort_string_none Tryz.sortSL p cap W)⟩

/-- Texts in an array of the call's own. -/
def TxR (w : World) (B : Nat) (v : Value) (L : List Nm) : Prop := w.ownsRow B 9 1 v L.length (L.map encStr)

section
variable {w w' : World} {r gN s : Nat} {T : Wd} {Z : Int → Nat} {B G : Int → Nat} {V : Int → Value} {O : Nat → Prop}

set_option maxRecDepth 100000 in
set_option maxHeartbeats 4000000 in
theorem PT.list_ok (h : PT w r T O) (hT : TrLv T) (p : List UInt8) (hp : p.length < 100000) (m : Int) (hm : w.cell? ⟨2, 0, none⟩ = some (.int .i64 m)) {C : List (Nm × Int)} (hE : (findT T p).2 = 0) (hn : T (findT T p).1 = some (.dir C)) (hCl : C.length ≤ 1000) :
    Calls Tryz.prog 40 #[wp r, tx p] w fun e w' => ∃ v, e = .returned (.tuple #[v, .nilIface]) ∧ TxR w' w.heap.size v (listT C) ∧ Below w.heap.size w w' := by
  obtain ⟨gN, s, B, G, V, h⟩ := h
  have hTok := hT.toTrOk
  have hs1 := h.num.pos hTok
  have hF := h.find_ok hTok hs1 p hp m hm
  have hkey := hT.key _ (show (T (findT T p).1).isSome = true by rw [hn]; rfl)
  have hwf : (Lit.int .i64 (findT T p).1).wf = true := wf_few hkey.1 (by omega)
  rw [hE, uev_zero] at hF
  generalize (findT T p).1 = k at *
  have hstep : ∀ w1, Below w.heap.size w w1 → w1.cell? ⟨r, 0, none⟩ = some (.map (some gN)) ∧ (Instr.lookup 108 (.map (some gN)) (.int .i64 k) false).run Tryz.prog w1 = .ok (wp (B k)) w1 ∧ w1.cell? ⟨B k, 0, none⟩ = some (.map (some (G k))) ∧ SMap w1 (G k) C.length (fun nm => (C.lookup nm).map (.int .i64 ·)) := fun w1 b1 => by
    have h1 := h.below b1
    have hlk := h1.look k hwf
    rw [hn] at hlk
    exact ⟨h1.c0, hlk, (h1.dcell hn).1, h1.dirs k C hn⟩
  have hS : ∀ w1, SMap w1 (G k) C.length (fun nm => (C.lookup nm).map (.int .i64 ·)) → CallsIn Fence.wide 5 Tryz.prog 99 #[.func (.func 137) #[] #[.pointer (some ⟨w1.heap.size, 0, none⟩)]] (w1.alloc (.cells #[.map (some (G k))] 111)) fun e w' => ∃ v, e = .returned v ∧ TxR w' w1.heap.size v (listT C) ∧ Below w1.heap.size w1 w' := fun w1 hSm => by
    obtain ⟨D, hown, hsz, hnd, hlen, hmem⟩ := hSm.data
    have hseq : SeqGives Fence.wide 2 Tryz.prog 137 #[.pointer (some ⟨w1.heap.size, 0, none⟩)] encStr (fun ss => ss.Perm (strKeys D)) (Maps.size D) (w1.alloc (.cells #[.map (some (G k))] 111)) :=
      AnyZ.keys_gives (ρ := Tryz.keysSL_ren) { Tryz.keysSL with } Fence.wide _ trivial rfl (by omega) w1.heap.size (G k) C.length D _ (by simp) (by simp) (by
        obtain ⟨es, clock, hb, Ft, hs, hD⟩ := hown
        exact ⟨es, clock, (Below.heap_alloc _ _ (G k) (Array.getElem?_eq_some_iff.1 hb).1).trans hb, Ft, hs, hD⟩)
    have cS := AnyZ.sorted_in Tryz.sortedSL Fence.wide 5 trivial trivial trivial trivial rfl (by omega) (sortsS_in _) (enters_of Tryz.func136 (by kernel_rfl) rfl) 137 #[.pointer (some ⟨w1.heap.size, 0, none⟩)] trivial (enters_of Tryz.func137 (by kernel_rfl) rfl) _ _ (by rw [hsz]; unfold maxLen; omega) (by omega) _ hseq
    refine CallsIn.mono cS ?_
    rintro e w' ⟨v, ss, rfl, hperm, hrow, _, hb⟩
    have hLn : ss.Nodup := hperm.nodup_iff.2 hnd
    have hLm : ∀ x, x ∈ ss ↔ (C.lookup x).isSome = true := fun x => by rw [hperm.mem_iff, hmem x]; cases C.lookup x <;> rfl
    have hone := listT_one (hT.nodup k C hn) hLn hLm
    refine ⟨v, rfl, ?_, ((Below.refl _ w1).alloc (Nat.le_refl _) _).trans (hb.mono (by simp))⟩
    unfold TxR
    rw [← hone]
    have hl : (inOrder ss).length = ss.length := List.length_mergeSort ss
    rw [hl]
    exact ownsRow_base_a hrow (by simp)
  have cK : ∀ mb W, CallsIn Fence.wide 5 Tryz.prog 100 #[.map mb] W fun e w' => e = .returned (.func (.func 137) #[] #[.pointer (some ⟨W.heap.size, 0, none⟩)]) ∧ w' = W.alloc (.cells #[.map mb] 111) := fun mb W => AnyZ.keys_in Tryz.keysSL Fence.wide 5 trivial rfl mb W
  have f1 : Fence.wide.fn 100 := trivial
  have f2 : Fence.wide.fn 99 := trivial
  have f3 : Fence.wide.fn 20 := trivial
  have f4 : Fence.wide.fn 98 := trivial
  clear hn hT hTok hm h
  refine (callsIn_wide (n := 6)).1 ?_
  refine callsIn_of_wp Tryz.func40 rfl trivial ?_ rfl
  simp only [Tryz.ntmps40, List.size_toArray, List.length_cons, List.length_nil, Nat.reduceAdd, Nat.reduceSub, Array.replicate_succ, Array.replicate_zero, List.push_toArray, List.append_toArray, List.nil_append, List.cons_append]
  gi_wp2_with (first
    | (gi_at_call 20; refine (callsIn_wide.2 hF).mono ?_; rintro e w1 ⟨rfl, b1⟩; obtain ⟨c0, hlk, n0, hSm⟩ := hstep w1 b1; have hS1 := hS w1 hSm)
    | (gi_at_call 98; refine (callsIn_wide.2 (isDir_yes n0)).mono ?_; rintro e w' ⟨rfl, hw'⟩; subst w')
    | (gi_at_call 100; refine (cK _ _).mono ?_; rintro e w' ⟨rfl, hw'⟩; subst w')
    | (gi_at_call 99; refine hS1.mono ?_; rintro e w2 ⟨v, rfl, ht, b2⟩))
  go_ret2
  exact ⟨v, rfl, ownsRow_base_a ht b1.size, b1.trans (b2.mono b1.size)⟩

set_option maxRecDepth 100000 in
set_option maxHeartbeats 4000000 in
theorem PT.list_no (h : PT w r T O) (hT : TrLv T) (p : List UInt8) (hp : p.length < 100000) (m : Int) (hm : w.cell? ⟨2, 0, none⟩ = some (.int .i64 m)) (hE : listE T p ≠ 0) :
    Calls Tryz.prog 40 #[wp r, tx p] w fun e w' => e = .returned (.tuple #[.slice none 0 0, uer (listE T p)]) ∧ Below w.heap.size w w' := by
  obtain ⟨gN, s, B, G, V, h⟩ := h
  have hTok := hT.toTrOk
  have hs1 := h.num.pos hTok
  have hF := h.find_ok hTok hs1 p hp m hm
  have hsome := findT_some hTok (p := p)
  unfold listE at hE ⊢
  by_cases hf : (findT T p).2 = 0
  · rw [if_neg (fun e => e hf)] at hE ⊢
    have hs := hsome hf
    have hkey := hT.key _ hs
    have hwf : (Lit.int .i64 (findT T p).1).wf = true := wf_few hkey.1 (by omega)
    rw [hf, uev_zero] at hF
    generalize (findT T p).1 = n at *
    have hdr : ¬ isDirT T n = true := fun e => hE (by rw [if_pos e])
    rw [if_neg hdr]
    obtain ⟨b, x, hn⟩ := isDir_file hs hdr
    have hstep : ∀ w1, Below w.heap.size w w1 → w1.cell? ⟨r, 0, none⟩ = some (.map (some gN)) ∧ (Instr.lookup 108 (.map (some gN)) (.int .i64 n) false).run Tryz.prog w1 = .ok (wp (B n)) w1 ∧ w1.cell? ⟨B n, 0, none⟩ = some (.map none) := fun w1 b1 => by
      have h1 := h.below b1
      have hlk := h1.look n hwf
      rw [hn] at hlk
      exact ⟨h1.c0, hlk, (h1.fcell hn).1⟩
    clear hE hdr hn
    go_enter Tryz.func40, Tryz.ntmps40
    go_wp2_with (first
      | (go_at_call 20; refine hF.mono ?_; rintro e w1 ⟨rfl, b1⟩; obtain ⟨c0, hlk, n0⟩ := hstep w1 b1)
      | (go_at_call 98; refine (isDir_no n0).mono ?_; rintro e w' ⟨rfl, hw'⟩; subst w'))
    go_ret2
    exact ⟨rfl, b1⟩
  · rw [if_pos hf] at hE ⊢
    rw [uev_ne hf] at hF
    generalize (findT T p).2 = z at *
    generalize (findT T p).1 = n at *
    clear hsome
    go_enter Tryz.func40, Tryz.ntmps40
    go_wp2_with (go_at_call 20; refine hF.mono ?_; rintro e w1 ⟨rfl, b1⟩)
    go_ret2
    exact ⟨rfl, b1⟩
end
end Go.Proofs.YtjkneekfijibiabGreatDoor

namespace Go.Proofs.YtjkneekfijibiabGreatDoor
open Go.RowKit Go.Maps

/-- Directories, and how often files are held, are small. -/
def Sm (k : Nat) (T : Wd) : Prop := (∀ i C, T i = some (.dir C) → C.length ≤ k) ∧ ∀ i b x, T i = some (.file b x) → x ≤ k ∧ b.length ≤ 200
section
variable {T : Wd} {k : Nat}
theorem Sm.more (h : Sm k T) {k' : Nat} (hk : k ≤ k') : Sm k' T := ⟨fun i C e => Nat.le_trans (h.1 i C e) hk, fun i b x e => ⟨Nat.le_trans (h.2 i b x e).1 hk, (h.2 i b x e).2⟩⟩
theorem Sm.set (h : Sm k T) (n : Int) {nd : Nd} (hd : ∀ C, nd = .dir C → C.length ≤ k) (hf : ∀ b x, nd = .file b x → x ≤ k ∧ b.length ≤ 200) : Sm k (setT T n nd) := by
  refine ⟨fun i C e => ?_, fun i b x e => ?_⟩
  · by_cases e1 : i = n
    · subst e1; rw [setT_same] at e; exact hd C (Option.some.inj e)
    · rw [setT_other _ e1] at e; exact h.1 i C e
  · by_cases e1 : i = n
    · subst e1; rw [setT_same] at e; exact hf b x (Option.some.inj e)
    · rw [setT_other _ e1] at e; exact h.2 i b x e
theorem Sm.add (h : Sm k T) (d n : Int) (nm : Nm) : Sm (k + 1) (addT T d nm n) := by
  cases hd : T d with
  | none => rw [show addT T d nm n = T by unfold addT; rw [hd]]; exact h.more (by omega)
  | some nd => cases nd with
    | file b x => rw [show addT T d nm n = T by unfold addT; rw [hd]]; exact h.more (by omega)
    | dir C =>
      rw [addT_eq hd]
      exact (h.more (Nat.le_succ k)).set d (fun C' e => by cases e; have := h.1 d C hd; simp; omega) (fun b x e => by cases e)
theorem Sm.del (h : Sm k T) (d : Int) (nm : Nm) : Sm k (delT T d nm) := by
  cases hd : T d with
  | none => rw [show delT T d nm = T by unfold delT; rw [hd]]; exact h
  | some nd => cases nd with
    | file b x => rw [show delT T d nm = T by unfold delT; rw [hd]]; exact h
    | dir C =>
      rw [delT_eq hd]
      exact h.set d (fun C' e => by cases e; exact Nat.le_trans (List.length_filter_le _ _) (h.1 d C hd)) (fun b x e => by cases e)
theorem Sm.sweep (h : Sm k T) : Sm k (sweepT T) := ⟨fun i C e => h.1 i C (sweepT_sub e), fun i b x e => h.2 i b x (sweepT_sub e)⟩
theorem Sm.link (h : Sm k T) (p q : List UInt8) : Sm (k + 1) (linkN T p q) := by
  unfold linkN; split
  · exact h.more (by omega)
  · exact h.add _ _ _
theorem Sm.unlink (h : Sm k T) (p : List UInt8) : Sm (k + 1) (unlinkN T p) := by
  unfold unlinkN; split
  · exact h.more (by omega)
  · exact ((h.del _ _).sweep).more (by omega)
theorem Sm.rename (h : Sm k T) (p q : List UInt8) : Sm (k + 1) (renameN T p q) := by
  unfold renameN; split
  · exact h.more (by omega)
  · exact (h.del _ _).add _ _ _
theorem Sm.make (h : Sm k T) (p : List UInt8) (dir : Bool) (n : Int) : Sm (k + 1) (makeN T p dir n) := by
  unfold makeN
  refine (h.set n ?_ ?_).add _ _ _
  · intro C e; cases dir <;> (simp [newNd] at e); rw [e]; simp
  · intro b x e; cases dir <;> (simp [newNd] at e); rw [e.1, ← e.2]; simp
theorem Sm.hold (h : Sm k T) (n by' : Int) (hb : by' ≤ 1) : Sm (k + 1) (holdN T n by') := by
  unfold holdN
  split
  · rename_i b x e
    split
    · exact h.more (by omega)
    · refine ((h.more (Nat.le_succ k)).set n (fun C e9 => by cases e9) (fun b' x' e9 => ?_)).sweep
      cases e9
      have := h.2 n b x e; exact ⟨by omega, this.2⟩
  · exact h.more (by omega)
theorem Sm.write (h : Sm k T) (n a : Int) (x : List UInt8) : Sm (k + 1) (writeN T n a x) := by
  unfold writeN
  by_cases hh : writeE T n a x ≠ 0 ∨ x = []
  · rw [if_pos hh]; exact h.more (by omega)
  · rw [if_neg hh]
    cases e : T n with
    | none => exact h.more (by omega)
    | some nd => cases nd with
      | dir C => exact h.more (by omega)
      | file b y =>
        simp only
        refine (h.set n (fun C e9 => by cases e9) (fun b' x' e9 => ?_)).more (by omega)
        cases e9
        have h2 := h.2 n b y e
        refine ⟨h2.1, ?_⟩
        have hE : writeE T n a x = 0 := by
          by_cases e9 : writeE T n a x = 0
          · exact e9
          · exact absurd (.inl e9) hh
        unfold writeE at hE
        have hf : fileT T n = 0 := by unfold fileT; rw [e]
        rw [if_neg (fun e => e hf)] at hE
        by_cases ha : a < 0
        · rw [if_pos ha] at hE; omega
        · rw [if_neg ha] at hE
          by_cases hl : (200 : Int) < x.length ∨ 200 - (x.length : Int) < a
          · rw [if_pos hl] at hE; omega
          · rw [overT_len]; omega
theorem Sm.cut (h : Sm k T) (n size : Int) : Sm (k + 1) (cutN T n size) := by
  unfold cutN
  split
  · rename_i b y e
    split
    · exact h.more (by omega)
    · exact (h.set n (fun C e9 => by cases e9) (fun b' x' e9 => by cases e9; have h2 := h.2 n b y e; exact ⟨h2.1, by simp; omega⟩)).more (by omega)
  · exact h.more (by omega)

theorem IsNum.few {s : Nat} (h : IsNum T s) (hT : TrOk T) : s ≤ 64 := by
  obtain ⟨ks, hn, rfl, m⟩ := h
  have := sub_len (b := (List.range 64).map (fun i : Nat => (i : Int))) hn (fun x hx => by
    have hk := hT.key x ((m x).1 hx)
    exact List.mem_map.2 ⟨x.toNat, List.mem_range.2 (by omega), by omega⟩)
  simpa using this

/-- What else holds is kept. -/
theorem TrLv.hold (hT : TrLv T) (n : Int) {by' : Int} (hb : by' = 1 ∨ by' = -1) (hx : ∀ b x, T n = some (.file b x) → x + 1 ≤ 1000) : TrLv (holdN T n by') := by
  by_cases hz : fileT T n = 0
  · obtain ⟨b, x, hn⟩ := fileT_zero hz
    rcases hb with rfl | rfl
    · have hT' := hT.setF (b' := b) (x' := x + 1) hn (hT.small n b x hn).1 (hx b x hn) (.inl (by omega))
      have hN : holdN T n 1 = setT T n (.file b (x + 1)) := by
        unfold holdN; rw [hn]; simp only
        rw [if_neg (by omega), show ((x : Int) + 1).toNat = x + 1 by omega]
        exact sweep_none hT'.toTrOk hT'.lv
      rw [hN]; exact hT'
    · cases x with
      | zero =>
        have hN : holdN T n (-1) = T := by unfold holdN; rw [hn]; simp only; rw [if_pos (by omega)]
        rw [hN]; exact hT
      | succ x => exact (drop_turn hT hn).2.2
  · have hN : holdN T n by' = T := by
      unfold holdN
      cases hn : T n with
      | none => rfl
      | some nd => cases nd with
        | dir C => rfl
        | file b x => exact absurd (by unfold fileT; rw [hn]) hz
    rw [hN]; exact hT
theorem TrLv.same_file (hT : TrLv T) {n : Int} {b b' : List UInt8} {x : Nat} (hn : T n = some (.file b x)) (hb : b'.length ≤ 256) : TrLv (setT T n (.file b' x)) := by
  refine hT.setF hn hb (hT.small n b x hn).2 ?_
  rcases hT.lv n _ hn with e | e | e
  · exact absurd e (file_nz hT.toTrOk hn)
  · exact .inr e
  · exact .inl e
theorem TrLv.write (hT : TrLv T) (n a : Int) (x : List UInt8) : TrLv (writeN T n a x) := by
  unfold writeN
  split
  · exact hT
  · rename_i hh
    split
    · rename_i b y e
      refine hT.same_file e ?_
      have hE : writeE T n a x = 0 := by
        by_cases e9 : writeE T n a x = 0
        · exact e9
        · exact absurd (.inl e9) hh
      have hs := (hT.small n b y e).1
      unfold writeE at hE
      have hf : fileT T n = 0 := by unfold fileT; rw [e]
      rw [if_neg (fun e => e hf)] at hE
      by_cases ha : a < 0
      · rw [if_pos ha] at hE; omega
      · rw [if_neg ha] at hE
        by_cases hl : (200 : Int) < x.length ∨ 200 - (x.length : Int) < a
        · rw [if_pos hl] at hE; omega
        · rw [overT_len]; omega
    · exact hT
theorem TrLv.cut (hT : TrLv T) (n size : Int) : TrLv (cutN T n size) := by
  unfold cutN
  split
  · rename_i b y e
    split
    · exact hT
    · exact hT.same_file e (by have := (hT.small n b y e).1; simp; omega)
  · exact hT
theorem TrLv.make (hT : TrLv T) {s : Nat} {p : List UInt8} (hE : makeE T s p = 0) {n : Int} (hn : IsFree T n) (h1 : n < 64) (dir : Bool) : TrLv (makeN T p dir n) := by
  obtain ⟨_, ⟨C, hd, hl⟩, hnm, _⟩ := makeE_zero hT.toTrOk hE
  exact (make_turn hT dir hd hl hnm hn.none hn.pos h1).2.2.2
end
end Go.Proofs.YtjkneekfijibiabGreatDoor
