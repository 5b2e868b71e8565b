/- Package tree: List, by its Go text. -/
import Derived.Test.YtjkneekfijibiabGreatDoorSKeys2
import Derived.Test.YtjkneekfijibiabGreatDoorShelfW
import Derived.Test.YtjkneekfijibiabGreatDoorUCnt
import Derived.Test.YtjkneekfijibiabGreatDoorUAddT
namespace Go.Proofs.YtjkneekfijibiabGreatDoor
open Go.RowKit Go.Maps Go.Sort Go.Shelf

theorem sortsS_in (m : Nat) : AnyZ.SortsIn Tryz.prog Tryz.sortedSL_ren Fence.wide m :=
  ⟨fun blk off cap ss W hH hblk hsz => callsIn_wide.2 (AnyM.slices_Sort_string Tryz.sortSL blk off cap ss W hH hblk hsz),
   fun p cap W => callsIn_wide.2 (AnyM.slices_Sort_string_none Tryz.sortSL p cap W)⟩

/-- Texts in an array of the call's own. -/
def TxR (w : World) (B : Nat) (v : Value) (L : List Nm) : Prop := w.ownsRow B 9 1 v L.length (L.map encStr)

section
variable {w w' : World} {r gN s : Nat} {T : Wd} {Z : Int → Nat} {B G : Int → Nat} {V : Int → Value} {O : Nat → Prop}

set_option maxRecDepth 100000 in
set_option maxHeartbeats 4000000 in
theorem PT.list_ok (h : PT w r T O) (hT : TrLv T) (p : List UInt8) (hp : p.length < 100000) (m : Int) (hm : w.cell? ⟨2, 0, none⟩ = some (.int .i64 m)) {C : List (Nm × Int)} (hE : (findT T p).2 = 0) (hn : T (findT T p).1 = some (.dir C)) (hCl : C.length ≤ 1000) :
    Calls Tryz.prog 40 #[wp r, tx p] w fun e w' => ∃ v, e = .returned (.tuple #[v, .nilIface]) ∧ TxR w' w.heap.size v (listT C) ∧ Below w.heap.size w w' := by
  obtain ⟨gN, s, B, G, V, h⟩ := h
  have hTok := hT.toTrOk
  have hs1 := h.num.pos hTok
  have hF := h.find_ok hTok hs1 p hp m hm
  have hkey := hT.key _ (show (T (findT T p).1).isSome = true by rw [hn]; rfl)
  have hwf : (Lit.int .i64 (findT T p).1).wf = true := wf_few hkey.1 (by omega)
  rw [hE, uev_zero] at hF
  generalize (findT T p).1 = k at *
  have hstep : ∀ w1, Below w.heap.size w w1 → w1.cell? ⟨r, 0, none⟩ = some (.map (some gN)) ∧ (Instr.lookup 108 (.map (some gN)) (.int .i64 k) false).run Tryz.prog w1 = .ok (wp (B k)) w1 ∧ w1.cell? ⟨B k, 0, none⟩ = some (.map (some (G k))) ∧ SMap w1 (G k) C.length (fun nm => (C.lookup nm).map (.int .i64 ·)) := fun w1 b1 => by
    have h1 := h.below b1
    have hlk := h1.look k hwf
    rw [hn] at hlk
    exact ⟨h1.c0, hlk, (h1.dcell hn).1, h1.dirs k C hn⟩
  have hS : ∀ w1, SMap w1 (G k) C.length (fun nm => (C.lookup nm).map (.int .i64 ·)) → CallsIn Fence.wide 5 Tryz.prog 99 #[.func (.func 137) #[] #[.pointer (some ⟨w1.heap.size, 0, none⟩)]] (w1.alloc (.cells #[.map (some (G k))] 111)) fun e w' => ∃ v, e = .returned v ∧ TxR w' w1.heap.size v (listT C) ∧ Below w1.heap.size w1 w' := fun w1 hSm => by
    obtain ⟨D, hown, hsz, hnd, hlen, hmem⟩ := hSm.data
    have hseq : SeqGives Fence.wide 2 Tryz.prog 137 #[.pointer (some ⟨w1.heap.size, 0, none⟩)] encStr (fun ss => ss.Perm (strKeys D)) (Maps.size D) (w1.alloc (.cells #[.map (some (G k))] 111)) :=
      AnyZ.keys_gives (ρ := Tryz.keysSL_ren) { Tryz.keysSL with } Fence.wide _ trivial rfl (by omega) w1.heap.size (G k) C.length D _ (by simp) (by simp) (by
        obtain ⟨es, clock, hb, Ft, hs, hD⟩ := hown
        exact ⟨es, clock, (Below.heap_alloc _ _ (G k) (Array.getElem?_eq_some_iff.1 hb).1).trans hb, Ft, hs, hD⟩)
    have cS := AnyZ.sorted_in Tryz.sortedSL Fence.wide 5 trivial trivial trivial trivial rfl (by omega) (sortsS_in _) (enters_of Tryz.func136 (by kernel_rfl) rfl) 137 #[.pointer (some ⟨w1.heap.size, 0, none⟩)] trivial (enters_of Tryz.func137 (by kernel_rfl) rfl) _ _ (by rw [hsz]; unfold maxLen; omega) (by omega) _ hseq
    refine CallsIn.mono cS ?_
    rintro e w' ⟨v, ss, rfl, hperm, hrow, _, hb⟩
    have hLn : ss.Nodup := hperm.nodup_iff.2 hnd
    have hLm : ∀ x, x ∈ ss ↔ (C.lookup x).isSome = true := fun x => by rw [hperm.mem_iff, hmem x]; cases C.lookup x <;> rfl
    have hone := listT_one (hT.nodup k C hn) hLn hLm
    refine ⟨v, rfl, ?_, ((Below.refl _ w1).alloc (Nat.le_refl _) _).trans (hb.mono (by simp))⟩
    unfold TxR
    rw [← hone]
    have hl : (inOrder ss).length = ss.length := List.length_mergeSort ss
    rw [hl]
    exact ownsRow_base_a hrow (by simp)
  have cK : ∀ mb W, CallsIn Fence.wide 5 Tryz.prog 100 #[.map mb] W fun e w' => e = .returned (.func (.func 137) #[] #[.pointer (some ⟨W.heap.size, 0, none⟩)]) ∧ w' = W.alloc (.cells #[.map mb] 111) := fun mb W => AnyZ.keys_in Tryz.keysSL Fence.wide 5 trivial rfl mb W
  have f1 : Fence.wide.fn 100 := trivial
  have f2 : Fence.wide.fn 99 := trivial
  have f3 : Fence.wide.fn 20 := trivial
  have f4 : Fence.wide.fn 98 := trivial
  clear hn hT hTok hm h
  refine (callsIn_wide (n := 6)).1 ?_
  refine callsIn_of_wp Tryz.func40 rfl trivial ?_ rfl
  simp only [Tryz.ntmps40, List.size_toArray, List.length_cons, List.length_nil, Nat.reduceAdd, Nat.reduceSub, Array.replicate_succ, Array.replicate_zero, List.push_toArray, List.append_toArray, List.nil_append, List.cons_append]
  gi_wp2_with (first
    | (gi_at_call 20; refine (callsIn_wide.2 hF).mono ?_; rintro e w1 ⟨rfl, b1⟩; obtain ⟨c0, hlk, n0, hSm⟩ := hstep w1 b1; have hS1 := hS w1 hSm)
    | (gi_at_call 98; refine (callsIn_wide.2 (isDir_yes n0)).mono ?_; rintro e w' ⟨rfl, hw'⟩; subst w')
    | (gi_at_call 100; refine (cK _ _).mono ?_; rintro e w' ⟨rfl, hw'⟩; subst w')
    | (gi_at_call 99; refine hS1.mono ?_; rintro e w2 ⟨v, rfl, ht, b2⟩))
  go_ret2
  exact ⟨v, rfl, ownsRow_base_a ht b1.size, b1.trans (b2.mono b1.size)⟩

set_option maxRecDepth 100000 in
set_option maxHeartbeats 4000000 in
theorem PT.list_no (h : PT w r T O) (hT : TrLv T) (p : List UInt8) (hp : p.length < 100000) (m : Int) (hm : w.cell? ⟨2, 0, none⟩ = some (.int .i64 m)) (hE : listE T p ≠ 0) :
    Calls Tryz.prog 40 #[wp r, tx p] w fun e w' => e = .returned (.tuple #[.slice none 0 0, uer (listE T p)]) ∧ Below w.heap.size w w' := by
  obtain ⟨gN, s, B, G, V, h⟩ := h
  have hTok := hT.toTrOk
  have hs1 := h.num.pos hTok
  have hF := h.find_ok hTok hs1 p hp m hm
  have hsome := findT_some hTok (p := p)
  unfold listE at hE ⊢
  by_cases hf : (findT T p).2 = 0
  · rw [if_neg (fun e => e hf)] at hE ⊢
    have hs := hsome hf
    have hkey := hT.key _ hs
    have hwf : (Lit.int .i64 (findT T p).1).wf = true := wf_few hkey.1 (by omega)
    rw [hf, uev_zero] at hF
    generalize (findT T p).1 = n at *
    have hdr : ¬ isDirT T n = true := fun e => hE (by rw [if_pos e])
    rw [if_neg hdr]
    obtain ⟨b, x, hn⟩ := isDir_file hs hdr
    have hstep : ∀ w1, Below w.heap.size w w1 → w1.cell? ⟨r, 0, none⟩ = some (.map (some gN)) ∧ (Instr.lookup 108 (.map (some gN)) (.int .i64 n) false).run Tryz.prog w1 = .ok (wp (B n)) w1 ∧ w1.cell? ⟨B n, 0, none⟩ = some (.map none) := fun w1 b1 => by
      have h1 := h.below b1
      have hlk := h1.look n hwf
      rw [hn] at hlk
      exact ⟨h1.c0, hlk, (h1.fcell hn).1⟩
    clear hE hdr hn
    go_enter Tryz.func40, Tryz.ntmps40
    go_wp2_with (first
      | (go_at_call 20; refine hF.mono ?_; rintro e w1 ⟨rfl, b1⟩; obtain ⟨c0, hlk, n0⟩ := hstep w1 b1)
      | (go_at_call 98; refine (isDir_no n0).mono ?_; rintro e w' ⟨rfl, hw'⟩; subst w'))
    go_ret2
    exact ⟨rfl, b1⟩
  · rw [if_pos hf] at hE ⊢
    rw [uev_ne hf] at hF
    generalize (findT T p).2 = z at *
    generalize (findT T p).1 = n at *
    clear hsome
    go_enter Tryz.func40, Tryz.ntmps40
    go_wp2_with (go_at_call 20; refine hF.mono ?_; rintro e w1 ⟨rfl, b1⟩)
    go_ret2
    exact ⟨rfl, b1⟩
end
end Go.Proofs.YtjkneekfijibiabGreatDoor

namespace Go.Proofs.YtjkneekfijibiabGreatDoor
open Go.RowKit Go.Maps

/-- Directories, and how often files are held, are small. -/
def Sm (k : Nat) (T : Wd) : Prop := (∀ i C, T i = some (.dir C) → C.length ≤ k) ∧ ∀ i b x, T i = some (.file b x) → x ≤ k ∧ b.length ≤ 200
section
variable {T : Wd} {k : Nat}
theorem Sm.more (h : Sm k T) {k' : Nat} (hk : k ≤ k') : Sm k' T := ⟨fun i C e => Nat.le_trans (h.1 i C e) hk, fun i b x e => ⟨Nat.le_trans (h.2 i b x e).1 hk, (h.2 i b x e).2⟩⟩
theorem Sm.set (h : Sm k T) (n : Int) {nd : Nd} (hd : ∀ C, nd = .dir C → C.length ≤ k) (hf : ∀ b x, nd = .file b x → x ≤ k ∧ b.length ≤ 200) : Sm k (setT T n nd) := by
  refine ⟨fun i C e => ?_, fun i b x e => ?_⟩
  · by_cases e1 : i = n
    · subst e1; rw [setT_same] at e; exact hd C (Option.some.inj e)
    · rw [setT_other _ e1] at e; exact h.1 i C e
  · by_cases e1 : i = n
    · subst e1; rw [setT_same] at e; exact hf b x (Option.some.inj e)
    · rw [setT_other _ e1] at e; exact h.2 i b x e
theorem Sm.add (h : Sm k T) (d n : Int) (nm : Nm) : Sm (k + 1) (addT T d nm n) := by
  cases hd : T d with
  | none => rw [show addT T d nm n = T by unfold addT; rw [hd]]; exact h.more (by omega)
  | some nd => cases nd with
    | file b x => rw [show addT T d nm n = T by unfold addT; rw [hd]]; exact h.more (by omega)
    | dir C =>
      rw [addT_eq hd]
      exact (h.more (Nat.le_succ k)).set d (fun C' e => by cases e; have := h.1 d C hd; simp; omega) (fun b x e => by cases e)
theorem Sm.del (h : Sm k T) (d : Int) (nm : Nm) : Sm k (delT T d nm) := by
  cases hd : T d with
  | none => rw [show delT T d nm = T by unfold delT; rw [hd]]; exact h
  | some nd => cases nd with
    | file b x => rw [show delT T d nm = T by unfold delT; rw [hd]]; exact h
    | dir C =>
      rw [delT_eq hd]
      exact h.set d (fun C' e => by cases e; exact Nat.le_trans (List.length_filter_le _ _) (h.1 d C hd)) (fun b x e => by cases e)
theorem Sm.sweep (h : Sm k T) : Sm k (sweepT T) := ⟨fun i C e => h.1 i C (sweepT_sub e), fun i b x e => h.2 i b x (sweepT_sub e)⟩
theorem Sm.link (h : Sm k T) (p q : List UInt8) : Sm (k + 1) (linkN T p q) := by
  unfold linkN; split
  · exact h.more (by omega)
  · exact h.add _ _ _
theorem Sm.unlink (h : Sm k T) (p : List UInt8) : Sm (k + 1) (unlinkN T p) := by
  unfold unlinkN; split
  · exact h.more (by omega)
  · exact ((h.del _ _).sweep).more (by omega)
theorem Sm.rename (h : Sm k T) (p q : List UInt8) : Sm (k + 1) (renameN T p q) := by
  unfold renameN; split
  · exact h.more (by omega)
  · exact (h.del _ _).add _ _ _
theorem Sm.make (h : Sm k T) (p : List UInt8) (dir : Bool) (n : Int) : Sm (k + 1) (makeN T p dir n) := by
  unfold makeN
  refine (h.set n ?_ ?_).add _ _ _
  · intro C e; cases dir <;> (simp [newNd] at e); rw [e]; simp
  · intro b x e; cases dir <;> (simp [newNd] at e); rw [e.1, ← e.2]; simp
theorem Sm.hold (h : Sm k T) (n by' : Int) (hb : by' ≤ 1) : Sm (k + 1) (holdN T n by') := by
  unfold holdN
  split
  · rename_i b x e
    split
    · exact h.more (by omega)
    · refine ((h.more (Nat.le_succ k)).set n (fun C e9 => by cases e9) (fun b' x' e9 => ?_)).sweep
      cases e9
      have := h.2 n b x e; exact ⟨by omega, this.2⟩
  · exact h.more (by omega)
theorem Sm.write (h : Sm k T) (n a : Int) (x : List UInt8) : Sm (k + 1) (writeN T n a x) := by
  unfold writeN
  by_cases hh : writeE T n a x ≠ 0 ∨ x = []
  · rw [if_pos hh]; exact h.more (by omega)
  · rw [if_neg hh]
    cases e : T n with
    | none => exact h.more (by omega)
    | some nd => cases nd with
      | dir C => exact h.more (by omega)
      | file b y =>
        simp only
        refine (h.set n (fun C e9 => by cases e9) (fun b' x' e9 => ?_)).more (by omega)
        cases e9
        have h2 := h.2 n b y e
        refine ⟨h2.1, ?_⟩
        have hE : writeE T n a x = 0 := by
          by_cases e9 : writeE T n a x = 0
          · exact e9
          · exact absurd (.inl e9) hh
        unfold writeE at hE
        have hf : fileT T n = 0 := by unfold fileT; rw [e]
        rw [if_neg (fun e => e hf)] at hE
        by_cases ha : a < 0
        · rw [if_pos ha] at hE; omega
        · rw [if_neg ha] at hE
          by_cases hl : (200 : Int) < x.length ∨ 200 - (x.length : Int) < a
          · rw [if_pos hl] at hE; omega
          · rw [overT_len]; omega
theorem Sm.cut (h : Sm k T) (n size : Int) : Sm (k + 1) (cutN T n size) := by
  unfold cutN
  split
  · rename_i b y e
    split
    · exact h.more (by omega)
    · exact (h.set n (fun C e9 => by cases e9) (fun b' x' e9 => by cases e9; have h2 := h.2 n b y e; exact ⟨h2.1, by simp; omega⟩)).more (by omega)
  · exact h.more (by omega)

theorem IsNum.few {s : Nat} (h : IsNum T s) (hT : TrOk T) : s ≤ 64 := by
  obtain ⟨ks, hn, rfl, m⟩ := h
  have := sub_len (b := (List.range 64).map (fun i : Nat => (i : Int))) hn (fun x hx => by
    have hk := hT.key x ((m x).1 hx)
    exact List.mem_map.2 ⟨x.toNat, List.mem_range.2 (by omega), by omega⟩)
  simpa using this

/-- What else holds is kept. -/
theorem TrLv.hold (hT : TrLv T) (n : Int) {by' : Int} (hb : by' = 1 ∨ by' = -1) (hx : ∀ b x, T n = some (.file b x) → x + 1 ≤ 1000) : TrLv (holdN T n by') := by
  by_cases hz : fileT T n = 0
  · obtain ⟨b, x, hn⟩ := fileT_zero hz
    rcases hb with rfl | rfl
    · have hT' := hT.setF (b' := b) (x' := x + 1) hn (hT.small n b x hn).1 (hx b x hn) (.inl (by omega))
      have hN : holdN T n 1 = setT T n (.file b (x + 1)) := by
        unfold holdN; rw [hn]; simp only
        rw [if_neg (by omega), show ((x : Int) + 1).toNat = x + 1 by omega]
        exact sweep_none hT'.toTrOk hT'.lv
      rw [hN]; exact hT'
    · cases x with
      | zero =>
        have hN : holdN T n (-1) = T := by unfold holdN; rw [hn]; simp only; rw [if_pos (by omega)]
        rw [hN]; exact hT
      | succ x => exact (drop_turn hT hn).2.2
  · have hN : holdN T n by' = T := by
      unfold holdN
      cases hn : T n with
      | none => rfl
      | some nd => cases nd with
        | dir C => rfl
        | file b x => exact absurd (by unfold fileT; rw [hn]) hz
    rw [hN]; exact hT
theorem TrLv.same_file (hT : TrLv T) {n : Int} {b b' : List UInt8} {x : Nat} (hn : T n = some (.file b x)) (hb : b'.length ≤ 256) : TrLv (setT T n (.file b' x)) := by
  refine hT.setF hn hb (hT.small n b x hn).2 ?_
  rcases hT.lv n _ hn with e | e | e
  · exact absurd e (file_nz hT.toTrOk hn)
  · exact .inr e
  · exact .inl e
theorem TrLv.write (hT : TrLv T) (n a : Int) (x : List UInt8) : TrLv (writeN T n a x) := by
  unfold writeN
  split
  · exact hT
  · rename_i hh
    split
    · rename_i b y e
      refine hT.same_file e ?_
      have hE : writeE T n a x = 0 := by
        by_cases e9 : writeE T n a x = 0
        · exact e9
        · exact absurd (.inl e9) hh
      have hs := (hT.small n b y e).1
      unfold writeE at hE
      have hf : fileT T n = 0 := by unfold fileT; rw [e]
      rw [if_neg (fun e => e hf)] at hE
      by_cases ha : a < 0
      · rw [if_pos ha] at hE; omega
      · rw [if_neg ha] at hE
        by_cases hl : (200 : Int) < x.length ∨ 200 - (x.length : Int) < a
        · rw [if_pos hl] at hE; omega
        · rw [overT_len]; omega
    · exact hT
theorem TrLv.cut (hT : TrLv T) (n size : Int) : TrLv (cutN T n size) := by
  unfold cutN
  split
  · rename_i b y e
    split
    · exact hT
    · exact hT.same_file e (by have := (hT.small n b y e).1; simp; omega)
  · exact hT
theorem TrLv.make (hT : TrLv T) {s : Nat} {p : List UInt8} (hE : makeE T s p = 0) {n : Int} (hn : IsFree T n) (h1 : n < 64) (dir : Bool) : TrLv (makeN T p dir n) := by
  obtain ⟨_, ⟨C, hd, hl⟩, hnm, _⟩ := makeE_zero hT.toTrOk hE
  exact (make_turn hT dir hd hl hnm hn.none hn.pos h1).2.2.2
end
end Go.Proofs.YtjkneekfijibiabGreatDoor

namespace Go.Proofs.YtjkneekfijibiabGreatDoor
open Go.RowKit Go.Maps

/-- One number more of an ENTRY. -/
def incR (D : DS) (d : Int) : DS := { D with R := fun j => if j = d then some ((D.R j).getD 0 + 1) else D.R j }
theorem incR_eq {D : DS} {d c : Int} (hc : D.R d = some c) : incR D d = { D with R := fun j => if j = d then some (c + 1) else D.R j } := by
  unfold incR
  congr 1
  funext j
  split
  · rename_i e; rw [e, hc]; rfl
  · rfl
/-- What is asked of the tree and of an ENTRY that is closed. -/
structure Cl (D : DS) (d : Int) (e : En) (c : Int) : Prop extends CanClose D d e c where
  lv : TrLv D.T
/-- Numbers of the table are of ENTRIES that are there. -/
def Live (D : DS) (N : Ns) : Prop := ∀ i (hi : i < N.length), 0 < N[i].1 → (D.E N[i].1).isSome = true
section
variable {D : DS} {d : Int} {e : En}
theorem closeK_more {c : Int} (hc : CanClose D d e c) (hm : 0 < c - 1) : closeK D d = { D with R := fun i => if i = d then some (c - 1) else D.R i } := by
  unfold closeK; rw [hc.ent, hc.cnt]; simp only; rw [if_pos hm]
theorem closeK_file {c : Int} (hc : CanClose D d e c) (hm : ¬ 0 < c - 1) (hk : e.kind = 1) : closeK D d = { T := holdN D.T e.node (-1), E := fun i => if i = d then none else D.E i, R := fun i => if i = d then none else if i = d then some (c - 1) else D.R i, P := D.P, nx := D.nx } := by
  unfold closeK; rw [hc.ent, hc.cnt]; simp only; rw [if_neg hm, if_pos hk]
theorem closeK_end {c : Int} (hc : CanClose D d e c) (hm : ¬ 0 < c - 1) (hk : e.kind ≠ 1) : closeK D d = { T := D.T, E := fun i => if i = d then none else D.E i, R := fun i => if i = d then none else if i = d then some (c - 1) else D.R i, P := fun i => if i = e.pipe then some (turnP ((D.P e.pipe).getD ([], 0, 0)) e.kind) else D.P i, nx := D.nx } := by
  unfold closeK; rw [hc.ent, hc.cnt]; simp only; rw [if_neg hm, if_neg hk]
end
/-- How often an ENTRY's number stands in a table; in all. -/
def cntN (d : Int) (N : Ns) : Nat := (N.filter (fun x => x.1 == d)).length
def cntS (d : Int) (Ts : List Ns) : Nat := (Ts.map (cntN d)).sum
theorem cntN_le (d : Int) (N : Ns) : cntN d N ≤ N.length := List.length_filter_le _ _
theorem cntN_set : ∀ (N : Ns) (d : Int) (i : Nat) (y : Int × Bool) (h : i < N.length), cntN d (N.set i y) + (if N[i].1 = d then 1 else 0) = cntN d N + (if y.1 = d then 1 else 0)
  | [], _, i, _, h => by simp at h
  | x :: N, d, 0, y, h => by
    simp only [List.set_cons_zero, List.getElem_cons_zero, cntN, List.filter_cons]
    by_cases e1 : x.1 = d <;> by_cases e2 : y.1 = d <;> simp [e1, e2]
  | x :: N, d, i + 1, y, h => by
    have ih := cntN_set N d i y (by simpa using h)
    simp only [List.set_cons_succ, List.getElem_cons_succ]
    unfold cntN at ih ⊢
    rw [List.filter_cons, List.filter_cons]
    by_cases e1 : x.1 = d
    · simp only [e1, beq_self_eq_true, if_true, List.length_cons]; omega
    · simp only [beq_eq_false_iff_ne.2 e1, Bool.false_eq_true, if_false]; omega
theorem cntS_set : ∀ (Ts : List Ns) (d : Int) (j : Nat) (N' : Ns) (h : j < Ts.length), cntS d (Ts.set j N') + cntN d Ts[j] = cntS d Ts + cntN d N'
  | [], _, j, _, h => by simp at h
  | x :: Ts, d, 0, N', h => by simp [cntS]; omega
  | x :: Ts, d, j + 1, N', h => by
    have ih := cntS_set Ts d j N' (by simpa using h)
    simp only [List.set_cons_succ, List.getElem_cons_succ]
    unfold cntS at ih ⊢
    simp only [List.map_cons, List.sum_cons]
    omega
/-- One number of one table turned. -/
theorem cnt_turn {Ts : List Ns} {j i : Nat} (hj : j < Ts.length) (hi : i < Ts[j].length) (d : Int) (y : Int × Bool) : cntS d (Ts.set j (Ts[j].set i y)) + (if Ts[j][i].1 = d then 1 else 0) = cntS d Ts + (if y.1 = d then 1 else 0) := by
  have h1 := cntS_set Ts d j (Ts[j].set i y) hj
  have h2 := cntN_set Ts[j] d i y hi
  omega
theorem cntS_le : ∀ (d : Int) (Ts : List Ns), (∀ N ∈ Ts, N.length = 8) → cntS d Ts ≤ 8 * Ts.length
  | _, [], _ => Nat.zero_le _
  | d, x :: Ts, h => by
    have ih := cntS_le d Ts (fun N hN => h N (List.mem_cons_of_mem _ hN))
    have h1 := cntN_le d x
    have h2 := h x List.mem_cons_self
    unfold cntS at ih ⊢
    simp only [List.map_cons, List.sum_cons, List.length_cons]
    omega
theorem cntN_pos {N : Ns} {i : Nat} (hi : i < N.length) : 0 < cntN N[i].1 N := List.length_pos_of_mem (List.mem_filter.2 ⟨List.getElem_mem hi, by simp⟩)
theorem cntS_pos : ∀ {Ts : List Ns} {j i : Nat} (hj : j < Ts.length) (hi : i < Ts[j].length), 0 < cntS Ts[j][i].1 Ts
  | x :: Ts, 0, i, _, hi => by
    have := cntN_pos (N := x) (i := i) hi
    simp only [cntS, List.map_cons, List.sum_cons, List.getElem_cons_zero]
    omega
  | x :: Ts, j + 1, i, hj, hi => by
    have ih := cntS_pos (Ts := Ts) (j := j) (i := i) (by simpa using hj) hi
    simp only [cntS, List.map_cons, List.sum_cons, List.getElem_cons_succ] at ih ⊢
    omega
/-- What holds of what is open, so many numbers of each ENTRY. -/
structure InvC (D : DS) (C : Int → Nat) (k : Nat) : Prop where
  giv : Given D
  lv : TrLv D.T
  sm : Sm k D.T
  ent : ∀ d e, D.E d = some e → EnOk D e
  cE : ∀ d, 0 < d → ((D.E d).isSome = true ↔ 0 < C d)
  cR : ∀ d, 0 < d → D.R d = if 0 < C d then some (C d : Int) else none
section
variable {D : DS} {C C' : Int → Nat} {k : Nat} {d : Int} {e : En}
theorem InvC.congr (h : InvC D C k) (hc : ∀ d, 0 < d → C d = C' d) : InvC D C' k :=
  ⟨h.giv, h.lv, h.sm, h.ent, fun d hd => by rw [← hc d hd]; exact h.cE d hd, fun d hd => by rw [← hc d hd]; exact h.cR d hd⟩
theorem InvC.more (h : InvC D C k) {k' : Nat} (hk : k ≤ k') : InvC D C k' := ⟨h.giv, h.lv, h.sm.more hk, h.ent, h.cE, h.cR⟩
theorem InvC.cl (h : InvC D C k) (hd : 0 < d) (hc : 0 < C d) (hb : C d < 100000) : ∃ e, Cl D d e (C d) := by
  obtain ⟨e, he⟩ := Option.isSome_iff_exists.1 ((h.cE d hd).2 hc)
  have ok := h.ent d e he
  have hg := h.giv.e d (by rw [he]; rfl)
  have hn := h.giv.n1
  refine ⟨e, ⟨hd, by omega, he, by rw [h.cR d hd, if_pos hc], by omega, by omega, ok.kind, fun hk => ?_, fun hk => ?_⟩, h.lv⟩
  · have := ok.file hk; omega
  · obtain ⟨a1, a2, p, a3, a4, a5, a6, a7, a8⟩ := ok.pipe hk
    exact ⟨by omega, by omega, p, a3, a4, a5, a6, a7, a8⟩
theorem EnOk.keep {D D' : DS} (h : EnOk D e) (hn : D.nx ≤ D'.nx) (hP : ∀ p x, D.P p = some x → x.1.length ≤ 16 → 0 ≤ x.2.1 → x.2.1 < 1000 → 0 ≤ x.2.2 → x.2.2 < 1000 → ∃ y, D'.P p = some y ∧ y.1.length ≤ 16 ∧ 0 ≤ y.2.1 ∧ y.2.1 < 1000 ∧ 0 ≤ y.2.2 ∧ y.2.2 < 1000) : EnOk D' e := by
  refine ⟨h.kind, h.file, h.frm, h.into, fun hk => ?_⟩
  obtain ⟨a1, a2, p, a3, a4, a5, a6, a7, a8⟩ := h.pipe hk
  exact ⟨a1, by omega, hP _ p a3 a4 a5 a6 a7 a8⟩
theorem EnOk.same {D D' : DS} (h : EnOk D e) (hn : D.nx ≤ D'.nx) (hP : D'.P = D.P) : EnOk D' e := h.keep hn (fun p x a b c d e f => ⟨x, by rw [hP]; exact a, b, c, d, e, f⟩)
/-- One number more. -/
theorem InvC.inc (h : InvC D C k) (hd : 0 < d) (hc : 0 < C d) : InvC (incR D d) (fun x => if x = d then C d + 1 else C x) k := by
  have hR : D.R d = some (C d : Int) := by rw [h.cR d hd, if_pos hc]
  rw [incR_eq hR]
  refine ⟨⟨h.giv.n0, h.giv.n1, h.giv.e, fun x hx => ?_, h.giv.p⟩, h.lv, h.sm, fun x ex hx => (h.ent x ex hx).same (Int.le_refl _) rfl, fun x hx => ?_, fun x hx => ?_⟩
  · have hx' : (if x = d then some ((C d : Int) + 1) else D.R x).isSome = true := hx
    by_cases e1 : x = d
    · subst e1; exact h.giv.r x (by rw [hR]; rfl)
    · rw [if_neg e1] at hx'; exact h.giv.r x hx'
  · show (D.E x).isSome = true ↔ 0 < (if x = d then C d + 1 else C x)
    rw [h.cE x hx]
    by_cases e1 : x = d
    · subst e1; simp [hc]
    · rw [if_neg e1]
  · show (if x = d then some ((C d : Int) + 1) else D.R x) = _
    by_cases e1 : x = d
    · subst e1
      simp
    · rw [if_neg e1, h.cR x hx]
      simp only [if_neg e1]
theorem Sm.drop {T : Wd} (h : Sm k T) (n : Int) : Sm k (holdN T n (-1)) := by
  unfold holdN
  split
  · rename_i b x e
    split
    · exact h
    · refine (h.set n (fun C e9 => by cases e9) (fun b' x' e9 => ?_)).sweep
      cases e9
      have := h.2 n b x e; exact ⟨by omega, this.2⟩
  · exact h
/-- One number less. -/
theorem InvC.close (h : InvC D C k) (hk : k ≤ 900) (hd : 0 < d) (hc : 0 < C d) (hb : C d < 100000) : InvC (closeK D d) (fun x => if x = d then C d - 1 else C x) k := by
  obtain ⟨e, cl⟩ := h.cl hd hc hb
  have hgd := h.giv.e d (by rw [cl.ent]; rfl)
  by_cases hm : 0 < ((C d : Int)) - 1
  · rw [closeK_more cl.toCanClose hm]
    refine ⟨⟨h.giv.n0, h.giv.n1, h.giv.e, fun x hx => ?_, h.giv.p⟩, h.lv, h.sm, fun x ex hx => (h.ent x ex hx).same (Int.le_refl _) rfl, fun x hx => ?_, fun x hx => ?_⟩
    · have hx' : (if x = d then some ((C d : Int) - 1) else D.R x).isSome = true := hx
      by_cases e1 : x = d
      · subst e1; exact hgd
      · rw [if_neg e1] at hx'; exact h.giv.r x hx'
    · show (D.E x).isSome = true ↔ 0 < (if x = d then C d - 1 else C x)
      rw [h.cE x hx]
      by_cases e1 : x = d
      · subst e1; rw [if_pos rfl]; omega
      · rw [if_neg e1]
    · show (if x = d then some ((C d : Int) - 1) else D.R x) = _
      by_cases e1 : x = d
      · subst e1
        simp only [if_true]
        rw [if_pos (by omega)]
        congr 1; omega
      · rw [if_neg e1, h.cR x hx]
        simp only [if_neg e1]
  · have hc1 : C d = 1 := by omega
    have hE : ∀ x, 0 < x → ((if x = d then none else D.E x : Option En).isSome = true ↔ 0 < (if x = d then C d - 1 else C x)) := fun x hx => by
      by_cases e1 : x = d
      · subst e1; simp [hc1]
      · rw [if_neg e1, if_neg e1]; exact h.cE x hx
    have hR : ∀ x, 0 < x → (if x = d then none else if x = d then some ((C d : Int) - 1) else D.R x) = if 0 < (if x = d then C d - 1 else C x) then some (((if x = d then C d - 1 else C x : Nat)) : Int) else none := fun x hx => by
      by_cases e1 : x = d
      · subst e1; simp [hc1]
      · rw [if_neg e1, if_neg e1, h.cR x hx]
        simp only [if_neg e1]
    have hgE : ∀ x, (if x = d then none else D.E x : Option En).isSome = true → 0 < x ∧ x ≤ D.nx := fun x hx => by
      by_cases e1 : x = d
      · rw [if_pos e1] at hx; cases hx
      · rw [if_neg e1] at hx; exact h.giv.e x hx
    have hgR : ∀ x, (if x = d then none else if x = d then some ((C d : Int) - 1) else D.R x : Option Int).isSome = true → 0 < x ∧ x ≤ D.nx := fun x hx => by
      by_cases e1 : x = d
      · rw [if_pos e1] at hx; cases hx
      · rw [if_neg e1, if_neg e1] at hx; exact h.giv.r x hx
    by_cases hkd : e.kind = 1
    · rw [closeK_file cl.toCanClose hm hkd]
      refine ⟨⟨h.giv.n0, h.giv.n1, hgE, hgR, h.giv.p⟩, h.lv.hold e.node (.inr rfl) (fun b x hx => by have := (h.sm.2 _ b x hx).1; omega), h.sm.drop _, fun x ex hx => ?_, hE, hR⟩
      have hx' : (if x = d then none else D.E x : Option En) = some ex := hx
      by_cases e1 : x = d
      · rw [if_pos e1] at hx'; cases hx'
      · rw [if_neg e1] at hx'; exact (h.ent x ex hx').same (Int.le_refl _) rfl
    · obtain ⟨a1, a2, p, a3, a4, a5, a6, a7, a8⟩ := (h.ent d e cl.ent).pipe hkd
      rw [closeK_end cl.toCanClose hm hkd]
      refine ⟨⟨h.giv.n0, h.giv.n1, hgE, hgR, fun x hx => ?_⟩, h.lv, h.sm, fun x ex hx => ?_, hE, hR⟩
      · have hx' : (if x = e.pipe then some (turnP ((D.P e.pipe).getD ([], 0, 0)) e.kind) else D.P x).isSome = true := hx
        by_cases e1 : x = e.pipe
        · rw [e1]; exact ⟨a1, a2⟩
        · rw [if_neg e1] at hx'; exact h.giv.p x hx'
      · have hx' : (if x = d then none else D.E x : Option En) = some ex := hx
        by_cases e1 : x = d
        · rw [if_pos e1] at hx'; cases hx'
        · rw [if_neg e1] at hx'
          refine (h.ent x ex hx').keep (Int.le_refl _) (fun q y b1 b2 b3 b4 b5 b6 => ?_)
          by_cases e2 : q = e.pipe
          · refine ⟨turnP p e.kind, by show (if q = e.pipe then some (turnP ((D.P e.pipe).getD ([], 0, 0)) e.kind) else D.P q) = _; rw [if_pos e2, a3]; rfl, ?_⟩
            unfold turnP clF clI
            simp only
            refine ⟨a4, ?_, ?_, ?_, ?_⟩ <;> (split <;> omega)
          · exact ⟨y, (if_neg e2).trans b1, b2, b3, b4, b5, b6⟩
/-- An ENTRY less is never another one more. -/
theorem closeK_sub {x : Int} (h : ((closeK D d).E x).isSome = true) : (D.E x).isSome = true := by
  unfold closeK at h
  split at h
  · split at h
    · exact h
    · split at h
      · have h' : (if x = d then none else D.E x : Option En).isSome = true := h
        by_cases e1 : x = d
        · rw [if_pos e1] at h'; cases h'
        · rw [if_neg e1] at h'; exact h'
      · have h' : (if x = d then none else D.E x : Option En).isSome = true := h
        by_cases e1 : x = d
        · rw [if_pos e1] at h'; cases h'
        · rw [if_neg e1] at h'; exact h'
  · exact h
end
end Go.Proofs.YtjkneekfijibiabGreatDoor

namespace Go.Proofs.YtjkneekfijibiabGreatDoor
open Go.RowKit Go.Maps

/-- So it stands with all tables. -/
structure Inv (D : DS) (Ts : List Ns) (k : Nat) : Prop where
  core : InvC D (fun d => cntS d Ts) k
  tab : ∀ N ∈ Ts, N.length = 8 ∧ ∀ x ∈ N, 0 ≤ x.1 ∧ (x.1 = 0 → x.2 = false)
  few : Ts.length ≤ 8
/-- A number of the table is of an ENTRY with a count. -/
def Cnted (D : DS) (N : Ns) : Prop := ∀ i (hi : i < N.length), 0 < N[i].1 → ∃ e c, D.E N[i].1 = some e ∧ D.R N[i].1 = some c ∧ 0 ≤ c ∧ c < 100000
section
variable {D : DS} {Ts : List Ns} {k j i : Nat} {d : Int} {e : En}
theorem Cnted.live {N : Ns} (h : Cnted D N) : Live D N := fun i hi h0 => by
  obtain ⟨e, c, h1, _⟩ := h i hi h0
  rw [h1]; rfl
theorem Inv.more (h : Inv D Ts k) {k' : Nat} (hk : k ≤ k') : Inv D Ts k' := ⟨h.core.more hk, h.tab, h.few⟩
theorem Inv.len (h : Inv D Ts k) (hj : j < Ts.length) : Ts[j].length = 8 := (h.tab _ (List.getElem_mem hj)).1
theorem Inv.few64 (h : Inv D Ts k) (d : Int) : cntS d Ts ≤ 64 := by
  have := cntS_le d Ts (fun N hN => (h.tab N hN).1)
  have := h.few
  omega
theorem Inv.cl (h : Inv D Ts k) (hj : j < Ts.length) (hi : i < Ts[j].length) (h0 : 0 < Ts[j][i].1) : ∃ e, Cl D Ts[j][i].1 e (cntS Ts[j][i].1 Ts) :=
  h.core.cl h0 (cntS_pos hj hi) (by have := h.few64 Ts[j][i].1; omega)
theorem Inv.cnted (h : Inv D Ts k) (hj : j < Ts.length) : Cnted D Ts[j] := fun i hi h0 => by
  obtain ⟨e, c⟩ := h.cl hj hi h0
  exact ⟨e, _, c.ent, c.cnt, by omega, c.c1⟩
theorem Inv.live (h : Inv D Ts k) (hj : j < Ts.length) : Live D Ts[j] := (h.cnted hj).live
theorem tab_set {P : Ns → Prop} {N' : Ns} (h : ∀ N ∈ Ts, P N) (hN : P N') : ∀ N ∈ Ts.set j N', P N := fun N hm => by
  rcases List.mem_or_eq_of_mem_set hm with h1 | h1
  · exact h N h1
  · rw [h1]; exact hN
theorem row_set {N : Ns} (h : N.length = 8 ∧ ∀ x ∈ N, 0 ≤ x.1 ∧ (x.1 = 0 → x.2 = false)) (y : Int × Bool) (hy : 0 ≤ y.1 ∧ (y.1 = 0 → y.2 = false)) : (N.set i y).length = 8 ∧ ∀ x ∈ N.set i y, 0 ≤ x.1 ∧ (x.1 = 0 → x.2 = false) := by
  refine ⟨by rw [List.length_set]; exact h.1, fun x hx => ?_⟩
  rcases List.mem_or_eq_of_mem_set hx with h1 | h1
  · exact h.2 x h1
  · rw [h1]; exact hy
theorem Inv.close (h : Inv D Ts k) (hk : k ≤ 900) (hj : j < Ts.length) (hi : i < Ts[j].length) (h0 : 0 < Ts[j][i].1) : Inv (closeK D Ts[j][i].1) (Ts.set j (Ts[j].set i (0, false))) k := by
  have hb := h.few64 Ts[j][i].1
  refine ⟨(h.core.close hk h0 (cntS_pos hj hi) (by omega)).congr (fun x hx => ?_), tab_set h.tab (row_set (h.tab _ (List.getElem_mem hj)) _ ⟨by simp, fun _ => rfl⟩), by rw [List.length_set]; exact h.few⟩
  have ht := cnt_turn hj hi x (0, false)
  have hp := cntS_pos hj hi
  simp only at ht ⊢
  rw [if_neg (show ¬ (0 : Int) = x by omega)] at ht
  by_cases e1 : x = Ts[j][i].1
  · rw [if_pos e1]
    rw [if_pos e1.symm] at ht
    rw [← e1]
    omega
  · rw [if_neg e1]
    rw [if_neg (fun z => e1 z.symm)] at ht
    omega
/-- One number more, at a free place. -/
theorem Inv.dup (h : Inv D Ts k) (hj : j < Ts.length) (hi : i < Ts[j].length) (h0 : Ts[j][i].1 = 0) (hd : 0 < d) (hc : 0 < cntS d Ts) (c : Bool) : Inv (incR D d) (Ts.set j (Ts[j].set i (d, c))) k := by
  refine ⟨(h.core.inc hd hc).congr (fun x hx => ?_), tab_set h.tab (row_set (h.tab _ (List.getElem_mem hj)) _ ⟨by simp; omega, fun z => by simp at z; omega⟩), by rw [List.length_set]; exact h.few⟩
  have ht := cnt_turn hj hi x (d, c)
  simp only at ht ⊢
  rw [h0, if_neg (show ¬ (0 : Int) = x by omega)] at ht
  by_cases e1 : x = d
  · subst e1
    rw [if_pos rfl] at ht ⊢
    omega
  · rw [if_neg e1]
    rw [if_neg (fun z => e1 z.symm)] at ht
    omega
/-- Dup2 onto what is another one's. -/
theorem Inv.dup2 (h : Inv D Ts k) (hk : k ≤ 900) (hj : j < Ts.length) (hi : i < Ts[j].length) (h0 : 0 < Ts[j][i].1) (hd : 0 < d) (hc : 0 < cntS d Ts) : Inv (closeK (incR D d) Ts[j][i].1) (Ts.set j (Ts[j].set i (d, false))) k ∧ ∃ e c, Cl (incR D d) Ts[j][i].1 e c := by
  have h1 := h.core.inc hd hc
  have hp := cntS_pos hj hi
  have hb := h.few64 Ts[j][i].1
  have hb2 : (if Ts[j][i].1 = d then cntS d Ts + 1 else cntS Ts[j][i].1 Ts) < 100000 := by
    by_cases e1 : Ts[j][i].1 = d
    · rw [if_pos e1, ← e1]; omega
    · rw [if_neg e1]; omega
  have hp2 : 0 < (if Ts[j][i].1 = d then cntS d Ts + 1 else cntS Ts[j][i].1 Ts) := by
    by_cases e1 : Ts[j][i].1 = d
    · rw [if_pos e1]; omega
    · rw [if_neg e1]; omega
  obtain ⟨e, cl⟩ := h1.cl h0 hp2 hb2
  refine ⟨⟨(h1.close hk h0 hp2 hb2).congr (fun x hx => ?_), tab_set h.tab (row_set (h.tab _ (List.getElem_mem hj)) _ ⟨by simp; omega, fun z => by simp at z; omega⟩), by rw [List.length_set]; exact h.few⟩, e, _, cl⟩
  have ht := cnt_turn hj hi x (d, false)
  simp only at ht ⊢
  by_cases e1 : x = Ts[j][i].1
  · rw [if_pos e1]
    rw [if_pos e1.symm] at ht
    rw [← e1]
    by_cases e2 : x = d
    · subst e2
      rw [if_pos rfl] at ht ⊢
      omega
    · rw [if_neg e2]
      rw [if_neg (fun z => e2 z.symm)] at ht
      omega
  · rw [if_neg e1]
    rw [if_neg (fun z => e1 z.symm)] at ht
    by_cases e2 : x = d
    · subst e2
      rw [if_pos rfl] at ht ⊢
      omega
    · rw [if_neg e2]
      rw [if_neg (fun z => e2 z.symm)] at ht
      omega
theorem Inv.mark (h : Inv D Ts k) (hj : j < Ts.length) (x : Int) (c : Bool) : Inv D (Ts.set j (markN Ts[j] x c)) k := by
  unfold markN
  split
  · rename_i hx
    obtain ⟨i, rfl, hi, hiL, h0⟩ := hasN_at hx (h.len hj)
    rw [getD_in hiL, show (i : Int).toNat = i by omega]
    refine ⟨h.core.congr (fun x hx => ?_), tab_set h.tab (row_set (h.tab _ (List.getElem_mem hj)) _ ⟨by simp; omega, fun z => by simp at z; omega⟩), by rw [List.length_set]; exact h.few⟩
    have ht := cnt_turn hj hiL x (Ts[j][i].1, c)
    simp only at ht ⊢
    omega
  · rw [List.set_getElem_self]; exact h
/-- An ENTRY's own turn. -/
theorem Inv.putE (h : Inv D Ts k) (he : D.E d = some e) {e' : En} (hok : EnOk D e') : Inv { D with E := fun i => if i = d then some e' else D.E i } Ts k := by
  have hs : ∀ x, (if x = d then some e' else D.E x).isSome = (D.E x).isSome := fun x => by
    by_cases e1 : x = d
    · rw [if_pos e1, e1, he]; rfl
    · rw [if_neg e1]
  refine ⟨⟨⟨h.core.giv.n0, h.core.giv.n1, fun x hx => h.core.giv.e x (by rw [← hs]; exact hx), h.core.giv.r, h.core.giv.p⟩, h.core.lv, h.core.sm, fun x ex hx => ?_, fun x hx => by show (if x = d then some e' else D.E x).isSome = true ↔ _; rw [hs]; exact h.core.cE x hx, h.core.cR⟩, h.tab, h.few⟩
  have hx' : (if x = d then some e' else D.E x) = some ex := hx
  by_cases e1 : x = d
  · rw [if_pos e1] at hx'
    obtain rfl := Option.some.inj hx'
    exact hok.same (Int.le_refl _) rfl
  · rw [if_neg e1] at hx'
    exact (h.core.ent x ex hx').same (Int.le_refl _) rfl
/-- A pipe's own turn. -/
theorem Inv.putP (h : Inv D Ts k) {p : Int} {x y : Pi} (hp : D.P p = some x) (hy : y.1.length ≤ 16 ∧ 0 ≤ y.2.1 ∧ y.2.1 < 1000 ∧ 0 ≤ y.2.2 ∧ y.2.2 < 1000) : Inv { D with P := fun i => if i = p then some y else D.P i } Ts k := by
  refine ⟨⟨⟨h.core.giv.n0, h.core.giv.n1, h.core.giv.e, h.core.giv.r, fun q hq => ?_⟩, h.core.lv, h.core.sm, fun q ex hx => (h.core.ent q ex hx).keep (Int.le_refl _) (fun r z a b c d e f => ?_), h.core.cE, h.core.cR⟩, h.tab, h.few⟩
  · have hq' : (if q = p then some y else D.P q).isSome = true := hq
    by_cases e1 : q = p
    · rw [e1]; exact h.core.giv.p p (by rw [hp]; rfl)
    · rw [if_neg e1] at hq'; exact h.core.giv.p q hq'
  · by_cases e1 : r = p
    · exact ⟨y, if_pos e1, hy⟩
    · exact ⟨z, (if_neg e1).trans a, b, c, d, e, f⟩
/-- The tree's own turn. -/
theorem Inv.putT (h : Inv D Ts k) {T' : Wd} {k' : Nat} (hT : TrLv T') (hs : Sm k' T') : Inv { D with T := T' } Ts k' :=
  ⟨⟨⟨h.core.giv.n0, h.core.giv.n1, h.core.giv.e, h.core.giv.r, h.core.giv.p⟩, hT, hs, fun q ex hx => (h.core.ent q ex hx).same (Int.le_refl _) rfl, h.core.cE, h.core.cR⟩, h.tab, h.few⟩
theorem Inv.unlink (h : Inv D Ts k) (p : List UInt8) : Inv { D with T := unlinkN D.T p } Ts (k + 1) := h.putT (h.core.lv.unlink p) (h.core.sm.unlink p)
/-- A new ENTRY, for a free number. -/
theorem Inv.add (h : Inv D Ts k) (hn : D.nx < 899) (hj : j < Ts.length) (hl : ¬ leastN Ts[j] < 0) (hok : EnOk (addD D e) e) : Inv (addD D e) (Ts.set j (addN D Ts[j])) k := by
  have g := h.core.giv
  obtain ⟨n1, n2, n3⟩ := g.new
  rcases least_lt (N := Ts[j]) with hx9 | ⟨i, hi, hiL, hi0⟩
  · omega
  have hN : addN D Ts[j] = Ts[j].set i (D.nx + 1, false) := by unfold addN; rw [hi, show (i : Int).toNat = i by omega]
  have h0 := g.n0
  have hz : cntS (D.nx + 1) Ts = 0 := by
    have := h.core.cE (D.nx + 1) (by omega)
    rw [n1] at this
    simp at this
    exact this
  rw [hN]
  have hcnt : ∀ x, 0 < x → cntS x (Ts.set j (Ts[j].set i (D.nx + 1, false))) = if x = D.nx + 1 then 1 else cntS x Ts := fun x hx => by
    have ht := cnt_turn hj hiL x (D.nx + 1, false)
    simp only at ht
    rw [hi0, if_neg (show ¬ (0 : Int) = x by omega)] at ht
    by_cases e1 : x = D.nx + 1
    · rw [if_pos e1]
      rw [if_pos e1.symm, e1, hz] at ht
      rw [e1]; omega
    · rw [if_neg e1]
      rw [if_neg (fun z => e1 z.symm)] at ht
      omega
  refine ⟨⟨g.add hn e, h.core.lv, h.core.sm, fun x ex hx => ?_, fun x hx => ?_, fun x hx => ?_⟩, tab_set h.tab (row_set (h.tab _ (List.getElem_mem hj)) _ ⟨by simp; omega, fun z => by simp at z; omega⟩), by rw [List.length_set]; exact h.few⟩
  · have hx' : (if x = D.nx + 1 then some e else D.E x) = some ex := hx
    by_cases e1 : x = D.nx + 1
    · rw [if_pos e1] at hx'
      obtain rfl := Option.some.inj hx'
      exact hok
    · rw [if_neg e1] at hx'
      exact (h.core.ent x ex hx').same (by show D.nx ≤ D.nx + 1; omega) rfl
  · show (if x = D.nx + 1 then some e else D.E x).isSome = true ↔ _
    rw [hcnt x hx]
    by_cases e1 : x = D.nx + 1
    · rw [if_pos e1, if_pos e1]; simp
    · rw [if_neg e1, if_neg e1]; exact h.core.cE x hx
  · show (if x = D.nx + 1 then some 1 else D.R x) = _
    rw [hcnt x hx]
    by_cases e1 : x = D.nx + 1
    · simp [e1]
    · rw [if_neg e1, if_neg e1, h.core.cR x hx]
theorem getT_set {Ts : List Ns} {j : Nat} (_ : j < Ts.length) (N' : Ns) (h : j < (Ts.set j N').length) : (Ts.set j N')[j] = N' := List.getElem_set_self h
theorem set_setT (Ts : List Ns) (j : Nat) (a b : Ns) : (Ts.set j a).set j b = Ts.set j b := List.set_set _
theorem Inv.setSelf (h : Inv D Ts k) (hj : j < Ts.length) : Inv D (Ts.set j Ts[j]) k := by rw [List.set_getElem_self]; exact h
/-- File keeps it. -/
theorem Inv.file {n s : Nat} {p : List UInt8} {pr : Int} {mk : Bool} {x c : Int} {D' : DS} {N' : Ns} (h : Inv D Ts k) (hk : k ≤ 890) (hn : D.nx < 899) (hj : j < Ts.length) (hs : IsNum D.T s) (hF : FileO D Ts[j] n s p pr mk x c D' N') : Inv D' (Ts.set j N') (k + 2) := by
  have hlv := h.core.lv
  have hadd : ∀ T' nd, TrLv T' → Sm (k + 2) T' → 1 ≤ pr ∧ pr ≤ 3 → 0 ≤ nd → nd < 1000 → roomy Ts[j] n → Inv (addD { D with T := T' } ⟨1, pr, nd, 0, 0⟩) (Ts.set j (addN D Ts[j])) (k + 2) := fun T' nd hT' hS' hp h0 h1 hr =>
    (h.putT (T' := T') hT' hS').add (D := { D with T := T' }) (e := ⟨1, pr, nd, 0, 0⟩) hn hj hr.1 ⟨.inl rfl, fun _ => ⟨hp.1, hp.2, h0, h1, by simp, by simp⟩, fun z => by simp at z, fun z => by simp at z, fun z => absurd rfl z⟩
  cases hF with
  | opened hp hr hE hh =>
    have hkey := hlv.key _ (findT_some hlv.toTrOk hE)
    exact hadd _ _ (hlv.hold _ (.inl rfl) (fun b x hx => by have := (h.core.sm.2 _ b x hx).1; omega)) ((h.core.sm.hold _ 1 (by omega)).more (by omega)) hp hkey.1 (by omega) hr
  | made hp hr hE hm hM z hz =>
    have hz64 : z < 64 := by
      have hmh := made_hold hlv.toTrOk hM hz
      have hs60 := (makeE_zero hlv.toTrOk hM).2.2.2
      have h9 := hs.free (k := z.toNat) (fun i hi => hz.least i (by omega) (by have := hz.pos; omega))
      have := hz.pos
      omega
    have hlv1 := hlv.make hM hz hz64 false
    have hmh := made_hold hlv.toTrOk hM hz
    exact hadd _ _ (hlv1.hold _ (.inl rfl) (fun b x hx => by have := hmh.2 b x hx; omega)) ((h.core.sm.make p false z).hold _ 1 (by omega)) hp hz.pos (by omega) hr
  | _ => exact (h.setSelf hj).more (by omega)
end
end Go.Proofs.YtjkneekfijibiabGreatDoor
