/- Package tree: where names lead, and Find, by their Go text. -/
import Derived.Test.YtjkneekfijibiabGreatDoorUTree
namespace Go.Proofs.YtjkneekfijibiabGreatDoor
open Go.RowKit Go.Maps

theorem cut_ok (z : List UInt8) (hz : z.length < 100000) (w : World) (m : Int) (hm : w.cell? ⟨2, 0, none⟩ = some (.int .i64 m)) :
    Calls Tryz.prog 122 #[tx z, .string ⟨#[47]⟩] w fun e w' => e = .returned (.tuple #[tx (Lib.cut z [47]).1, tx (Lib.cut z [47]).2.1, .bool (Lib.cut z [47]).2.2]) ∧ ∃ n, w' = w.drewN n := by
  have hs : (⟨z.toArray⟩ : ByteArray).size = z.length := by simp [ByteArray.size]
  exact Any.strings_Cut Tryz.cutL ⟨z.toArray⟩ ⟨#[47]⟩ m w (by rw [hs]; omega) hm

theorem drew_drew (w : World) (k j : Nat) : (w.drewN k).drewN j = w.drewN (k + j) := by simp [World.drewN, Nat.add_assoc]

theorem cut_less {q : List UInt8} (h : q ≠ []) : (Lib.cut q [47]).2.1.length < q.length := by
  have hp : 0 < q.length := List.length_pos_iff.2 h
  unfold Lib.cut
  split
  · simp only [List.length_drop, List.length_cons, List.length_nil]; omega
  · exact hp

section
variable {w w' : World} {r gN s : Nat} {T : Wd} {Z : Int → Nat} {B G : Int → Nat} {V : Int → Value} {O : Nat → Prop}

set_option maxRecDepth 100000 in
set_option maxHeartbeats 4000000 in
theorem PTr.lead_ok (h : PTr w r gN s T Z B G V O) (hT : TrOk T) (hs : 1 ≤ s) (q : List UInt8) (l : List Nm) (hq : Jn q l) (hn : ∀ x ∈ l, isName x = true) (hql : q.length < 100000) (m : Int) (hm : w.cell? ⟨2, 0, none⟩ = some (.int .i64 m)) :
    Calls Tryz.prog 69 #[wp r, tx q] w fun e w' => e = .returned (.tuple #[.int .i64 (leadT T 0 l).1, uev (leadT T 0 l).2]) ∧ ∃ n, w' = w.drewN n := by
  have hN := h.nodes_ok
  have hs0 : ((s : Int) == 0) = false := by simp; omega
  obtain ⟨R, hR⟩ : ∃ R, leadT T 0 l = R := ⟨_, rfl⟩
  rw [hR]
  go_enter Tryz.func69, Tryz.ntmps69
  go_wp2_with (go_at_call 13; refine hN.mono ?_; rintro e w' ⟨rfl, hw'⟩; subst w')
  clear hN hs0
  go_loopg [1, 6] q.length (fun mm s1 s6 wr => ∃ (q' : List UInt8) (l' : List Nm) (n : Int) (k : Nat), mm = q'.length ∧ q'.length ≤ q.length ∧ s1 = tx q' ∧ s6 = .int .i64 n ∧ Jn q' l' ∧ (∀ x ∈ l', isName x = true) ∧ (T n).isSome = true ∧ leadT T n l' = R ∧ wr = w.drewN k)
  case atStart => exact ⟨q, l, 0, 0, rfl, Nat.le_refl _, rfl, rfl, hq, hn, by obtain ⟨C, e⟩ := hT.root; rw [e]; rfl, hR, rfl⟩
  case round =>
    obtain ⟨q', l', n, k, hmm, hle, rfl, rfl, hj, hnn, hsm, hl, hw⟩ := hrel
    have h1 := h.drew k
    have hm1 : (w.drewN k).cell? ⟨2, 0, none⟩ = some (.int .i64 m) := hm
    rw [← hw] at h1 hm1
    have HW : Hidd (wr = w.drewN k) := ⟨hw⟩
    clear hw
    have c0 := h1.c0
    have hkey := hT.key n hsm
    have hwf : (Lit.int .i64 n).wf = true := wf_few hkey.1 (by omega)
    have hlk := h1.look n hwf
    rw [if_pos hsm] at hlk
    cases l' with
    | nil =>
      obtain rfl := hj.nil
      rw [leadT_nil] at hl
      subst hl
      go_wp2_with fail
      go_ret2
      exact ⟨rfl, k, HW.out⟩
    | cons x t =>
      have hqe : (q' == []) = false := by simp [hj.ne]
      have hx := hnn x List.mem_cons_self
      obtain ⟨hc1, hc2⟩ := hj.cut (fun y hy => isName_ne (hnn y (List.mem_cons_of_mem _ hy)))
      have hless := cut_less hj.ne
      have hcut := cut_ok q' (by omega) wr m hm1
      rw [hc1] at hcut
      generalize (Lib.cut q' [47]).2.1 = q2 at *
      generalize (Lib.cut q' [47]).2.2 = fnd at *
      have hxm : x.length ≤ maxLen := by have := isName_len hx; unfold maxLen; omega
      clear hc1
      by_cases hd : ∃ C, T n = some (.dir C)
      · obtain ⟨C, hC⟩ := hd
        obtain ⟨n0, _⟩ := h1.dcell hC
        have hID := isDir_yes n0
        have hSm : ∀ j, SMap (wr.drewN j) (G n) C.length (fun nm => (C.lookup nm).map (.int .i64 ·)) := fun j => (h1.dirs n C hC).keep rfl
        cases hlx : C.lookup x with
        | none =>
          rw [leadT_miss _ hC hlx] at hl
          subst hl
          clear hnn hj hc2 hq hn
          go_wp2_with (first
            | (go_at_call 98; refine hID.mono ?_; rintro e w' ⟨rfl, hw'⟩; subst w')
            | (go_at_call 122; refine hcut.mono ?_; rintro e w' ⟨rfl, j, hw'⟩; subst w'; have hSj := hSm j)
            | (at_lookup; refine wpList_sask rfl _ _ 111 rfl 3 Tryz.underlying111 _ (zero_num _) (G n) _ _ rfl hSj x rfl hxm ?_; simp only [hlx, Option.map_none, Option.getD_none, Option.isSome_none]))
          go_ret2
          exact ⟨rfl, k + j, by rw [HW.out]; exact drew_drew w k j⟩
        | some n' =>
          rw [leadT_step _ hC hlx] at hl
          have hn' := hT.child n C x n' hC hlx
          have hnt : ∀ y ∈ t, isName y = true := fun y hy => hnn y (List.mem_cons_of_mem _ hy)
          clear hnn hj hq hn
          go_wp2_with (first
            | (go_at_call 98; refine hID.mono ?_; rintro e w' ⟨rfl, hw'⟩; subst w')
            | (go_at_call 122; refine hcut.mono ?_; rintro e w' ⟨rfl, j, hw'⟩; subst w'; have hSj := hSm j)
            | (at_lookup; refine wpList_sask rfl _ _ 111 rfl 3 Tryz.underlying111 _ (zero_num _) (G n) _ _ rfl hSj x rfl hxm ?_; simp only [hlx, Option.map_some, Option.getD_some, Option.isSome_some]))
          go_roundg (q2.length)
          case measure => omega
          case rel => exact ⟨q2, t, n', k + j, rfl, by omega, rfl, rfl, hc2, hnt, hn', hl, by rw [HW.out]; exact drew_drew w k j⟩
      · rw [leadT_file _ (fun C e => hd ⟨C, e⟩)] at hl
        subst hl
        obtain ⟨fb, fh, hF⟩ : ∃ fb fh, T n = some (.file fb fh) := by
          cases e : T n with
          | none => rw [e] at hsm; cases hsm
          | some nd => cases nd with
            | dir C => exact absurd ⟨C, e⟩ hd
            | file fb fh => exact ⟨fb, fh, rfl⟩
        obtain ⟨n0, _⟩ := h1.fcell hF
        have hID := isDir_no n0
        go_wp2_with (go_at_call 98; refine hID.mono ?_; rintro e w' ⟨rfl, hw'⟩; subst w')
        go_ret2
        exact ⟨rfl, k, HW.out⟩
end
end Go.Proofs.YtjkneekfijibiabGreatDoor

namespace Go.Proofs.YtjkneekfijibiabGreatDoor
open Go.RowKit Go.Maps

theorem trimPrefix_ok (z : List UInt8) (W : World) : Calls Tryz.prog 150 #[tx z, .string ⟨#[47]⟩] W fun e w' => e = .returned (tx (Lib.trimPrefix z [47])) ∧ w' = W :=
  Any.strings_TrimPrefix Tryz.trimPrefixL ⟨z.toArray⟩ ⟨#[47]⟩ W
theorem lastByte_ok (z : List UInt8) (hz : z.length < 100000) (W : World) : Calls Tryz.prog 149 #[tx z, .int .u8 47] W fun e w' => e = .returned (.int .i64 (Lib.lastIndexByte ⟨z.toArray⟩ 47)) ∧ w' = W := by
  have hs : (⟨z.toArray⟩ : ByteArray).size = z.length := by simp [ByteArray.size]
  exact Any.strings_LastIndexByte Tryz.lastByteL ⟨z.toArray⟩ 47 (by rw [hs]; omega) W
theorem trim_len (p : List UInt8) (i : Nat) : (Lib.trimPrefix (p.take i) [47]).length ≤ p.length := by
  unfold Lib.trimPrefix
  split
  · simp; omega
  · simp; omega

section
variable {w w' : World} {r gN s : Nat} {T : Wd} {Z : Int → Nat} {B G : Int → Nat} {V : Int → Value} {O : Nat → Prop}

theorem below_drew1 {B : Nat} (h : Below B w w') : Below B w w'.drew := ⟨h.os, h.tape, h.output, h.size, h.block⟩
theorem below_drew {B : Nat} (h : Below B w w') (n : Nat) : Below B w (w'.drewN n) := ⟨h.os, h.tape, h.output, h.size, h.block⟩

set_option maxRecDepth 100000 in
set_option maxHeartbeats 4000000 in
theorem PTr.find_ok (h : PTr w r gN s T Z B G V O) (hT : TrOk T) (hs : 1 ≤ s) (p : List UInt8) (hp : p.length < 100000) (m : Int) (hm : w.cell? ⟨2, 0, none⟩ = some (.int .i64 m)) :
    Calls Tryz.prog 20 #[wp r, tx p] w fun e w' => e = .returned (.tuple #[.int .i64 (findT T p).1, uev (findT T p).2]) ∧ Below w.heap.size w w' := by
  have hI := isPath_ok p hp w
  cases hn : namesOf p with
  | none =>
    have e : findT T p = (0, 1) := by unfold findT; rw [hn]
    rw [e]
    rw [hn] at hI
    clear hn e
    go_enter Tryz.func20, Tryz.ntmps20
    go_wp2_with (go_at_call 68; refine hI.mono ?_; rintro e w1 ⟨rfl, b1⟩)
    go_ret2
    exact ⟨rfl, b1⟩
  | some l =>
    have e : findT T p = leadT T 0 l := by unfold findT; rw [hn]
    obtain ⟨q, rfl, hj, hnm⟩ := namesOf_join hn
    rw [e]
    rw [hn] at hI
    have s1 := wtext_l (47 :: q) 1 (by simp)
    have hd : (47 :: q).drop 1 = q := rfl
    rw [hd] at s1
    have hL : ∀ w1, Below w.heap.size w w1 → _ := fun w1 b1 => (h.below b1).lead_ok hT hs q l hj hnm (by simp at hp; omega) m (maxLen_kept hm b1)
    have hlen : (1 : Int) ≤ ((47 :: q).length : Int) := by simp; omega
    have hex := ext_l (47 :: q) 1
    rw [List.length_cons] at hex
    clear hn e hd
    go_enter Tryz.func20, Tryz.ntmps20
    go_wp2_with (go_at_call 68; refine hI.mono ?_; rintro e w1 ⟨rfl, b1⟩; have hL1 := hL w1 b1)
    refine hL1.mono ?_
    rintro e w2 ⟨rfl, n, hw2⟩
    subst w2
    clear hL1 hI hL
    go_wp2_with fail
    go_ret2
    exact ⟨rfl, below_drew b1 n⟩

/-- A place: a directory's names, and a name. -/
abbrev plc (m : Option Nat) (nm : List UInt8) : Value := .agg #[.map m, tx nm]
theorem plc_cells {W : World} {i : Nat} {a b : Value} (h : W.heap[i]? = some (.cells #[a, b] 132)) : W.cell? ⟨i, 0, none⟩ = some a ∧ W.cell? ⟨i, 1, none⟩ = some b ∧ W.frozen? ⟨i, 0, none⟩ = false ∧ W.frozen? ⟨i, 1, none⟩ = false := by
  refine ⟨?_, ?_, by simp [World.frozen?, h], by simp [World.frozen?, h]⟩ <;> (rw [cell_of_row W i _ _ _ _ h]; rfl)
theorem plc_put {W : World} {i : Nat} {a b : Value} (h : W.heap[i]? = some (.cells #[a, b] 132)) (x y : Value) : ((W.setCell ⟨i, 0, none⟩ x).setCell ⟨i, 1, none⟩ y).heap[i]? = some (.cells #[x, y] 132) := by
  have h1 := heap_cell_same W i 0 x _ _ _ h
  have h2 := heap_cell_same _ i 1 y _ _ _ h1
  rw [h2]; rfl

set_option maxRecDepth 100000 in
set_option maxHeartbeats 4000000 in
theorem PTr.placeOf_ok (h : PTr w r gN s T Z B G V O) (hT : TrOk T) (hs : 1 ≤ s) (p : List UInt8) (hp : p.length < 100000) (m : Int) (hm : w.cell? ⟨2, 0, none⟩ = some (.int .i64 m)) :
    Calls Tryz.prog 117 #[wp r, tx p] w fun e w' => e = .returned (.tuple #[if (placeT T p).2.2 = 0 then plc (some (G (placeT T p).1)) (placeT T p).2.1 else plc none [], uev (placeT T p).2.2]) ∧ Below w.heap.size w w' := by
  have hI := isPath_ok p hp (w.alloc (.cells #[.map none, tx []] 132))
  have bA : Below w.heap.size w (w.alloc (.cells #[.map none, tx []] 132)) := (Below.refl _ _).alloc (Nat.le_refl _) _
  have hAsz : (w.alloc (.cells #[.map none, tx []] 132)).heap.size = w.heap.size + 1 := by simp
  have hblk : ∀ w1, Below (w.alloc (.cells #[.map none, tx []] 132)).heap.size (w.alloc (.cells #[.map none, tx []] 132)) w1 → w1.heap[w.heap.size]? = some (.cells #[.map none, tx []] 132) := fun w1 b1 => (b1.block _ (by rw [hAsz]; omega)).trans (World.alloc_heap_new _ _)
  obtain ⟨R, hR⟩ : ∃ R, placeT T p = R := ⟨_, rfl⟩
  rw [hR]
  cases hn : namesOf p with
  | none =>
    have e : R = (0, [], 1) := by rw [← hR]; unfold placeT; rw [hn]
    subst e
    rw [hn] at hI
    clear hn hR
    go_enter Tryz.func117, Tryz.ntmps117
    go_wp2_with (go_at_call 68; refine hI.mono ?_; rintro e w1 ⟨rfl, b1⟩; obtain ⟨c0, c1, f0, f1⟩ := plc_cells (hblk w1 b1))
    obtain ⟨r0, r1, _, _⟩ := plc_cells (plc_put (hblk w1 b1) (.map none) (tx []))
    have b9 : Below w.heap.size w w1 := bA.trans (b1.mono (by omega))
    refine bodyPost_ret (v := .tuple #[plc none [], uer 1]) (by simp [results, Tryz.results117, go_sem, r0, r1]) rfl ⟨rfl, ?_⟩
    repeat first | exact b9 | refine Below.setCell ?_ (by first | omega | (simp <;> omega)) _
  | some l =>
    rw [hn] at hI
    by_cases h0 : p = [47]
    · have e : R = (0, [], 1) := by rw [← hR]; unfold placeT; rw [h0, namesOf_root]; rfl
      subst e
      have hq : (p == [47]) = true := by simp [h0]
      clear hn hR h0
      go_enter Tryz.func117, Tryz.ntmps117
      go_wp2_with (go_at_call 68; refine hI.mono ?_; rintro e w1 ⟨rfl, b1⟩; obtain ⟨c0, c1, f0, f1⟩ := plc_cells (hblk w1 b1))
      obtain ⟨r0, r1, _, _⟩ := plc_cells (plc_put (hblk w1 b1) (.map none) (tx []))
      have b9 : Below w.heap.size w w1 := bA.trans (b1.mono (by omega))
      refine bodyPost_ret (v := .tuple #[plc none [], uer 1]) (by simp [results, Tryz.results117, go_sem, r0, r1]) rfl ⟨rfl, ?_⟩
      repeat first | exact b9 | refine Below.setCell ?_ (by first | omega | (simp <;> omega)) _
    · have hq : (p == [47]) = false := by simp [h0]
      obtain ⟨i, hix, hi, hlast, hj⟩ := namesOf_last hn h0
      have hnm : ∀ x ∈ l.dropLast, isName x = true := fun x hx => namesOf_names hn x (List.dropLast_subset l hx)
      have hl0 : l ≠ [] := by
        obtain ⟨q, _, _, hl, _⟩ := namesOf_path hn h0
        exact hl
      have hLB := lastByte_ok p hp
      rw [hix] at hLB
      have hTP := trimPrefix_ok (p.take i)
      have htl := trim_len p i
      obtain ⟨N, hN⟩ : ∃ N, leadT T 0 l.dropLast = N := ⟨_, rfl⟩
      have hBs := hT.lead l.dropLast 0 (by obtain ⟨C, e⟩ := hT.root; rw [e]; rfl)
      rw [hN] at hBs
      have hR' : R = if N.2 ≠ 0 then (0, [], N.2) else match T N.1 with
          | some (.dir _) => (N.1, p.drop (i + 1), 0)
          | _ => (0, [], 6) := by
        rw [← hR]; unfold placeT; rw [hn, hlast]; simp only [hl0, if_false, hN]; rfl
      have hL : ∀ w1, Below w.heap.size w w1 → Calls Tryz.prog 69 #[wp r, tx (Lib.trimPrefix (p.take i) [47])] w1 fun e w' => e = .returned (.tuple #[.int .i64 N.1, uev N.2]) ∧ ∃ n, w' = w1.drewN n := fun w1 b1 => by
        have := (h.below b1).lead_ok hT hs _ _ hj hnm (by omega) m (maxLen_kept hm b1)
        rw [hN] at this
        exact this
      have s1 := wtext_h p i (by omega)
      have s2 := wtext_l p (i + 1) (by omega)
      have hex := ext_h p i
      have hex2 := ext_l p (i + 1)
      generalize Lib.trimPrefix (p.take i) [47] = tq at *
      obtain ⟨N1, N2⟩ := N
      simp only at hR' hBs hL
      clear hj hnm hlast hix hn hR hN htl
      go_enter Tryz.func117, Tryz.ntmps117
      go_wp2_with (first
        | (go_at_call 68; refine hI.mono ?_; rintro e w1 ⟨rfl, b1⟩; have hb := hblk w1 b1; have b9 : Below w.heap.size w w1 := bA.trans (b1.mono (by omega)); have hL1 := hL w1 b9)
        | (go_at_call 149; refine (hLB _).mono ?_; rintro e w' ⟨rfl, hw'⟩; subst w')
        | (go_at_call 150; refine (hTP _).mono ?_; rintro e w' ⟨rfl, hw'⟩; subst w'))
      refine hL1.mono ?_
      rintro e w2 ⟨rfl, nq, hw2⟩
      have hb2 : w2.heap[w.heap.size]? = some (.cells #[.map none, tx []] 132) := by rw [hw2]; exact hb
      have b2 : Below w.heap.size w w2 := by rw [hw2]; exact below_drew b9 nq
      have h2 := h.below b2
      obtain ⟨c0, c1, f0, f1⟩ := plc_cells hb2
      clear hL1 hL hI hb b9 b1 hw2 hblk
      by_cases hz : N2 = 0
      · subst hz
        rw [if_neg (fun e => e rfl)] at hR'
        have hsm := hBs rfl
        have hkey := hT.key N1 hsm
        have hwf : (Lit.int .i64 N1).wf = true := wf_few hkey.1 (by omega)
        have hlk := h2.look N1 hwf
        rw [if_pos hsm] at hlk
        have t0 := h2.c0
        rw [uev_zero]
        by_cases hd : ∃ C, T N1 = some (.dir C)
        · obtain ⟨C, hC⟩ := hd
          rw [hC] at hR'
          subst hR'
          obtain ⟨n0, _⟩ := h2.dcell hC
          have hID := isDir_yes n0
          have hile : (i : Int) + 1 ≤ (p.length : Int) := by omega
          have s3 : ∀ q, (Instr.slice 9 (tx p) (some (.int .i64 ((i : Int) + 1))) none none).run Tryz.prog (w2.drewN q) = .ok (tx (p.drop (i + 1))) (w2.drewN q) := fun q => wtext_l p (i + 1) (by omega) _
          clear s2 hex2
          have e9 : ∀ q, Below w.heap.size w (w2.drewN q) := fun q => below_drew b2 q
          clear hT hm hBs
          go_wp2_with (go_at_call 98; refine hID.mono ?_; rintro e w' ⟨rfl, hw'⟩; subst w')
          have cq : ∀ q, (w2.drewN q).heap[w.heap.size]? = some (.cells #[.map none, tx []] 132) := fun q => hb2
          go_region
          go_wp2_with fail
          rw [ext_l p (i + 1)]
          obtain ⟨r0, r1, _, _⟩ := plc_cells (W := ((w2.setCell ⟨w.heap.size, 0, none⟩ (.map (some (G N1)))).setCell ⟨w.heap.size, 1, none⟩ (tx (p.drop (i + 1)))).drew) (plc_put hb2 (.map (some (G N1))) (tx (p.drop (i + 1))))
          refine bodyPost_ret (v := .tuple #[plc (some (G N1)) (p.drop (i + 1)), .nilIface]) (by simp [results, Tryz.results117, go_sem, r0, r1]) rfl ⟨rfl, below_drew1 ?_⟩
          repeat first | exact b2 | refine Below.setCell ?_ (by first | omega | (simp <;> omega)) _
        · obtain ⟨fb, fh, hF⟩ : ∃ fb fh, T N1 = some (.file fb fh) := by
            cases e : T N1 with
            | none => rw [e] at hsm; cases hsm
            | some nd => cases nd with
              | dir C => exact absurd ⟨C, e⟩ hd
              | file fb fh => exact ⟨fb, fh, rfl⟩
          rw [hF] at hR'
          subst hR'
          obtain ⟨n0, _⟩ := h2.fcell hF
          have hID := isDir_no n0
          go_wp2_with (go_at_call 98; refine hID.mono ?_; rintro e w' ⟨rfl, hw'⟩; subst w')
          obtain ⟨r0, r1, _, _⟩ := plc_cells (plc_put hb2 (.map none) (tx []))
          refine bodyPost_ret (v := .tuple #[plc none [], uer 6]) (by simp [results, Tryz.results117, go_sem, r0, r1]) rfl ⟨rfl, ?_⟩
          repeat first | exact b2 | refine Below.setCell ?_ (by first | omega | (simp <;> omega)) _
      · rw [if_pos hz] at hR'
        subst hR'
        have hue := uev_ne hz
        rw [hue]
        have hres : (if N2 = 0 then plc (some (G 0)) [] else plc none []) = plc none [] := if_neg hz
        simp only
        clear hres
        go_wp2_with fail
        obtain ⟨r0, r1, _, _⟩ := plc_cells (plc_put hb2 (.map none) (tx []))
        refine bodyPost_ret (v := .tuple #[plc none [], uer N2]) (by simp [results, Tryz.results117, go_sem, r0, r1]) rfl ⟨rfl, ?_⟩
        repeat first | exact b2 | refine Below.setCell ?_ (by first | omega | (simp <;> omega)) _
end
end Go.Proofs.YtjkneekfijibiabGreatDoor
