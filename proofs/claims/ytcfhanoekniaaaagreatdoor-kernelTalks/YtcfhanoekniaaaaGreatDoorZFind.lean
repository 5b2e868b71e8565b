/- Package desc, with several tables: Close, Dup2, Pipe, Read, Write, Exec, Clear, Fork; the tree's Unlink. -/
import Derived.Test.YtcfhanoekniaaaaGreatDoorQAll
import Derived.Test.YtcfhanoekniaaaaGreatDoorDFlat2
import Derived.Test.YtcfhanoekniaaaaGreatDoorVSpace2
import Derived.Test.YtcfhanoekniaaaaGreatDoorVAll
import Derived.Test.YtcfhanoekniaaaaGreatDoorJProg3
import Derived.Test.YtcfhanoekniaaaaGreatDoorOVic
import Derived.Test.YtcfhanoekniaaaaGreatDoorAdd
import Derived.Test.YtcfhanoekniaaaaGreatDoorZPay
import Derived.Test.YtcfhanoekniaaaaGreatDoorJProg7
import Derived.Deep.QuietTactic
namespace Go.Proofs.YtcfhanoekniaaaaGreatDoor
open Go.RowKit Go.Maps

section
variable {w w' w2 w0 w1 : World} {f r b n k k' j : Nat} {D D' : DS} {g g' : QG} {bs : List Nat} {Ts : List Ns} {M N N' : Ns} {d m : Int} {A : Nat → Prop}
theorem KD.close (h : KD w m f r D bs Ts k A) (hk : k ≤ 900) (hj : j < bs.length) (x : Int) :
    Calls Tryz.prog 57 #[wp f, wp bs[j], .int .i64 x] w fun y w' => ∃ D' N' A', (y = .returned (uev (if hasN (Ts[j]'(h.jT hj)) x = true then 0 else 7)) ∧ D' = closeD D (Ts[j]'(h.jT hj)) x ∧ N' = closeN (Ts[j]'(h.jT hj)) x) ∧ KD w' m f r D' bs (Ts.set j N') k A' ∧ Stp w w' A A' := by
  have hI := h.inv.closeO hk (h.jT hj) x
  refine h.call hj (Q := fun y D' N' => y = .returned (uev (if hasN (Ts[j]'(h.jT hj)) x = true then 0 else 7)) ∧ D' = closeD D (Ts[j]'(h.jT hj)) x ∧ N' = closeN (Ts[j]'(h.jT hj)) x) (fun g n9 M hj' q t _ => ?_) (fun y D' N' hq => ?_)
  · by_cases hx : hasN (Ts[j]'hj') x = true
    · obtain ⟨i, rfl, hi, hiL, h0⟩ := hasN_at hx t.len
      obtain ⟨e, cl⟩ := h.inv.cl hj' hiL h0
      have e1 : closeD D (Ts[j]'hj') i = closeK D (Ts[j]'hj')[i].1 := by unfold closeD; rw [if_pos hx, getD_in hiL]
      have e2 : closeN (Ts[j]'hj') i = (Ts[j]'hj').set i (0, false) := by unfold closeN; rw [if_pos hx, show (i : Int).toNat = i by omega]
      have hjs : j < (Ts.set j (closeN (Ts[j]'hj') i)).length := by rw [List.length_set]; exact hj'
      have hl := hI.live hjs
      rw [getT_set hj' _ hjs, e1, e2] at hl
      refine (q.close_ok t hi hiL h0 cl hl).mono ?_
      rintro y w' ⟨rfl, hG⟩
      exact ⟨_, _, ⟨by rw [if_pos hx]; rfl, rfl, rfl⟩, by rw [e1, e2]; exact hG⟩
    · have hx' : hasN (Ts[j]'hj') x = false := by simpa using hx
      refine (q.close_no t x hx').mono ?_
      rintro y w' ⟨rfl, hG⟩
      exact ⟨_, _, ⟨by rw [if_neg hx]; rfl, (if_neg hx).symm, (if_neg hx).symm⟩, hG⟩
  · obtain ⟨_, rfl, rfl⟩ := hq
    exact hI
theorem KD.pipe (h : KD w m f r D bs Ts k A) (hn : D.nx < 890) (hj : j < bs.length) {n : Nat} (hN : IsN D.E n) :
    Calls Tryz.prog 54 #[wp f, wp bs[j]] w fun z w' => ∃ D' N' A', (∃ x y c, z = .returned (.tuple #[.int .i64 x, .int .i64 y, uev c]) ∧ PipeO D (Ts[j]'(h.jT hj)) n x y c D' N') ∧ KD w' m f r D' bs (Ts.set j N') k A' ∧ Stp w w' A A' := by
  refine h.call hj (Q := fun z D' N' => ∃ x y c, z = .returned (.tuple #[.int .i64 x, .int .i64 y, uev c]) ∧ PipeO D (Ts[j]'(h.jT hj)) n x y c D' N') (fun g n9 M hj' q t _ => ?_) (fun y D' N' hq => ?_)
  · obtain rfl := hN.one q.numE
    by_cases hf : noPipe (Ts[j]'hj') n
    · refine (q.pipe_no t hf (q.few h.inv.core.giv)).mono ?_
      rintro y w' ⟨rfl, hG⟩
      exact ⟨_, _, ⟨0, 0, 12, rfl, .inl ⟨hf, rfl, rfl, rfl, rfl, rfl⟩⟩, hG⟩
    · obtain ⟨l1, l2⟩ := h.inv.pipe_room hj' hf
      have g := h.inv.core.giv
      refine (q.pipe_yes t g hn (fun d e he => ?_) hf l1 l2 (h.inv.live hj')).mono ?_
      · by_cases hk : e.kind = 1
        · exact .inr hk
        · have := ((h.inv.core.ent d e he).pipe hk).2.1
          exact .inl (by omega)
      · rintro y w' ⟨rfl, hG⟩
        exact ⟨_, _, ⟨_, _, 0, rfl, .inr ⟨hf, rfl, rfl, rfl, rfl, rfl⟩⟩, hG⟩
  · obtain ⟨x, y, c, _, hP⟩ := hq
    rcases hP with ⟨_, _, _, _, rfl, rfl⟩ | ⟨hf, _, _, _, rfl, rfl⟩
    · exact h.inv.setSelf (h.jT hj)
    · obtain ⟨l1, l2⟩ := h.inv.pipe_room (h.jT hj) hf
      exact h.inv.pipe hn (h.jT hj) l1 l2
theorem KD.read (h : KD w m f r D bs Ts k A) (hj : j < bs.length) (x a : Int) :
    Calls Tryz.prog 63 #[wp f, wp bs[j], .int .i64 x, .int .i64 a] w fun y w' => ∃ D' N' A', (y = .returned (.tuple #[tx (readO D (Ts[j]'(h.jT hj)) x a).1, uev (readO D (Ts[j]'(h.jT hj)) x a).2.1]) ∧ D' = (readO D (Ts[j]'(h.jT hj)) x a).2.2 ∧ N' = Ts[j]'(h.jT hj)) ∧ KD w' m f r D' bs (Ts.set j N') k A' ∧ Stp w w' A A' := by
  refine h.call hj (Q := fun y D' N' => y = .returned (.tuple #[tx (readO D (Ts[j]'(h.jT hj)) x a).1, uev (readO D (Ts[j]'(h.jT hj)) x a).2.1]) ∧ D' = (readO D (Ts[j]'(h.jT hj)) x a).2.2 ∧ N' = Ts[j]'(h.jT hj)) (fun g n9 M hj' q t _ => ?_) (fun y D' N' hq => ?_)
  · by_cases hx : hasN (Ts[j]'hj') x = true
    · obtain ⟨i, rfl, hi, hiL, h0⟩ := hasN_at hx t.len
      obtain ⟨e, he⟩ := Option.isSome_iff_exists.1 (h.inv.live hj' i hiL h0)
      have ok := h.inv.core.ent _ e he
      by_cases hp2 : e.prot = 2
      · rw [readO_false hi hiL h0 he hp2]
        refine (q.read_no t i a 13 (by omega) (q.usable_false t hi hiL h0 he 1 (.inl ⟨rfl, hp2⟩))).mono ?_
        rintro y w' ⟨rfl, hG⟩
        exact ⟨_, _, ⟨rfl, rfl, rfl⟩, hG⟩
      · by_cases hk : e.kind = 1
        · obtain ⟨a1, a2, a3, a4, a5, a6⟩ := ok.file hk
          rw [readO_file hi hiL h0 he hk hp2]
          have hl := readS_end (x := e.node) (c := a) h.inv.core.sm a5 a6
          refine (q.read_file t hi hiL h0 he a hk (by omega) ⟨a3, a4⟩ ⟨a5, a6⟩ (by omega)).mono ?_
          rintro y w' ⟨rfl, hG⟩
          exact ⟨_, _, ⟨rfl, rfl, rfl⟩, hG⟩
        · obtain ⟨a1, a2, p, a3, a4, a5, a6, a7, a8⟩ := ok.pipe hk
          have hpr : e.prot = 1 := by
            rcases ok.kind with z | z | z
            · exact absurd z hk
            · exact ok.frm z
            · exact absurd (ok.into z) hp2
          rw [readO_end hi hiL h0 he hk hp2 a3]
          refine (q.read_end t hi hiL h0 he a hk (.inl hpr) a3 a7).mono ?_
          rintro y w' ⟨rfl, hG⟩
          exact ⟨_, _, ⟨rfl, rfl, rfl⟩, hG⟩
    · have hx' : hasN (Ts[j]'hj') x = false := by simpa using hx
      rw [readO_no hx']
      refine (q.read_no t x a 7 (by omega) (q.usable_no t x 1 hx')).mono ?_
      rintro y w' ⟨rfl, hG⟩
      exact ⟨_, _, ⟨rfl, rfl, rfl⟩, hG⟩
  · obtain ⟨_, rfl, rfl⟩ := hq
    exact (h.inv.read (h.jT hj) x a).setSelf (h.jT hj)
theorem KD.write (h : KD w m f r D bs Ts k A) (hj : j < bs.length) (x : Int) (s : List UInt8) (hs : s.length < 100000) (a : Int) :
    Calls Tryz.prog 59 #[wp f, wp bs[j], .int .i64 x, tx s, .int .i64 a] w fun y w' => ∃ D' N' A', (y = .returned (.tuple #[.int .i64 (writeO D (Ts[j]'(h.jT hj)) x s a).1, uev (writeO D (Ts[j]'(h.jT hj)) x s a).2.1]) ∧ D' = (writeO D (Ts[j]'(h.jT hj)) x s a).2.2 ∧ N' = Ts[j]'(h.jT hj)) ∧ KD w' m f r D' bs (Ts.set j N') (k + 1) A' ∧ Stp w w' A A' := by
  refine h.call hj (Q := fun y D' N' => y = .returned (.tuple #[.int .i64 (writeO D (Ts[j]'(h.jT hj)) x s a).1, uev (writeO D (Ts[j]'(h.jT hj)) x s a).2.1]) ∧ D' = (writeO D (Ts[j]'(h.jT hj)) x s a).2.2 ∧ N' = Ts[j]'(h.jT hj)) (fun g n9 M hj' q t _ => ?_) (fun y D' N' hq => ?_)
  · by_cases hx : hasN (Ts[j]'hj') x = true
    · obtain ⟨i, rfl, hi, hiL, h0⟩ := hasN_at hx t.len
      obtain ⟨e, he⟩ := Option.isSome_iff_exists.1 (h.inv.live hj' i hiL h0)
      have ok := h.inv.core.ent _ e he
      by_cases hp1 : e.prot = 1
      · rw [writeO_false hi hiL h0 he hp1]
        refine (q.write_no t i s a 13 (by omega) (q.usable_false t hi hiL h0 he 2 (.inr ⟨rfl, hp1⟩))).mono ?_
        rintro y w' ⟨rfl, hG⟩
        exact ⟨_, _, ⟨rfl, rfl, rfl⟩, hG⟩
      · by_cases hk : e.kind = 1
        · obtain ⟨a1, a2, a3, a4, a5, a6⟩ := ok.file hk
          by_cases hl : tooMuch s a e.pos
          · rw [writeO_limit hi hiL h0 he hk hp1 hl]
            refine (q.write_limit t hi hiL h0 he s a hk (by omega) ⟨a5, a6⟩ hs hl).mono ?_
            rintro y w' ⟨rfl, hG⟩
            exact ⟨_, _, ⟨rfl, rfl, rfl⟩, hG⟩
          · refine (q.write_file t hi hiL h0 he s a hk (by omega) ⟨a3, a4⟩ ⟨a5, a6⟩ hs h.inv.core.lv hl).mono ?_
            rintro y w' (⟨hE, rfl, hG⟩ | ⟨hE, rfl, hG⟩)
            · rw [writeO_bad hi hiL h0 he hk hp1 hl hE]
              exact ⟨_, _, ⟨by rw [uev_ne hE], rfl, rfl⟩, hG⟩
            · rw [writeO_file hi hiL h0 he hk hp1 hl hE]
              exact ⟨_, _, ⟨rfl, rfl, rfl⟩, hG⟩
        · obtain ⟨a1, a2, p, a3, a4, a5, a6, a7, a8⟩ := ok.pipe hk
          have hpr : e.prot = 2 := by
            rcases ok.kind with z | z | z
            · exact absurd z hk
            · exact absurd (ok.frm z) hp1
            · exact ok.into z
          rw [writeO_end hi hiL h0 he hk hp1 a3]
          refine (q.write_end t hi hiL h0 he s a hk (.inl hpr) a3).mono ?_
          rintro y w' ⟨rfl, hG⟩
          exact ⟨_, _, ⟨rfl, rfl, rfl⟩, hG⟩
    · have hx' : hasN (Ts[j]'hj') x = false := by simpa using hx
      rw [writeO_no hx']
      refine (q.write_no t x s a 7 (by omega) (q.usable_no t x 2 hx')).mono ?_
      rintro y w' ⟨rfl, hG⟩
      exact ⟨_, _, ⟨rfl, rfl, rfl⟩, hG⟩
  · obtain ⟨_, rfl, rfl⟩ := hq
    exact (h.inv.write (h.jT hj) x s a).setSelf (h.jT hj)
theorem KD.clear (h : KD w m f r D bs Ts k A) (hk : k ≤ 900) (hj : j < bs.length) :
    Calls Tryz.prog 250 #[wp f, wp bs[j]] w fun y w' => ∃ D' N' A', (y = .returned (.tuple #[]) ∧ D' = (freeS true D (Ts[j]'(h.jT hj)) 8).1 ∧ N' = (freeS true D (Ts[j]'(h.jT hj)) 8).2) ∧ KD w' m f r D' bs (Ts.set j N') k A' ∧ Stp w w' A A' := by
  refine h.call hj (Q := fun y D' N' => y = .returned (.tuple #[]) ∧ D' = (freeS true D (Ts[j]'(h.jT hj)) 8).1 ∧ N' = (freeS true D (Ts[j]'(h.jT hj)) 8).2) (fun g n9 M hj' q t _ => ?_) (fun y D' N' hq => ?_)
  · refine (q.clear_ok t h.inv hk hj' rfl).mono ?_
    rintro y w' ⟨rfl, hG⟩
    exact ⟨_, _, ⟨rfl, rfl, rfl⟩, hG⟩
  · obtain ⟨_, rfl, rfl⟩ := hq
    exact h.inv.free hk (h.jT hj) true 8 (by omega)
theorem KD.fork (h : KD w m f r D bs Ts k A) (hf : Ts.length < 500) (hj : j < bs.length) :
    Calls Tryz.prog 140 #[wp f, wp bs[j]] w fun y w' => ∃ A', y = .returned (wp w.heap.size) ∧ KD w' m f r (forkD D (Ts[j]'(h.jT hj))) (bs ++ [w.heap.size]) (Ts ++ [Ts[j]'(h.jT hj)]) k A' ∧ Stp w w' A A' := by
  obtain ⟨g, n, h1, hr, ht, hA⟩ := h.st
  have hj' := h.jT hj
  obtain ⟨M, tj⟩ := ht j hj hj'
  refine (h1.fork_ok tj h.inv hj' rfl).mono ?_
  rintro y w' ⟨rfl, a1, a2, a3, wt⟩
  have hst : Stp w w' A (fun i => A i ∨ (w.heap.size ≤ i ∧ i < w'.heap.size)) := ⟨wt.mono hA, fun i hi => by
    rcases hi with hi | hi
    · exact .inl hi
    · exact .inr hi.1⟩
  have hbl : ∀ x ∈ bs, x < w.heap.size := fun x hx => h.lt x (h.bsA x hx)
  refine ⟨_, rfl, ⟨⟨g, n, a1, hr, fun x hx hx' => ?_, fun i hi => .inl (hA i hi)⟩, by rw [List.length_append, List.length_append, h.len]; rfl, ?_, fun b hb => ?_, h.inv.fork hf hj', fun i hi => ?_, (hst.cellKept h.ml h.mn).1, (hst.cellKept h.ml h.mn).2, (hst.cellKept h.er h.en).1, (hst.cellKept h.er h.en).2⟩, hst⟩
  · by_cases e1 : x < bs.length
    · have e2 : x < Ts.length := by rw [← h.len]; exact e1
      rw [List.getElem_append_left e1, List.getElem_append_left e2]
      obtain ⟨Mx, tx⟩ := ht x e1 e2
      exact ⟨Mx, tx.keep (wt.block _ tx.tab.lt (by rw [tx.off]; simp))⟩
    · have e3 : x = bs.length := by rw [List.length_append] at hx; simp at hx; omega
      have e4 : x = Ts.length := by rw [← h.len]; exact e3
      subst e3
      rw [List.getElem_concat_length rfl]
      have : (Ts ++ [Ts[j]])[bs.length]'hx' = Ts[j] := by
        rw [List.getElem_append_right (by omega)]
        simp
      rw [this]
      exact ⟨M, a3⟩
  · rw [List.nodup_append]
    exact ⟨h.nd, by simp, fun a ha b hb e => by rw [List.mem_singleton.1 hb] at e; have := hbl a ha; omega⟩
  · rcases List.mem_append.1 hb with z | z
    · exact .inl (h.bsA b z)
    · rw [List.mem_singleton.1 z]
      exact .inr ⟨Nat.le_refl _, a3.tab.lt⟩
  · rcases hi with hi | hi
    · exact Nat.lt_of_lt_of_le (h.lt i hi) wt.size
    · exact hi.2
end
end Go.Proofs.YtcfhanoekniaaaaGreatDoor

namespace Go.Proofs.YtcfhanoekniaaaaGreatDoor
open Go.RowKit Go.Maps

abbrev zeroN : Ns := List.replicate 8 (0, false)
/-- Files and tables, all newer than w0. -/
def KW (w0 w : World) (m : Int) (f r : Nat) (D : DS) (bs : List Nat) (Ts : List Ns) (k : Nat) : Prop := ∃ A, KD w m f r D bs Ts k A ∧ (∀ i, A i → w0.heap.size ≤ i) ∧ Below w0.heap.size w0 w
section
variable {w w' w2 w0 w1 : World} {f r b n k k' j : Nat} {D D' : DS} {g g' : QG} {bs : List Nat} {Ts Ts' : List Ns} {M N N' : Ns} {d m : Int} {A A' : Nat → Prop}
/-- Nothing is open. -/
theorem Inv.none {T : Wd} {k : Nat} (hT : TrLv T) (hs : Sm k T) : Inv (noneD T) [] k :=
  ⟨⟨noneD_given T, hT, hs, fun d e h => (by cases h), fun d _ => by simp [noneD, cntS], fun d _ => by simp [noneD, cntS]⟩, fun N hN => (by cases hN), by simp⟩
theorem sm_null : Sm 0 nullT := ⟨fun i C e => by
  obtain ⟨_, e9⟩ := nullT_node e; cases e9; simp, fun i b x e => by
  obtain ⟨_, e9⟩ := nullT_node e; cases e9⟩
theorem KW.first (w : World) (hm : w.cell? ⟨4, 0, none⟩ = some (.int .i64 m)) (he : w.cell? ⟨0, 0, none⟩ = some errT) :
    Calls Tryz.prog 47 #[] w fun y w' => ∃ r, y = .returned (wp r) ∧ Below w.heap.size w w' ∧ Calls Tryz.prog 48 #[wp r] w' fun y w2 => ∃ f, y = .returned (.tuple #[wp f, .nilIface]) ∧ KW w w2 m f r (noneD nullT) [] [] 0 := by
  refine (new_ok w).mono ?_
  rintro y w1 ⟨r, O, rfl, p1, b1, hO⟩
  refine ⟨r, rfl, b1, (QNew.ok p1).mono ?_⟩
  rintro y w2 ⟨f, g, rfl, q, hk, hr, b2⟩
  have bb := b1.trans (b2.mono b1.size)
  have hA : ∀ i, (g.kap i).isSome = true → w.heap.size ≤ i := fun i hi => by
    by_cases e1 : i < w1.heap.size
    · exact hO i ((hk i e1).1 hi)
    · have := b1.size; omega
  have hml := World.block_lt_of_cell? w _ hm
  have hel := World.block_lt_of_cell? w _ he
  refine ⟨f, rfl, fun i => (g.kap i).isSome = true, ⟨⟨g, 0, q, hr, fun j h => (by simp at h), fun i hi => hi⟩, rfl, List.nodup_nil, fun b hb => (by cases hb), Inv.none nullT_lv sm_null, fun i hi => q.lt i hi, cell_below hm bb, fun z => ?_, cell_below he bb, fun z => ?_⟩, hA, bb⟩
  · have := hA _ z
    simp only at hml
    omega
  · have := hA _ z
    simp only at hel
    omega
/-- A table more. -/
theorem cntN_zero {d : Int} (hd : 0 < d) : cntN d zeroN = 0 := by
  unfold cntN
  rw [List.length_eq_zero_iff, List.filter_eq_nil_iff]
  intro x hx
  rw [List.eq_of_mem_replicate hx]
  simp; omega
theorem KD.table (h1 : KD w m f r D bs Ts k A) (hf : Ts.length < 8) : KD (w.alloc (.cells (nv zeroN).toArray 216)) m f r D (bs ++ [w.heap.size]) (Ts ++ [zeroN]) k (fun i => A i ∨ i = w.heap.size) := by
  have bA : Below w.heap.size w (w.alloc (.cells (nv zeroN).toArray 216)) := (Below.refl _ w).alloc (Nat.le_refl _) _
  have hsz : (w.alloc (.cells (nv zeroN).toArray 216)).heap.size = w.heap.size + 1 := by show (w.heap.push _).size = _; rw [Array.size_push]
  have hn : (w.alloc (.cells (nv zeroN).toArray 216)).heap[w.heap.size]? = some (.cells (nv zeroN).toArray 216) := by
    show (w.heap.push _)[w.heap.size]? = _
    rw [Array.getElem?_push, if_pos rfl]
  obtain ⟨g, n, q, hr, ht, hk⟩ := h1.st
  have h2 := h1.below bA
  have hml := World.block_lt_of_cell? _ _ h1.ml
  have hel := World.block_lt_of_cell? _ _ h1.er
  simp only at hml hel
  have hz : QTb (w.alloc (.cells (nv zeroN).toArray 216)) w.heap.size g zeroN zeroN := by
    refine ⟨⟨hn, rfl, fun x hx => ?_⟩, kap_new q, rfl, fun i h1 h2 => ?_⟩
    · rw [List.eq_of_mem_replicate hx]; simp
    · have e1 : (zeroN)[i] = (0, false) := List.eq_of_mem_replicate (List.getElem_mem h1)
      exact ⟨rfl, .inl ⟨congrArg Prod.fst e1, congrArg Prod.fst e1⟩⟩
  refine ⟨⟨g, n, q.below bA, hr, fun x hx hx' => ?_, fun i hi => .inl (hk i hi)⟩, by rw [List.length_append, List.length_append, h1.len]; rfl, ?_, fun b hb => ?_, ⟨h1.inv.core.congr (fun d hd => ?_), fun N hN => ?_, by rw [List.length_append]; simp; omega⟩, fun i hi => ?_, h2.ml, fun z => ?_, h2.er, fun z => ?_⟩
  · by_cases e1 : x < bs.length
    · have e2 : x < Ts.length := by rw [← h1.len]; exact e1
      rw [List.getElem_append_left e1, List.getElem_append_left e2]
      obtain ⟨Mx, tx⟩ := ht x e1 e2
      exact ⟨Mx, tx.below bA⟩
    · have e3 : x = bs.length := by rw [List.length_append] at hx; simp at hx; omega
      have e4 := h1.len
      subst e3
      rw [List.getElem_concat_length rfl]
      have : (Ts ++ [zeroN])[bs.length]'hx' = zeroN := by
        rw [List.getElem_append_right (by omega)]
        simp
      rw [this]
      exact ⟨zeroN, hz⟩
  · rw [List.nodup_append]
    exact ⟨h1.nd, by simp, fun a ha b hb e => by rw [List.mem_singleton.1 hb] at e; have := h1.lt a (h1.bsA a ha); omega⟩
  · rcases List.mem_append.1 hb with z | z
    · exact .inl (h1.bsA b z)
    · exact .inr (List.mem_singleton.1 z)
  · have := cntN_zero hd
    simp only [cntS, List.map_append, List.sum_append, List.map_cons, List.map_nil, List.sum_cons, List.sum_nil]
    omega
  · rcases List.mem_append.1 hN with z | z
    · exact h1.inv.tab N z
    · rw [List.mem_singleton.1 z]
      exact ⟨rfl, fun x hx => by rw [List.eq_of_mem_replicate hx]; simp⟩
  · rw [hsz]
    rcases hi with z | z
    · have := h1.lt i z; omega
    · omega
  · rcases z with z | z
    · exact h1.mn z
    · omega
  · rcases z with z | z
    · exact h1.en z
    · omega
end
end Go.Proofs.YtcfhanoekniaaaaGreatDoor

namespace Go.Proofs.YtcfhanoekniaaaaGreatDoor

/-- What a process that runs has: its space and table (both by its birth), what it may have, its adjustment. -/
structure Ow where
  j : Nat
  m : Nat → Int
  adj : Int
structure KS where
  n : Nat
  P : Ps
  D : DS
  Ts : List Ns
  Ms : List PM
  W : Nat → Nat → Int
  O : Int → Option Ow
def noP : PM := fun _ => none
def msJ (S : KS) (j : Nat) : PM := S.Ms.getD j noP
def tsJ (S : KS) (j : Nat) : Ns := S.Ts.getD j zeroN
/-- What a ledger tells that there is. -/
def Uof (S : KS) (j : Nat) : Nat → Int := fun k => if k = 0 then ((lenP (msJ S j) : Nat) : Int) else if k = 1 then ((usedN (tsJ S j) : Nat) : Int) else 0
theorem ms_at {S : KS} {j : Nat} (h : j < S.Ms.length) : msJ S j = S.Ms[j] := by unfold msJ; rw [List.getD_eq_getElem?_getD, List.getElem?_eq_getElem h]; rfl
theorem ts_at {S : KS} {j : Nat} (h : j < S.Ts.length) : tsJ S j = S.Ts[j] := by unfold tsJ; rw [List.getD_eq_getElem?_getD, List.getElem?_eq_getElem h]; rfl
/-- What holds always. -/
structure KOk (S : KS) : Prop where
  run : ∀ p, (S.O p).isSome = runsJ S.P p
  gone : ∀ j, j < S.Ts.length → (∀ p o, S.O p = some o → o.j ≠ j) → tsJ S j = zeroN ∧ msJ S j = noP
  fit : ∀ p o, S.O p = some o → Fit o.m ∧ -100 ≤ o.adj ∧ o.adj ≤ 100
theorem usedN_le8 {N : Ns} (h : N.length = 8) : usedN N ≤ 8 := by have := used_le N; omega
def putO (O : Int → Option Ow) (p : Int) (o : Ow) : Int → Option Ow := fun x => if x = p then some o else O x
def delO (O : Int → Option Ow) (p : Int) : Int → Option Ow := fun x => if x = p then none else O x
theorem putO_same (O : Int → Option Ow) (p : Int) (o : Ow) : putO O p o p = some o := if_pos rfl
theorem putO_ne {O : Int → Option Ow} {p x : Int} {o : Ow} (h : x ≠ p) : putO O p o x = O x := if_neg h
end Go.Proofs.YtcfhanoekniaaaaGreatDoor

namespace Go.Proofs.YtcfhanoekniaaaaGreatDoor
open Go.RowKit Go.Maps

/-- Where things lie, as long as nobody is born. -/
structure KH where
  kb : Nat
  eb : Nat
  f : Nat
  r : Nat
  t : Nat
  g : Nat
  gm : Nat
  hs : Nat → Nat
  sp : Nat → Nat
  tb : Nat → Nat
  ok : Bool
/-- The library's table of bits: it is there; and it is as its text lays it, where that is known. -/
def TabH (ok : Bool) (w : World) : Prop := 2 < w.heap.size ∧ (ok = true → Tab64 w)
theorem TabH.lt {ok : Bool} {w : World} (h : TabH ok w) : 2 < w.heap.size := h.1
theorem TabH.keep {ok : Bool} {w w' : World} (h : TabH ok w) (hb : w'.heap[2]? = w.heap[2]?) : TabH ok w' :=
  ⟨by
    have h1 := h.1
    rw [Array.getElem?_eq_getElem h1] at hb
    exact (Array.getElem?_eq_some_iff.1 hb).1, fun e => (h.2 e).keep hb⟩
/-- What else is not seen: the store, whose each block is. -/
structure KG where
  E : St
  Av : Nat → Prop
  L : List Sq
  bs : List Nat
  Ad : Nat → Prop
  κ : Nat → Nat
abbrev kcs (H : KH) : Array Value := #[wp H.eb, wp H.r, wp H.f, wp H.t, .map (some H.gm)]
structure KM (w : World) (m : Int) (H : KH) (S : KS) (U : Nat → Nat → Int) (q : Nat) (G : KG) : Prop where
  head : w.heap[H.kb]? = some (.cells (kcs H) 106)
  eb : G.E.b = H.eb
  en : G.E.n = S.n
  al : Al G.E w S.W G.Av G.L
  ms : G.L.map (fun x => x.2.2) = S.Ms
  sp : ∀ j (h : j < G.L.length), G.L[j].1 = H.sp j
  kd : KD w m H.f H.r S.D G.bs S.Ts (2 * q) G.Ad
  tb : ∀ j (h : j < G.bs.length), G.bs[j] = H.tb j
  qj : ∃ c, QJ w H.t H.g S.P c
  map : ∃ z, PMap w H.gm z (fun p => (S.O p).map (fun o => wp (H.hs o.j)))
  hold : ∀ p o, S.O p = some o → Hd w (H.hs o.j) (H.sp o.j) (H.tb o.j) (U o.j) o.m o.adj
  hinj : ∀ p o p' o', S.O p = some o → S.O p' = some o' → H.hs o.j = H.hs o'.j → p = p'
  len : S.Ms.length = S.Ts.length
  lt : ∀ p o, S.O p = some o → o.j < S.Ts.length
  key : ∀ p o, S.O p = some o → 1 ≤ p ∧ p ≤ 24
  tab : TabH H.ok w
  nx : S.D.nx ≤ 3 * (q : Int)
  few : S.Ts.length ≤ q + 1
  k1 : ∀ i, aown G.E G.Av G.L i → G.κ i = 1
  k2 : ∀ i, G.Ad i → G.κ i = 2
  k3 : G.κ H.g = 3
  k4 : G.κ H.gm = 4
  k5 : ∀ p o, S.O p = some o → G.κ (H.hs o.j) = 5
  kk : G.κ H.kb = 6
  kE : G.κ G.E.b = 6
  kB : G.κ G.E.bm = 6
  kt : G.κ H.t = 6
  ks : ∀ j, j < S.Ts.length → G.κ (H.sp j) = 6
  km : G.κ 4 = 0
  ke : G.κ 0 = 0
  kd0 : G.κ 2 = 0
  klt : ∀ i, G.κ i ≠ 0 → i < w.heap.size

/-- Tags, behind a step of X's. -/
def tg (κ : Nat → Nat) (X : Nat) (w w' : World) : Nat → Nat := fun i => if i < w.heap.size then κ i else if i < w'.heap.size then X else 0
section
variable {w w' : World} {m : Int} {H : KH} {S : KS} {U : Nat → Nat → Int} {q X : Nat} {G : KG} {κ : Nat → Nat}
theorem tg_old {i : Nat} (hi : i < w.heap.size) : tg κ X w w' i = κ i := if_pos hi
theorem tg_new {i : Nat} (h1 : w.heap.size ≤ i) (h2 : i < w'.heap.size) : tg κ X w w' i = X := by unfold tg; rw [if_neg (by omega), if_pos h2]
theorem tg_keep {i c : Nat} (hk : ∀ i, κ i ≠ 0 → i < w.heap.size) (hc : c ≠ 0) (h : κ i = c) : tg κ X w w' i = c := by
  rw [tg_old (hk i (by omega))]; exact h
theorem tg_zero {i : Nat} (hi : i < w.heap.size) (h : κ i = 0) : tg κ X w w' i = 0 := by rw [tg_old hi]; exact h
theorem tg_lt (_hk : ∀ i, κ i ≠ 0 → i < w.heap.size) (hs : w.heap.size ≤ w'.heap.size) : ∀ i, tg κ X w w' i ≠ 0 → i < w'.heap.size := fun i hi => by
  unfold tg at hi
  split at hi
  · omega
  · split at hi
    · assumption
    · exact absurd rfl hi
theorem tg_stp (wt : Wt (fun i => κ i = X) w w') (hX : X ≠ 0) : Stp w w' (fun i => κ i ≠ 0) (fun i => tg κ X w w' i ≠ 0) :=
  ⟨⟨wt.os, wt.tape, wt.output, wt.size, fun i hi hn => wt.block i hi (fun e => by rw [e] at hn; exact hn hX)⟩, fun i hi => by
    by_cases e : i < w.heap.size
    · rw [tg_old e] at hi; exact .inl hi
    · exact .inr (by omega)⟩

theorem KM.ml_lt (h : KM w m H S U q G) : 4 < w.heap.size := World.block_lt_of_cell? w _ h.kd.ml
theorem KM.er_lt (h : KM w m H S U q G) : 0 < w.heap.size := World.block_lt_of_cell? w _ h.kd.er
theorem KM.Ll (h : KM w m H S U q G) : G.L.length = S.Ts.length := by rw [← h.len, ← h.ms, List.length_map]
theorem KM.Lb (h : KM w m H S U q G) : G.bs.length = S.Ts.length := h.kd.len
/-- What stays, behind a step of X's. -/
structure Kept (w w' : World) (m : Int) (H : KH) (S : KS) (U : Nat → Nat → Int) (q X : Nat) (G : KG) : Prop where
  head : w'.heap[H.kb]? = some (.cells (kcs H) 106)
  al : X ≠ 1 → Al G.E w' S.W G.Av G.L
  kd : X ≠ 2 → KD w' m H.f H.r S.D G.bs S.Ts (2 * q) G.Ad
  qj : X ≠ 3 → ∃ c, QJ w' H.t H.g S.P c
  map : X ≠ 4 → ∃ z, PMap w' H.gm z (fun p => (S.O p).map (fun o => wp (H.hs o.j)))
  hold : X ≠ 5 → ∀ p o, S.O p = some o → Hd w' (H.hs o.j) (H.sp o.j) (H.tb o.j) (U o.j) o.m o.adj
  tab : TabH H.ok w'
  ml : w'.cell? ⟨4, 0, none⟩ = some (.int .i64 m)
  er : w'.cell? ⟨0, 0, none⟩ = some errT
theorem KM.kept (h : KM w m H S U q G) (hX : 1 ≤ X ∧ X ≤ 5) (wt : Wt (fun i => G.κ i = X) w w') : Kept w w' m H S U q X G := by
  have hb : ∀ i c, G.κ i = c → c ≠ 0 → c ≠ X → w'.heap[i]? = w.heap[i]? := fun i c e h0 hc => wt.block i (h.klt i (by omega)) (fun z => hc (by omega))
  have hz : ∀ i, G.κ i = 0 → i < w.heap.size → w'.heap[i]? = w.heap[i]? := fun i e hi => wt.block i hi (fun z => by omega)
  have m1 : w'.cell? ⟨4, 0, none⟩ = some (.int .i64 m) := by
    rw [World.cell?_of_block (w := w) (a := ⟨4, 0, none⟩) (hz _ h.km h.ml_lt)]; exact h.kd.ml
  have m2 : w'.cell? ⟨0, 0, none⟩ = some errT := by
    rw [World.cell?_of_block (w := w) (a := ⟨0, 0, none⟩) (hz _ h.ke h.er_lt)]; exact h.kd.er
  refine ⟨(hb _ 6 h.kk (by omega) (by omega)).trans h.head, fun hx => ?_, fun hx => ?_, fun hx => ?_, fun hx => ?_, fun hx p o ho => ?_, h.tab.keep (hz _ h.kd0 h.tab.lt), m1, m2⟩
  · refine h.al.keep (fun i hi => hb i 1 (h.k1 i hi) (by omega) (by omega)) (hb _ 6 h.kE (by omega) (by omega)) (hb _ 6 h.kB (by omega) (by omega)) (fun i hi => ?_)
    rw [h.sp i hi]
    exact hb _ 6 (h.ks i (by rw [← h.Ll]; exact hi)) (by omega) (by omega)
  · exact h.kd.keep (fun i hi => hb i 2 (h.k2 i hi) (by omega) (by omega)) wt.size m1 m2
  · obtain ⟨c, hc⟩ := h.qj
    exact ⟨c, ⟨hc.toQM.keep (hb _ 6 h.kt (by omega) (by omega)) (hb _ 3 h.k3 (by omega) (by omega)), hc.ok, hc.dj⟩⟩
  · obtain ⟨z, hm⟩ := h.map
    exact ⟨z, hm.keep (hb _ 4 h.k4 (by omega) (by omega))⟩
  · exact (h.hold p o ho).keep (hb _ 5 (h.k5 p o ho) (by omega) (by omega))
theorem KM.zero_lt (h : KM w m H S U q G) : 2 < w.heap.size := h.tab.lt

/-- Nothing of the kernel's turned. -/
theorem KM.below (h : KM w m H S U q G) (hb : Below w.heap.size w w') : KM w' m H S U q G := by
  have wt : Wt (fun i => G.κ i = 1) w w' := .below _ hb
  have k := h.kept (X := 1) ⟨by omega, by omega⟩ wt
  exact { h with head := k.head, al := h.al.below hb, kd := k.kd (by omega), qj := k.qj (by omega), map := k.map (by omega), hold := k.hold (by omega), tab := k.tab, klt := fun i hi => Nat.lt_of_lt_of_le (h.klt i hi) hb.size }

/-- One space turned. -/
theorem KM.vm (h : KM w m H S U q G) {j : Nat} (hj : j < G.L.length) {D' : Nat → Nat → Int} {P' : PM} (t : ATurn G.E w G.Av G.L w' D' (G.L.set j (G.L[j].1, G.L[j].2.1, P'))) :
    ∃ G', KM w' m H { S with W := D', Ms := S.Ms.set j P' } U q G' ∧ Stp w w' (fun i => G.κ i ≠ 0) (fun i => G'.κ i ≠ 0) := by
  obtain ⟨A', a', f, sub⟩ := t
  have wt : Wt (fun i => G.κ i = 1) w w' := ⟨f.os, f.tape, f.output, f.size, fun i hi hn => f.block i hi (fun ho => hn (h.k1 i ho))⟩
  have k := h.kept (X := 1) ⟨by omega, by omega⟩ wt
  have hk := h.klt
  have keep : ∀ {i c}, c ≠ 0 → G.κ i = c → tg G.κ 1 w w' i = c := fun hc e => tg_keep hk hc e
  refine ⟨⟨G.E, A', G.L.set j (G.L[j].1, G.L[j].2.1, P'), G.bs, G.Ad, tg G.κ 1 w w'⟩, ⟨k.head, h.eb, h.en, a', ?_, ?_, k.kd (by omega), h.tb, k.qj (by omega), k.map (by omega), k.hold (by omega), h.hinj, ?_, h.lt, h.key, k.tab, h.nx, h.few, ?_, fun i hi => keep (by omega) (h.k2 i hi), keep (by omega) h.k3, keep (by omega) h.k4, fun p o ho => keep (by omega) (h.k5 p o ho), keep (by omega) h.kk, keep (by omega) h.kE, keep (by omega) h.kB, keep (by omega) h.kt, fun x hx => keep (by omega) (h.ks x hx), tg_zero h.ml_lt h.km, tg_zero h.er_lt h.ke, tg_zero h.zero_lt h.kd0, tg_lt hk wt.size⟩, tg_stp wt (by omega)⟩
  · rw [List.map_set, h.ms]
  · intro x hx
    by_cases e : x = j
    · subst e; simp only [List.getElem_set_self]; exact h.sp x hj
    · simp only [List.getElem_set_ne (Ne.symm e)]; exact h.sp x (by simpa using hx)
  · show (S.Ms.set j P').length = _; rw [List.length_set]; exact h.len
  · intro i hi
    by_cases e : i < w.heap.size
    · show tg G.κ 1 w w' i = 1
      rw [tg_old e]; exact h.k1 i (sub i e hi)
    · exact tg_new (by omega) (a'.olt hi)
/-- The files, or the tables, turned. -/
theorem KM.desc (h : KM w m H S U q G) {q' : Nat} {D' : DS} {Ts' : List Ns} {A' : Nat → Prop} (hd : KD w' m H.f H.r D' G.bs Ts' (2 * q') A') (st : Stp w w' G.Ad A') (hl : Ts'.length = S.Ts.length) (hx : D'.nx ≤ 3 * (q' : Int)) (hq : q ≤ q') :
    ∃ G', KM w' m H { S with D := D', Ts := Ts' } U q' G' ∧ Stp w w' (fun i => G.κ i ≠ 0) (fun i => G'.κ i ≠ 0) := by
  have wt : Wt (fun i => G.κ i = 2) w w' := ⟨st.wt.os, st.wt.tape, st.wt.output, st.wt.size, fun i hi hn => st.wt.block i hi (fun ho => hn (h.k2 i ho))⟩
  have k := h.kept (X := 2) ⟨by omega, by omega⟩ wt
  have hk := h.klt
  have keep : ∀ {i c}, c ≠ 0 → G.κ i = c → tg G.κ 2 w w' i = c := fun hc e => tg_keep hk hc e
  refine ⟨⟨G.E, G.Av, G.L, G.bs, A', tg G.κ 2 w w'⟩, ⟨k.head, h.eb, h.en, k.al (by omega), h.ms, h.sp, hd, h.tb, k.qj (by omega), k.map (by omega), k.hold (by omega), h.hinj, h.len.trans hl.symm, fun p o ho => by show o.j < Ts'.length; rw [hl]; exact h.lt p o ho, h.key, k.tab, hx, ?_, fun i hi => keep (by omega) (h.k1 i hi), ?_, keep (by omega) h.k3, keep (by omega) h.k4, fun p o ho => keep (by omega) (h.k5 p o ho), keep (by omega) h.kk, keep (by omega) h.kE, keep (by omega) h.kB, keep (by omega) h.kt, fun x hx => keep (by omega) (h.ks x (by rw [← hl]; exact hx)), tg_zero h.ml_lt h.km, tg_zero h.er_lt h.ke, tg_zero h.zero_lt h.kd0, tg_lt hk wt.size⟩, tg_stp wt (by omega)⟩
  · show Ts'.length ≤ _; have := h.few; omega
  · intro i hi
    by_cases e : i < w.heap.size
    · show tg G.κ 2 w w' i = 2
      rw [tg_old e]
      rcases st.own i hi with z | z
      · exact h.k2 i z
      · omega
    · exact tg_new (by omega) (hd.lt i hi)
/-- The processes turned. -/
theorem KM.proc (h : KM w m H S U q G) {P' : Ps} (t : QJo w H.t H.g P' w') :
    ∃ G', KM w' m H { S with P := P' } U q G' ∧ Stp w w' (fun i => G.κ i ≠ 0) (fun i => G'.κ i ≠ 0) := by
  obtain ⟨c', qj, wg⟩ := t
  have wt : Wt (fun i => G.κ i = 3) w w' := ⟨wg.os, wg.tape, wg.output, wg.size, fun i hi hn => wg.block i hi (fun e => hn (by rw [e]; exact h.k3))⟩
  have k := h.kept (X := 3) ⟨by omega, by omega⟩ wt
  have hk := h.klt
  have keep : ∀ {i c}, c ≠ 0 → G.κ i = c → tg G.κ 3 w w' i = c := fun hc e => tg_keep hk hc e
  exact ⟨⟨G.E, G.Av, G.L, G.bs, G.Ad, tg G.κ 3 w w'⟩, ⟨k.head, h.eb, h.en, k.al (by omega), h.ms, h.sp, k.kd (by omega), h.tb, ⟨c', qj⟩, k.map (by omega), k.hold (by omega), h.hinj, h.len, h.lt, h.key, k.tab, h.nx, h.few, fun i hi => keep (by omega) (h.k1 i hi), fun i hi => keep (by omega) (h.k2 i hi), keep (by omega) h.k3, keep (by omega) h.k4, fun p o ho => keep (by omega) (h.k5 p o ho), keep (by omega) h.kk, keep (by omega) h.kE, keep (by omega) h.kB, keep (by omega) h.kt, fun x hx => keep (by omega) (h.ks x hx), tg_zero h.ml_lt h.km, tg_zero h.er_lt h.ke, tg_zero h.zero_lt h.kd0, tg_lt hk wt.size⟩, tg_stp wt (by omega)⟩
/-- One holding turned. -/
theorem KM.hd (h : KM w m H S U q G) {p : Int} {o : Ow} (ho : S.O p = some o) {U' : Nat → Int} {M' : Nat → Int} {a' : Int} (hd : Hd w' (H.hs o.j) (H.sp o.j) (H.tb o.j) U' M' a') (g : w.grownBy w' (some (H.hs o.j))) :
    KM w' m H { S with O := putO S.O p ⟨o.j, M', a'⟩ } (fun i => if i = o.j then U' else U i) q G ∧ Stp w w' (fun i => G.κ i ≠ 0) (fun i => G.κ i ≠ 0) := by
  have wt : Wt (fun i => G.κ i = 5) w w' := ⟨g.os, g.tape, g.output, g.size, fun i hi hn => g.block i hi (fun e => hn (by cases e; exact h.k5 p o ho))⟩
  have k := h.kept (X := 5) ⟨by omega, by omega⟩ wt
  have hk := h.klt
  have hO : ∀ x o', putO S.O p ⟨o.j, M', a'⟩ x = some o' → (x = p ∧ o' = ⟨o.j, M', a'⟩) ∨ (x ≠ p ∧ S.O x = some o') := fun x o' e => by
    by_cases ex : x = p
    · rw [ex, putO_same] at e; exact .inl ⟨ex, (Option.some.inj e).symm⟩
    · rw [putO_ne ex] at e; exact .inr ⟨ex, e⟩
  have hJ : ∀ x o', putO S.O p ⟨o.j, M', a'⟩ x = some o' → ∃ o2, S.O x = some o2 ∧ o2.j = o'.j := fun x o' e => by
    rcases hO x o' e with ⟨rfl, rfl⟩ | ⟨_, z⟩
    · exact ⟨o, ho, rfl⟩
    · exact ⟨o', z, rfl⟩
  refine ⟨⟨k.head, h.eb, h.en, k.al (by omega), h.ms, h.sp, k.kd (by omega), h.tb, k.qj (by omega), ?_, ?_, ?_, h.len, ?_, ?_, k.tab, h.nx, h.few, h.k1, h.k2, h.k3, h.k4, ?_, h.kk, h.kE, h.kB, h.kt, h.ks, h.km, h.ke, h.kd0, fun i hi => Nat.lt_of_lt_of_le (hk i hi) wt.size⟩, ⟨⟨wt.os, wt.tape, wt.output, wt.size, fun i hi hn => wt.block i hi (fun e => hn (by rw [e]; omega))⟩, fun i hi => .inl hi⟩⟩
  · obtain ⟨z, hm⟩ := k.map (by omega)
    refine ⟨z, ?_⟩
    have e : (fun x => (putO S.O p ⟨o.j, M', a'⟩ x).map (fun o => wp (H.hs o.j))) = fun x => (S.O x).map (fun o => wp (H.hs o.j)) := by
      funext x
      by_cases ex : x = p
      · rw [ex, putO_same, ho]; rfl
      · rw [putO_ne ex]
    show PMap w' H.gm z (fun x => (putO S.O p ⟨o.j, M', a'⟩ x).map (fun o => wp (H.hs o.j)))
    rw [e]; exact hm
  · intro x o' e
    rcases hO x o' e with ⟨rfl, rfl⟩ | ⟨hne, z⟩
    · simp only [if_true]; exact hd
    · have hj : o'.j ≠ o.j := fun ej => hne (h.hinj x o' p o z ho (by rw [ej]))
      simp only [if_neg hj]
      refine (h.hold x o' z).keep (g.block _ (h.klt _ (by rw [h.k5 x o' z]; omega)) (fun e => hne (h.hinj x o' p o z ho (Option.some.inj e))))
  · intro x o1 y o2 e1 e2 e3
    obtain ⟨a1, z1, j1⟩ := hJ x o1 e1
    obtain ⟨a2, z2, j2⟩ := hJ y o2 e2
    exact h.hinj x a1 y a2 z1 z2 (by rw [j1, j2]; exact e3)
  · intro x o' e
    obtain ⟨a1, z1, j1⟩ := hJ x o' e
    rw [← j1]; exact h.lt x a1 z1
  · intro x o' e
    obtain ⟨a1, z1, j1⟩ := hJ x o' e
    exact h.key x a1 z1
  · intro x o' e
    obtain ⟨a1, z1, j1⟩ := hJ x o' e
    rw [← j1]; exact h.k5 x a1 z1
/-- One goes out of the map. -/
theorem KM.del (h : KM w m H S U q G) {p : Int} {z : Nat} (hm : PMap w' H.gm z (fun x => if x = p then none else (S.O x).map (fun o => wp (H.hs o.j)))) (g : w.grownBy w' (some H.gm)) :
    ∃ G', KM w' m H { S with O := delO S.O p } U q G' ∧ Stp w w' (fun i => G.κ i ≠ 0) (fun i => G'.κ i ≠ 0) := by
  have wt : Wt (fun i => G.κ i = 4) w w' := ⟨g.os, g.tape, g.output, g.size, fun i hi hn => g.block i hi (fun e => hn (by cases e; exact h.k4))⟩
  have k := h.kept (X := 4) ⟨by omega, by omega⟩ wt
  have hk := h.klt
  have keep : ∀ {i c}, c ≠ 0 → G.κ i = c → tg G.κ 4 w w' i = c := fun hc e => tg_keep hk hc e
  have hO : ∀ x o', delO S.O p x = some o' → S.O x = some o' := fun x o' e => by
    unfold delO at e
    split at e
    · cases e
    · exact e
  refine ⟨⟨G.E, G.Av, G.L, G.bs, G.Ad, tg G.κ 4 w w'⟩, ⟨k.head, h.eb, h.en, k.al (by omega), h.ms, h.sp, k.kd (by omega), h.tb, k.qj (by omega), ?_, fun x o e => k.hold (by omega) x o (hO x o e), fun x o1 y o2 e1 e2 e3 => h.hinj x o1 y o2 (hO _ _ e1) (hO _ _ e2) e3, h.len, fun x o e => h.lt x o (hO x o e), fun x o e => h.key x o (hO x o e), k.tab, h.nx, h.few, fun i hi => keep (by omega) (h.k1 i hi), fun i hi => keep (by omega) (h.k2 i hi), keep (by omega) h.k3, keep (by omega) h.k4, fun x o e => keep (by omega) (h.k5 x o (hO x o e)), keep (by omega) h.kk, keep (by omega) h.kE, keep (by omega) h.kB, keep (by omega) h.kt, fun x hx => keep (by omega) (h.ks x hx), tg_zero h.ml_lt h.km, tg_zero h.er_lt h.ke, tg_zero h.zero_lt h.kd0, tg_lt hk wt.size⟩, tg_stp wt (by omega)⟩
  refine ⟨z, ?_⟩
  have e : (fun x => (delO S.O p x).map (fun o => wp (H.hs o.j))) = fun x => if x = p then none else (S.O x).map (fun o => wp (H.hs o.j)) := by
    funext x
    unfold delO
    by_cases ex : x = p
    · rw [if_pos ex, if_pos ex]; rfl
    · rw [if_neg ex, if_neg ex]
  show PMap w' H.gm z (fun x => (delO S.O p x).map (fun o => wp (H.hs o.j)))
  rw [e]; exact hm
end

/-- A kernel in memory; A: all that is its own. -/
def KX (w : World) (m : Int) (H : KH) (S : KS) (U : Nat → Nat → Int) (q : Nat) (A : Nat → Prop) : Prop := ∃ G, KM w m H S U q G ∧ ∀ i, A i ↔ G.κ i ≠ 0
end Go.Proofs.YtcfhanoekniaaaaGreatDoor

namespace Go.Proofs.YtcfhanoekniaaaaGreatDoor
open Go.RowKit Go.Maps

def KS.space (S : KS) (j : Nat) (P' : PM) (D' : Nat → Nat → Int) : KS := { S with W := D', Ms := S.Ms.set j P' }
def KS.files (S : KS) (D' : DS) (j : Nat) (N' : Ns) : KS := { S with D := D', Ts := S.Ts.set j N' }
def KS.procs (S : KS) (P' : Ps) : KS := { S with P := P' }
def KS.own (S : KS) (p : Int) (o : Ow) : KS := { S with O := putO S.O p o }
def KS.drop (S : KS) (p : Int) : KS := { S with O := delO S.O p }
/-- How many pages have a frame, of all, of all others. -/
def totM (Ms : List PM) (f : Int) : Nat := (Ms.map fun P => sh P f).sum
def othM (S : KS) (j : Nat) (f : Int) : Nat := totM S.Ms f - sh (msJ S j) f
section
variable {w w' : World} {m : Int} {H : KH} {S : KS} {U : Nat → Nat → Int} {q : Nat} {A : Nat → Prop} {p : Int} {o : Ow}
theorem KX.below (h : KX w m H S U q A) (hb : Below w.heap.size w w') : KX w' m H S U q A := by
  obtain ⟨G, k, e⟩ := h
  exact ⟨G, k.below hb, e⟩
theorem KX.lt (h : KX w m H S U q A) : ∀ i, A i → i < w.heap.size := fun i hi => by
  obtain ⟨G, k, e⟩ := h
  exact k.klt i ((e i).1 hi)
theorem KX.of {G : KG} (k : KM w m H S U q G) : KX w m H S U q (fun i => G.κ i ≠ 0) := ⟨G, k, fun _ => Iff.rfl⟩
/-- A step, told of a set that is the kernel's. -/
theorem stp_iff {A B A' : Nat → Prop} (e : ∀ i, A i ↔ B i) (st : Stp w w' B A') : Stp w w' A A' := by
  have : A = B := funext fun i => propext (e i)
  rw [this]; exact st
theorem KX.head (h : KX w m H S U q A) : w.heap[H.kb]? = some (.cells (kcs H) 106) := by
  obtain ⟨G, k, e⟩ := h; exact k.head
theorem KX.c0 (h : KX w m H S U q A) : w.cell? ⟨H.kb, 0, none⟩ = some (wp H.eb) := by rw [cell_of_row w H.kb 0 _ _ _ h.head]; rfl
theorem KX.c2 (h : KX w m H S U q A) : w.cell? ⟨H.kb, 2, none⟩ = some (wp H.f) := by rw [cell_of_row w H.kb 2 _ _ _ h.head]; rfl
theorem KX.c3 (h : KX w m H S U q A) : w.cell? ⟨H.kb, 3, none⟩ = some (wp H.t) := by rw [cell_of_row w H.kb 3 _ _ _ h.head]; rfl
theorem KX.c4 (h : KX w m H S U q A) : w.cell? ⟨H.kb, 4, none⟩ = some (.map (some H.gm)) := by rw [cell_of_row w H.kb 4 _ _ _ h.head]; rfl
theorem KX.hd (h : KX w m H S U q A) (ho : S.O p = some o) : Hd w (H.hs o.j) (H.sp o.j) (H.tb o.j) (U o.j) o.m o.adj := by
  obtain ⟨G, k, e⟩ := h; exact k.hold p o ho
theorem KX.er (h : KX w m H S U q A) : w.cell? ⟨0, 0, none⟩ = some errT := by
  obtain ⟨G, k, e⟩ := h; exact k.kd.er
theorem KX.hne (h : KX w m H S U q A) (ho : S.O p = some o) : 0 ≠ H.hs o.j := by
  obtain ⟨G, k, e⟩ := h
  intro z
  have := k.k5 p o ho
  rw [← z, k.ke] at this; omega
theorem KX.inv (h : KX w m H S U q A) : Inv S.D S.Ts (2 * q) := by
  obtain ⟨G, k, e⟩ := h; exact k.kd.inv
theorem KX.jok (h : KX w m H S U q A) : JOk S.P := by
  obtain ⟨G, k, e⟩ := h
  obtain ⟨c, qj⟩ := k.qj
  exact qj.ok
theorem KX.jlt (h : KX w m H S U q A) (ho : S.O p = some o) : o.j < S.Ts.length := by
  obtain ⟨G, k, e⟩ := h; exact k.lt p o ho
theorem KX.mlt (h : KX w m H S U q A) (ho : S.O p = some o) : o.j < S.Ms.length := by
  obtain ⟨G, k, e⟩ := h; rw [k.len]; exact k.lt p o ho
theorem KX.len (h : KX w m H S U q A) : S.Ms.length = S.Ts.length := by
  obtain ⟨G, k, e⟩ := h; exact k.len
theorem KX.nx (h : KX w m H S U q A) : S.D.nx ≤ 3 * (q : Int) := by
  obtain ⟨G, k, e⟩ := h; exact k.nx
theorem KX.key (h : KX w m H S U q A) (ho : S.O p = some o) : 1 ≤ p ∧ p ≤ 24 := by
  obtain ⟨G, k, e⟩ := h; exact k.key p o ho
theorem KX.inj (h : KX w m H S U q A) {p' : Int} {o' : Ow} (ho : S.O p = some o) (ho' : S.O p' = some o') (e : o.j = o'.j) : p = p' := by
  obtain ⟨G, k, _⟩ := h; exact k.hinj p o p' o' ho ho' (by rw [e])
theorem KX.more (h : KX w m H S U q A) {q' : Nat} (hq : q ≤ q') : KX w m H S U q' A := by
  obtain ⟨G, k, e⟩ := h
  refine ⟨G, { k with kd := ?_, nx := ?_, few := ?_ }, e⟩
  · exact { k.kd with inv := k.kd.inv.more (by omega) }
  · have := k.nx; omega
  · have := k.few; omega
theorem totM_map (L : List Sq) (f : Int) : totM (L.map (fun x => x.2.2)) f = totS L f := by unfold totM totS; rw [List.map_map]; rfl
/-- A call that turns one space. -/
theorem KX.vm (h : KX w m H S U q A) (hj : o.j < S.Ts.length) {fn : FuncId} {args : Array Value} {Q : Ending → PM → (Nat → Nat → Int) → Prop}
    (hc : ∀ E Av gc, E.n = S.n → VS E w (H.sp o.j) gc S.W Av (msJ S o.j) (othM S o.j) → Calls Tryz.prog fn args w fun y w' => ∃ P' D', Q y P' D' ∧ STurn E w (H.sp o.j) gc Av w' D' P' (othM S o.j)) :
    Calls Tryz.prog fn args w fun y w' => ∃ P' D', Q y P' D' ∧ ∃ A', KX w' m H (S.space o.j P' D') U q A' ∧ Stp w w' A A' := by
  obtain ⟨G, k, e⟩ := h
  have hl : o.j < G.L.length := by rw [k.Ll]; exact hj
  have hP : G.L[o.j].2.2 = msJ S o.j := by
    rw [ms_at (by rw [k.len]; exact hj)]
    have : S.Ms = G.L.map (fun x => x.2.2) := k.ms.symm
    simp only [this, List.getElem_map]
  have hO : oth G.L o.j hl = othM S o.j := by
    funext f; unfold oth othM; rw [← k.ms, totM_map, hP]
  have hv := k.al.sp o.j hl
  rw [k.sp o.j hl, hP, hO] at hv
  refine (hc G.E G.Av G.L[o.j].2.1 k.en hv).mono ?_
  rintro y w' ⟨P', D', hQ, t⟩
  rw [← k.sp o.j hl, ← hO] at t
  obtain ⟨G', k', st⟩ := k.vm hl (k.al.turn hl t)
  exact ⟨P', D', hQ, _, .of k', stp_iff e st⟩
/-- A call that reads one space. -/
theorem KX.vmr (h : KX w m H S U q A) (hj : o.j < S.Ts.length) {C : Prop} (hc : ∀ E Av gc, E.n = S.n → VS E w (H.sp o.j) gc S.W Av (msJ S o.j) (othM S o.j) → C) : C := by
  obtain ⟨G, k, e⟩ := h
  have hl : o.j < G.L.length := by rw [k.Ll]; exact hj
  have hP : G.L[o.j].2.2 = msJ S o.j := by
    rw [ms_at (by rw [k.len]; exact hj)]
    have : S.Ms = G.L.map (fun x => x.2.2) := k.ms.symm
    simp only [this, List.getElem_map]
  have hO : oth G.L o.j hl = othM S o.j := by
    funext f; unfold oth othM; rw [← k.ms, totM_map, hP]
  have hv := k.al.sp o.j hl
  rw [k.sp o.j hl, hP, hO] at hv
  exact hc G.E G.Av G.L[o.j].2.1 k.en hv
theorem KX.map (h : KX w m H S U q A) (hj : o.j < S.Ts.length) (a n prot : Int) (hn : n ≤ 9223372036854775807) :
    Calls Tryz.prog 127 #[wp (H.sp o.j), .int .i64 a, .int .i64 n, .int .i64 prot] w fun y w' => y = .returned (uev (mapE (msJ S o.j) a n prot)) ∧ ∃ A', KX w' m H (S.space o.j (mapP (msJ S o.j) a n prot) S.W) U q A' ∧ Stp w w' A A' := by
  refine (h.vm hj (Q := fun y P' D' => y = .returned (uev (mapE (msJ S o.j) a n prot)) ∧ P' = mapP (msJ S o.j) a n prot ∧ D' = S.W) (fun E Av gc _ v => ?_)).mono ?_
  · refine (v.map_ok a n prot hn).mono ?_
    rintro y w' ⟨rfl, t⟩
    exact ⟨_, _, ⟨rfl, rfl, rfl⟩, t⟩
  · rintro y w' ⟨P', D', ⟨rfl, rfl, rfl⟩, r⟩
    exact ⟨rfl, r⟩
theorem KX.unmap (h : KX w m H S U q A) (hj : o.j < S.Ts.length) (a n : Int) (hn : n ≤ 9223372036854775807) :
    Calls Tryz.prog 129 #[wp (H.sp o.j), .int .i64 a, .int .i64 n] w fun y w' => y = .returned (uev (unE (msJ S o.j) a n)) ∧ ∃ A', KX w' m H (S.space o.j (unP (msJ S o.j) a n) S.W) U q A' ∧ Stp w w' A A' := by
  refine (h.vm hj (Q := fun y P' D' => y = .returned (uev (unE (msJ S o.j) a n)) ∧ P' = unP (msJ S o.j) a n ∧ D' = S.W) (fun E Av gc _ v => ?_)).mono ?_
  · refine (v.unmap_ok a n hn).mono ?_
    rintro y w' ⟨rfl, t⟩
    exact ⟨_, _, ⟨rfl, rfl, rfl⟩, t⟩
  · rintro y w' ⟨P', D', ⟨rfl, rfl, rfl⟩, r⟩
    exact ⟨rfl, r⟩
theorem KX.clearS (h : KX w m H S U q A) (hj : o.j < S.Ts.length) :
    Calls Tryz.prog 114 #[wp (H.sp o.j)] w fun y w' => y = .returned (.tuple #[]) ∧ ∃ A', KX w' m H (S.space o.j noP S.W) U q A' ∧ Stp w w' A A' := by
  refine (h.vm hj (Q := fun y P' D' => y = .returned (.tuple #[]) ∧ P' = noP ∧ D' = S.W) (fun E Av gc _ v => ?_)).mono ?_
  · refine v.clear_ok.mono ?_
    rintro y w' ⟨rfl, t⟩
    exact ⟨_, _, ⟨rfl, rfl, rfl⟩, t⟩
  · rintro y w' ⟨P', D', ⟨rfl, rfl, rfl⟩, r⟩
    exact ⟨rfl, r⟩
theorem KX.storeS (h : KX w m H S U q A) (hj : o.j < S.Ts.length) (a k v : Int) (ha : (Lit.int .i64 a).wf = true) :
    Calls Tryz.prog 121 #[wp (H.sp o.j), .int .i64 a, .int .i64 k, .int .i64 v] w fun y w' => ∃ P' D' er, StR S.n (msJ S o.j) (othM S o.j) S.W a k v er P' D' ∧ y = .returned (uev er) ∧ ∃ A', KX w' m H (S.space o.j P' D') U q A' ∧ Stp w w' A A' := by
  refine (h.vm hj (Q := fun y P' D' => ∃ er, StR S.n (msJ S o.j) (othM S o.j) S.W a k v er P' D' ∧ y = .returned (uev er)) (fun E Av gc en v9 => ?_)).mono ?_
  · refine (v9.store_ok a k v ha).mono ?_
    rintro y w' ⟨er, P', D', hS, rfl, t⟩
    rw [en] at hS
    exact ⟨_, _, ⟨er, hS, rfl⟩, t⟩
  · rintro y w' ⟨P', D', ⟨er, hS, rfl⟩, r⟩
    exact ⟨P', D', er, hS, rfl, r⟩
theorem KX.loadS (h : KX w m H S U q A) (hj : o.j < S.Ts.length) (a k : Int) (ha : (Lit.int .i64 a).wf = true) :
    Calls Tryz.prog 124 #[wp (H.sp o.j), .int .i64 a, .int .i64 k] w fun y w' => y = .returned (.tuple #[.int .i64 (loadV (msJ S o.j) S.W a k), uev (useE (msJ S o.j) a k 1)]) ∧ Below w.heap.size w w' :=
  h.vmr hj (fun _ _ _ _ v => v.load a k ha)
theorem KX.resS (h : KX w m H S U q A) (hj : o.j < S.Ts.length) :
    Calls Tryz.prog 117 #[wp (H.sp o.j)] w fun y w' => y = .returned (.int .i64 (resP (msJ S o.j) : Nat)) ∧ Below w.heap.size w w' :=
  h.vmr hj (fun _ _ _ _ v => v.sp.resident)
theorem KX.leftS (h : KX w m H S U q A) : Calls Tryz.prog 119 #[wp H.eb] w fun y w' => y = .returned (.int .i64 ((S.n - used (totM S.Ms) S.n : Nat) : Int)) ∧ w' = w := by
  obtain ⟨G, k, e⟩ := h
  have := k.al.left
  rw [k.eb, k.en, show totS G.L = totM S.Ms by funext f; rw [← k.ms, totM_map]] at this
  exact this
end
end Go.Proofs.YtcfhanoekniaaaaGreatDoor

namespace Go.Proofs.YtcfhanoekniaaaaGreatDoor
open Go.RowKit Go.Maps Go.Sort

section
variable {w w' : World} {m : Int} {H : KH} {S : KS} {U : Nat → Nat → Int} {q : Nat} {A : Nat → Prop} {p : Int} {o : Ow}
theorem zero_hold (w : World) : (zeroValue 99).run Tryz.prog w = .ok (.pointer none) w := by kernel_rfl
theorem KX.look (h : KX w m H S U q A) (p : Int) (hp : (Lit.int .i64 p).wf = true) : (Instr.lookup 104 (.map (some H.gm)) (.int .i64 p) false).run Tryz.prog w = .ok (match S.O p with | some o => wp (H.hs o.j) | none => .pointer none) w := by
  obtain ⟨G, k, e⟩ := h
  obtain ⟨z, hm⟩ := k.map
  rw [hm.look Tryz.underlying104 (zero_hold w) p hp]
  cases S.O p <;> rfl
theorem wf24 {p : Int} (h : 1 ≤ p ∧ p ≤ 24) : (Lit.int .i64 p).wf = true := wf64 (by omega)
theorem KX.lookS (h : KX w m H S U q A) (ho : S.O p = some o) : (Instr.lookup 104 (.map (some H.gm)) (.int .i64 p) false).run Tryz.prog w = .ok (wp (H.hs o.j)) w := by
  rw [h.look p (wf24 (h.key ho)), ho]
set_option maxRecDepth 100000 in
set_option maxHeartbeats 1000000 in
theorem KX.find_yes (h : KX w m H S U q A) (ho : S.O p = some o) : Calls Tryz.prog 51 #[wp H.kb, .int .i64 p] w fun e w' => e = .returned (.tuple #[wp (H.hs o.j), .nilIface]) ∧ w' = w := by
  have c4 := h.c4
  have l1 := h.lookS ho
  clear h ho
  go_enter Tryz.func51, Tryz.ntmps51
  go_wp2_with fail
  go_ret2
  exact ⟨rfl, rfl⟩
set_option maxRecDepth 100000 in
theorem KX.left (h : KX w m H S U q A) : Calls Tryz.prog 39 #[wp H.kb] w fun e w' => e = .returned (.int .i64 ((S.n - used (totM S.Ms) S.n : Nat) : Int)) ∧ w' = w := by
  have c0 := h.c0
  have hL := h.leftS
  generalize S.n - used (totM S.Ms) S.n = x at *
  clear h
  go_enter Tryz.func39, Tryz.ntmps39
  go_wp2_with (go_at_call 119; refine hL.mono ?_; rintro e w1 ⟨rfl, hw⟩; subst w1)
  go_ret
  exact ⟨rfl, rfl⟩
set_option maxRecDepth 100000 in
theorem KX.open_ok (h : KX w m H S U q A) {n : Nat} (hn : IsN S.D.E n) : Calls Tryz.prog 21 #[wp H.kb] w fun e w' => e = .returned (.int .i64 (n : Int)) ∧ w' = w := by
  have c2 := h.c2
  obtain ⟨G, k, e⟩ := h
  have hL := k.kd.openIs hn
  clear k hn
  go_enter Tryz.func21, Tryz.ntmps21
  go_wp2_with (go_at_call 65; refine hL.mono ?_; rintro e w1 ⟨rfl, hw⟩; subst w1)
  go_ret
  exact ⟨rfl, rfl⟩
theorem KX.one (h : KX w m H S U q A) : (S.P 1).isSome = true := by
  obtain ⟨p, hp, _⟩ := h.jok.one
  rw [hp]; rfl
end
end Go.Proofs.YtcfhanoekniaaaaGreatDoor
