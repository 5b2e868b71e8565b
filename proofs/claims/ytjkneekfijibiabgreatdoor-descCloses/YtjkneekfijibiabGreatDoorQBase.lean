/- Package desc, with several tables: Close, Dup2, Pipe, Read, Write, Exec, Clear, Fork; the tree's Unlink. -/
import Derived.Test.YtjkneekfijibiabGreatDoorQAll
import Derived.Test.YtjkneekfijibiabGreatDoorQFile
namespace Go.Proofs.YtjkneekfijibiabGreatDoor
open Go.RowKit Go.Maps

section
variable {w w' w2 w0 w1 : World} {f r b n k k' j : Nat} {D D' : DS} {g g' : QG} {bs : List Nat} {Ts : List Ns} {M N N' : Ns} {d m : Int} {A : Nat → Prop}
theorem KD.close (h : KD w m f r D bs Ts k A) (hk : k ≤ 900) (hj : j < bs.length) (x : Int) :
    Calls Tryz.prog 47 #[wp f, wp bs[j], .int .i64 x] w fun y w' => ∃ D' N' A', (y = .returned (uev (if hasN (Ts[j]'(h.jT hj)) x = true then 0 else 7)) ∧ D' = closeD D (Ts[j]'(h.jT hj)) x ∧ N' = closeN (Ts[j]'(h.jT hj)) x) ∧ KD w' m f r D' bs (Ts.set j N') k A' ∧ Stp w w' A A' := by
  have hI := h.inv.closeO hk (h.jT hj) x
  refine h.call hj (Q := fun y D' N' => y = .returned (uev (if hasN (Ts[j]'(h.jT hj)) x = true then 0 else 7)) ∧ D' = closeD D (Ts[j]'(h.jT hj)) x ∧ N' = closeN (Ts[j]'(h.jT hj)) x) (fun g n9 M hj' q t _ => ?_) (fun y D' N' hq => ?_)
  · by_cases hx : hasN (Ts[j]'hj') x = true
    · obtain ⟨i, rfl, hi, hiL, h0⟩ := hasN_at hx t.len
      obtain ⟨e, cl⟩ := h.inv.cl hj' hiL h0
      have e1 : closeD D (Ts[j]'hj') i = closeK D (Ts[j]'hj')[i].1 := by unfold closeD; rw [if_pos hx, getD_in hiL]
      have e2 : closeN (Ts[j]'hj') i = (Ts[j]'hj').set i (0, false) := by unfold closeN; rw [if_pos hx, show (i : Int).toNat = i by omega]
      have hjs : j < (Ts.set j (closeN (Ts[j]'hj') i)).length := by rw [List.length_set]; exact hj'
      have hl := hI.live hjs
      rw [getT_set hj' _ hjs, e1, e2] at hl
      refine (q.close_ok t hi hiL h0 cl hl).mono ?_
      rintro y w' ⟨rfl, hG⟩
      exact ⟨_, _, ⟨by rw [if_pos hx]; rfl, rfl, rfl⟩, by rw [e1, e2]; exact hG⟩
    · have hx' : hasN (Ts[j]'hj') x = false := by simpa using hx
      refine (q.close_no t x hx').mono ?_
      rintro y w' ⟨rfl, hG⟩
      exact ⟨_, _, ⟨by rw [if_neg hx]; rfl, (if_neg hx).symm, (if_neg hx).symm⟩, hG⟩
  · obtain ⟨_, rfl, rfl⟩ := hq
    exact hI
theorem KD.dup2 (h : KD w m f r D bs Ts k A) (hk : k ≤ 900) (hj : j < bs.length) (x y9 : Int) :
    Calls Tryz.prog 83 #[wp f, wp bs[j], .int .i64 x, .int .i64 y9] w fun y w' => ∃ D' N' A', (y = .returned (uev (dup2E (Ts[j]'(h.jT hj)) x y9)) ∧ D' = dup2D D (Ts[j]'(h.jT hj)) x y9 ∧ N' = dup2N (Ts[j]'(h.jT hj)) x y9) ∧ KD w' m f r D' bs (Ts.set j N') k A' ∧ Stp w w' A A' := by
  have hI := h.inv.dup2O hk (h.jT hj) x y9
  refine h.call hj (Q := fun y D' N' => y = .returned (uev (dup2E (Ts[j]'(h.jT hj)) x y9)) ∧ D' = dup2D D (Ts[j]'(h.jT hj)) x y9 ∧ N' = dup2N (Ts[j]'(h.jT hj)) x y9) (fun g n9 M hj' q t _ => ?_) (fun y D' N' hq => ?_)
  · by_cases hx : hasN (Ts[j]'hj') x = true
    · by_cases hy : 0 ≤ y9 ∧ y9 ≤ 7
      · have e0 : dup2E (Ts[j]'hj') x y9 = 0 := by unfold dup2E; rw [if_pos hx, if_pos hy]
        by_cases hne : x = y9
        · subst hne
          have e1 : dup2D D (Ts[j]'hj') x x = D := if_neg (fun z => z.2 rfl)
          have e2 : dup2N (Ts[j]'hj') x x = Ts[j]'hj' := if_neg (fun z => z.2 rfl)
          refine (q.dup2_same t x hx).mono ?_
          rintro y w' ⟨rfl, hG⟩
          exact ⟨_, _, ⟨by rw [e0]; rfl, rfl, rfl⟩, by rw [e1, e2]; exact hG⟩
        · obtain ⟨i, rfl, hi, hiL, h0⟩ := hasN_at hx t.len
          obtain ⟨i2, rfl⟩ : ∃ i2 : Nat, y9 = i2 := ⟨y9.toNat, by omega⟩
          have hiL2 : i2 < (Ts[j]'hj').length := by rw [t.len]; omega
          have e1 : dup2D D (Ts[j]'hj') i i2 = if (Ts[j]'hj')[i2].1 = 0 then incR D (Ts[j]'hj')[i].1 else closeK (incR D (Ts[j]'hj')[i].1) (Ts[j]'hj')[i2].1 := by
            unfold dup2D; rw [if_pos ⟨e0, hne⟩, getD_in hiL, getD_in hiL2]
          have e2 : dup2N (Ts[j]'hj') i i2 = (Ts[j]'hj').set i2 ((Ts[j]'hj')[i].1, false) := by
            unfold dup2N; rw [if_pos ⟨e0, hne⟩, getD_in hiL, show (i2 : Int).toNat = i2 by omega]
          have hjs : j < (Ts.set j (dup2N (Ts[j]'hj') i i2)).length := by rw [List.length_set]; exact hj'
          have hl := hI.live hjs
          rw [getT_set hj' _ hjs, e2] at hl
          have hnn := h.inv.nn hj' _ (List.getElem_mem hiL2)
          refine (q.dup2_go t hi (j := i2) (by omega) hiL hiL2 (fun z => hne (by rw [z])) h0 (h.inv.cnted hj') (D2 := dup2D D (Ts[j]'hj') i i2) ?_ hl).mono ?_
          · by_cases z0 : (Ts[j]'hj')[i2].1 = 0
            · exact .inl ⟨z0, by rw [e1, if_pos z0]⟩
            · refine .inr ⟨by omega, by rw [e1, if_neg z0], ?_⟩
              exact (h.inv.dup2 hk hj' hiL2 (by omega) h0 (cntS_pos hj' hiL)).2
          · rintro y w' ⟨rfl, hG⟩
            exact ⟨_, _, ⟨by rw [e0]; rfl, rfl, rfl⟩, by rw [e2]; exact hG⟩
      · have e0 : dup2E (Ts[j]'hj') x y9 = 2 := by unfold dup2E; rw [if_pos hx, if_neg hy]
        refine (q.dup2_range t x y9 hx hy).mono ?_
        rintro y w' ⟨rfl, hG⟩
        exact ⟨_, _, ⟨by rw [e0]; rfl, (if_neg (fun z => by rw [e0] at z; omega)).symm, (if_neg (fun z => by rw [e0] at z; omega)).symm⟩, hG⟩
    · have hx' : hasN (Ts[j]'hj') x = false := by simpa using hx
      have e0 : dup2E (Ts[j]'hj') x y9 = 7 := if_neg hx
      refine (q.dup2_no t x y9 hx').mono ?_
      rintro y w' ⟨rfl, hG⟩
      exact ⟨_, _, ⟨by rw [e0]; rfl, (if_neg (fun z => by rw [e0] at z; omega)).symm, (if_neg (fun z => by rw [e0] at z; omega)).symm⟩, hG⟩
  · obtain ⟨_, rfl, rfl⟩ := hq
    exact hI
theorem KD.pipe (h : KD w m f r D bs Ts k A) (hn : D.nx < 890) (hj : j < bs.length) {n : Nat} (hN : IsN D.E n) :
    Calls Tryz.prog 80 #[wp f, wp bs[j]] w fun z w' => ∃ D' N' A', (∃ x y c, z = .returned (.tuple #[.int .i64 x, .int .i64 y, uev c]) ∧ PipeO D (Ts[j]'(h.jT hj)) n x y c D' N') ∧ KD w' m f r D' bs (Ts.set j N') k A' ∧ Stp w w' A A' := by
  refine h.call hj (Q := fun z D' N' => ∃ x y c, z = .returned (.tuple #[.int .i64 x, .int .i64 y, uev c]) ∧ PipeO D (Ts[j]'(h.jT hj)) n x y c D' N') (fun g n9 M hj' q t _ => ?_) (fun y D' N' hq => ?_)
  · obtain rfl := hN.one q.numE
    by_cases hf : noPipe (Ts[j]'hj') n
    · refine (q.pipe_no t hf (q.few h.inv.core.giv)).mono ?_
      rintro y w' ⟨rfl, hG⟩
      exact ⟨_, _, ⟨0, 0, 12, rfl, .inl ⟨hf, rfl, rfl, rfl, rfl, rfl⟩⟩, hG⟩
    · obtain ⟨l1, l2⟩ := h.inv.pipe_room hj' hf
      have g := h.inv.core.giv
      refine (q.pipe_yes t g hn (fun d e he => ?_) hf l1 l2 (h.inv.live hj')).mono ?_
      · by_cases hk : e.kind = 1
        · exact .inr hk
        · have := ((h.inv.core.ent d e he).pipe hk).2.1
          exact .inl (by omega)
      · rintro y w' ⟨rfl, hG⟩
        exact ⟨_, _, ⟨_, _, 0, rfl, .inr ⟨hf, rfl, rfl, rfl, rfl, rfl⟩⟩, hG⟩
  · obtain ⟨x, y, c, _, hP⟩ := hq
    rcases hP with ⟨_, _, _, _, rfl, rfl⟩ | ⟨hf, _, _, _, rfl, rfl⟩
    · exact h.inv.setSelf (h.jT hj)
    · obtain ⟨l1, l2⟩ := h.inv.pipe_room (h.jT hj) hf
      exact h.inv.pipe hn (h.jT hj) l1 l2
theorem KD.read (h : KD w m f r D bs Ts k A) (hj : j < bs.length) (x a : Int) :
    Calls Tryz.prog 45 #[wp f, wp bs[j], .int .i64 x, .int .i64 a] w fun y w' => ∃ D' N' A', (y = .returned (.tuple #[tx (readO D (Ts[j]'(h.jT hj)) x a).1, uev (readO D (Ts[j]'(h.jT hj)) x a).2.1]) ∧ D' = (readO D (Ts[j]'(h.jT hj)) x a).2.2 ∧ N' = Ts[j]'(h.jT hj)) ∧ KD w' m f r D' bs (Ts.set j N') k A' ∧ Stp w w' A A' := by
  refine h.call hj (Q := fun y D' N' => y = .returned (.tuple #[tx (readO D (Ts[j]'(h.jT hj)) x a).1, uev (readO D (Ts[j]'(h.jT hj)) x a).2.1]) ∧ D' = (readO D (Ts[j]'(h.jT hj)) x a).2.2 ∧ N' = Ts[j]'(h.jT hj)) (fun g n9 M hj' q t _ => ?_) (fun y D' N' hq => ?_)
  · by_cases hx : hasN (Ts[j]'hj') x = true
    · obtain ⟨i, rfl, hi, hiL, h0⟩ := hasN_at hx t.len
      obtain ⟨e, he⟩ := Option.isSome_iff_exists.1 (h.inv.live hj' i hiL h0)
      have ok := h.inv.core.ent _ e he
      by_cases hp2 : e.prot = 2
      · rw [readO_false hi hiL h0 he hp2]
        refine (q.read_no t i a 13 (by omega) (q.usable_false t hi hiL h0 he 1 (.inl ⟨rfl, hp2⟩))).mono ?_
        rintro y w' ⟨rfl, hG⟩
        exact ⟨_, _, ⟨rfl, rfl, rfl⟩, hG⟩
      · by_cases hk : e.kind = 1
        · obtain ⟨a1, a2, a3, a4, a5, a6⟩ := ok.file hk
          rw [readO_file hi hiL h0 he hk hp2]
          have hl := readS_end (x := e.node) (c := a) h.inv.core.sm a5 a6
          refine (q.read_file t hi hiL h0 he a hk (by omega) ⟨a3, a4⟩ ⟨a5, a6⟩ (by omega)).mono ?_
          rintro y w' ⟨rfl, hG⟩
          exact ⟨_, _, ⟨rfl, rfl, rfl⟩, hG⟩
        · obtain ⟨a1, a2, p, a3, a4, a5, a6, a7, a8⟩ := ok.pipe hk
          have hpr : e.prot = 1 := by
            rcases ok.kind with z | z | z
            · exact absurd z hk
            · exact ok.frm z
            · exact absurd (ok.into z) hp2
          rw [readO_end hi hiL h0 he hk hp2 a3]
          refine (q.read_end t hi hiL h0 he a hk (.inl hpr) a3 a7).mono ?_
          rintro y w' ⟨rfl, hG⟩
          exact ⟨_, _, ⟨rfl, rfl, rfl⟩, hG⟩
    · have hx' : hasN (Ts[j]'hj') x = false := by simpa using hx
      rw [readO_no hx']
      refine (q.read_no t x a 7 (by omega) (q.usable_no t x 1 hx')).mono ?_
      rintro y w' ⟨rfl, hG⟩
      exact ⟨_, _, ⟨rfl, rfl, rfl⟩, hG⟩
  · obtain ⟨_, rfl, rfl⟩ := hq
    exact (h.inv.read (h.jT hj) x a).setSelf (h.jT hj)
theorem KD.write (h : KD w m f r D bs Ts k A) (hj : j < bs.length) (x : Int) (s : List UInt8) (hs : s.length < 100000) (a : Int) :
    Calls Tryz.prog 44 #[wp f, wp bs[j], .int .i64 x, tx s, .int .i64 a] w fun y w' => ∃ D' N' A', (y = .returned (.tuple #[.int .i64 (writeO D (Ts[j]'(h.jT hj)) x s a).1, uev (writeO D (Ts[j]'(h.jT hj)) x s a).2.1]) ∧ D' = (writeO D (Ts[j]'(h.jT hj)) x s a).2.2 ∧ N' = Ts[j]'(h.jT hj)) ∧ KD w' m f r D' bs (Ts.set j N') (k + 1) A' ∧ Stp w w' A A' := by
  refine h.call hj (Q := fun y D' N' => y = .returned (.tuple #[.int .i64 (writeO D (Ts[j]'(h.jT hj)) x s a).1, uev (writeO D (Ts[j]'(h.jT hj)) x s a).2.1]) ∧ D' = (writeO D (Ts[j]'(h.jT hj)) x s a).2.2 ∧ N' = Ts[j]'(h.jT hj)) (fun g n9 M hj' q t _ => ?_) (fun y D' N' hq => ?_)
  · by_cases hx : hasN (Ts[j]'hj') x = true
    · obtain ⟨i, rfl, hi, hiL, h0⟩ := hasN_at hx t.len
      obtain ⟨e, he⟩ := Option.isSome_iff_exists.1 (h.inv.live hj' i hiL h0)
      have ok := h.inv.core.ent _ e he
      by_cases hp1 : e.prot = 1
      · rw [writeO_false hi hiL h0 he hp1]
        refine (q.write_no t i s a 13 (by omega) (q.usable_false t hi hiL h0 he 2 (.inr ⟨rfl, hp1⟩))).mono ?_
        rintro y w' ⟨rfl, hG⟩
        exact ⟨_, _, ⟨rfl, rfl, rfl⟩, hG⟩
      · by_cases hk : e.kind = 1
        · obtain ⟨a1, a2, a3, a4, a5, a6⟩ := ok.file hk
          by_cases hl : tooMuch s a e.pos
          · rw [writeO_limit hi hiL h0 he hk hp1 hl]
            refine (q.write_limit t hi hiL h0 he s a hk (by omega) ⟨a5, a6⟩ hs hl).mono ?_
            rintro y w' ⟨rfl, hG⟩
            exact ⟨_, _, ⟨rfl, rfl, rfl⟩, hG⟩
          · refine (q.write_file t hi hiL h0 he s a hk (by omega) ⟨a3, a4⟩ ⟨a5, a6⟩ hs h.inv.core.lv hl).mono ?_
            rintro y w' (⟨hE, rfl, hG⟩ | ⟨hE, rfl, hG⟩)
            · rw [writeO_bad hi hiL h0 he hk hp1 hl hE]
              exact ⟨_, _, ⟨by rw [uev_ne hE], rfl, rfl⟩, hG⟩
            · rw [writeO_file hi hiL h0 he hk hp1 hl hE]
              exact ⟨_, _, ⟨rfl, rfl, rfl⟩, hG⟩
        · obtain ⟨a1, a2, p, a3, a4, a5, a6, a7, a8⟩ := ok.pipe hk
          have hpr : e.prot = 2 := by
            rcases ok.kind with z | z | z
            · exact absurd z hk
            · exact absurd (ok.frm z) hp1
            · exact ok.into z
          rw [writeO_end hi hiL h0 he hk hp1 a3]
          refine (q.write_end t hi hiL h0 he s a hk (.inl hpr) a3).mono ?_
          rintro y w' ⟨rfl, hG⟩
          exact ⟨_, _, ⟨rfl, rfl, rfl⟩, hG⟩
    · have hx' : hasN (Ts[j]'hj') x = false := by simpa using hx
      rw [writeO_no hx']
      refine (q.write_no t x s a 7 (by omega) (q.usable_no t x 2 hx')).mono ?_
      rintro y w' ⟨rfl, hG⟩
      exact ⟨_, _, ⟨rfl, rfl, rfl⟩, hG⟩
  · obtain ⟨_, rfl, rfl⟩ := hq
    exact (h.inv.write (h.jT hj) x s a).setSelf (h.jT hj)
theorem KD.clear (h : KD w m f r D bs Ts k A) (hk : k ≤ 900) (hj : j < bs.length) :
    Calls Tryz.prog 41 #[wp f, wp bs[j]] w fun y w' => ∃ D' N' A', (y = .returned (.tuple #[]) ∧ D' = (freeS true D (Ts[j]'(h.jT hj)) 8).1 ∧ N' = (freeS true D (Ts[j]'(h.jT hj)) 8).2) ∧ KD w' m f r D' bs (Ts.set j N') k A' ∧ Stp w w' A A' := by
  refine h.call hj (Q := fun y D' N' => y = .returned (.tuple #[]) ∧ D' = (freeS true D (Ts[j]'(h.jT hj)) 8).1 ∧ N' = (freeS true D (Ts[j]'(h.jT hj)) 8).2) (fun g n9 M hj' q t _ => ?_) (fun y D' N' hq => ?_)
  · refine (q.clear_ok t h.inv hk hj' rfl).mono ?_
    rintro y w' ⟨rfl, hG⟩
    exact ⟨_, _, ⟨rfl, rfl, rfl⟩, hG⟩
  · obtain ⟨_, rfl, rfl⟩ := hq
    exact h.inv.free hk (h.jT hj) true 8 (by omega)
theorem KD.exec (h : KD w m f r D bs Ts k A) (hk : k ≤ 900) (hj : j < bs.length) :
    Calls Tryz.prog 91 #[wp f, wp bs[j]] w fun y w' => ∃ D' N' A', (y = .returned (.tuple #[]) ∧ D' = (freeS false D (Ts[j]'(h.jT hj)) 8).1 ∧ N' = (freeS false D (Ts[j]'(h.jT hj)) 8).2) ∧ KD w' m f r D' bs (Ts.set j N') k A' ∧ Stp w w' A A' := by
  refine h.call hj (Q := fun y D' N' => y = .returned (.tuple #[]) ∧ D' = (freeS false D (Ts[j]'(h.jT hj)) 8).1 ∧ N' = (freeS false D (Ts[j]'(h.jT hj)) 8).2) (fun g n9 M hj' q t _ => ?_) (fun y D' N' hq => ?_)
  · refine (q.exec_ok t h.inv hk hj' rfl).mono ?_
    rintro y w' ⟨rfl, hG⟩
    exact ⟨_, _, ⟨rfl, rfl, rfl⟩, hG⟩
  · obtain ⟨_, rfl, rfl⟩ := hq
    exact h.inv.free hk (h.jT hj) false 8 (by omega)
theorem KD.fork (h : KD w m f r D bs Ts k A) (hf : Ts.length < 8) (hj : j < bs.length) :
    Calls Tryz.prog 29 #[wp f, wp bs[j]] w fun y w' => ∃ A', y = .returned (wp w.heap.size) ∧ KD w' m f r (forkD D (Ts[j]'(h.jT hj))) (bs ++ [w.heap.size]) (Ts ++ [Ts[j]'(h.jT hj)]) k A' ∧ Stp w w' A A' := by
  obtain ⟨g, n, h1, hr, ht, hA⟩ := h.st
  have hj' := h.jT hj
  obtain ⟨M, tj⟩ := ht j hj hj'
  refine (h1.fork_ok tj h.inv hj' rfl).mono ?_
  rintro y w' ⟨rfl, a1, a2, a3, wt⟩
  have hst : Stp w w' A (fun i => A i ∨ (w.heap.size ≤ i ∧ i < w'.heap.size)) := ⟨wt.mono hA, fun i hi => by
    rcases hi with hi | hi
    · exact .inl hi
    · exact .inr hi.1⟩
  have hbl : ∀ x ∈ bs, x < w.heap.size := fun x hx => h.lt x (h.bsA x hx)
  refine ⟨_, rfl, ⟨⟨g, n, a1, hr, fun x hx hx' => ?_, fun i hi => .inl (hA i hi)⟩, by rw [List.length_append, List.length_append, h.len]; rfl, ?_, fun b hb => ?_, h.inv.fork hf hj', fun i hi => ?_, (hst.cellKept h.ml h.mn).1, (hst.cellKept h.ml h.mn).2, (hst.cellKept h.er h.en).1, (hst.cellKept h.er h.en).2⟩, hst⟩
  · by_cases e1 : x < bs.length
    · have e2 : x < Ts.length := by rw [← h.len]; exact e1
      rw [List.getElem_append_left e1, List.getElem_append_left e2]
      obtain ⟨Mx, tx⟩ := ht x e1 e2
      exact ⟨Mx, tx.keep (wt.block _ tx.tab.lt (by rw [tx.off]; simp))⟩
    · have e3 : x = bs.length := by rw [List.length_append] at hx; simp at hx; omega
      have e4 : x = Ts.length := by rw [← h.len]; exact e3
      subst e3
      rw [List.getElem_concat_length rfl]
      have : (Ts ++ [Ts[j]])[bs.length]'hx' = Ts[j] := by
        rw [List.getElem_append_right (by omega)]
        simp
      rw [this]
      exact ⟨M, a3⟩
  · rw [List.nodup_append]
    exact ⟨h.nd, by simp, fun a ha b hb e => by rw [List.mem_singleton.1 hb] at e; have := hbl a ha; omega⟩
  · rcases List.mem_append.1 hb with z | z
    · exact .inl (h.bsA b z)
    · rw [List.mem_singleton.1 z]
      exact .inr ⟨Nat.le_refl _, a3.tab.lt⟩
  · rcases hi with hi | hi
    · exact Nat.lt_of_lt_of_le (h.lt i hi) wt.size
    · exact hi.2
/-- The tree's own Unlink. -/
theorem KD.unlink (h : KD w m f r D bs Ts k A) (hk : k ≤ 900) (p : List UInt8) (hp : p.length < 100000) :
    Calls Tryz.prog 22 #[wp r, tx p] w fun y w' => ∃ A', y = .returned (uev (unlinkE D.T p)) ∧ KD w' m f r { D with T := unlinkN D.T p } bs Ts (k + 1) A' ∧ Stp w w' A A' := by
  obtain ⟨g, n, h1, hr, ht, hA⟩ := h.st
  obtain ⟨O, pt, hO⟩ := h1.tree
  rw [← hr]
  refine (pt.unlink_ok h.inv.core.lv p hp m h.ml (fun i C e => by have := h.inv.core.sm.1 i C e; omega)).mono ?_
  rintro y w' ⟨rfl, p', st⟩
  obtain ⟨g', a1, a2, a3, a4, _⟩ := h1.turn hO p' st
  have hst : Stp w w' A (fun i => A i ∨ (w.heap.size ≤ i ∧ i < w'.heap.size)) := ⟨st.wt.mono (fun i hi => hA i (by rw [hO i hi]; rfl)), fun i hi => by
    rcases hi with hi | hi
    · exact .inl hi
    · exact .inr hi.1⟩
  refine ⟨_, rfl, ⟨⟨g', n, a1, a4, fun x hx hx' => ?_, fun i hi => ?_⟩, h.len, h.nd, fun b hb => .inl (h.bsA b hb), h.inv.unlink p, fun i hi => ?_, (hst.cellKept h.ml h.mn).1, (hst.cellKept h.ml h.mn).2, (hst.cellKept h.er h.en).1, (hst.cellKept h.er h.en).2⟩, hst⟩
  · obtain ⟨Mx, tx⟩ := ht x hx hx'
    exact ⟨Mx, tx.sameK (st.wt.block _ tx.tab.lt (fun o => by have := hO _ o; rw [tx.off] at this; cases this)) a2 a3⟩
  · by_cases e1 : i < w.heap.size
    · rw [a2 i e1] at hi; exact .inl (hA i hi)
    · exact .inr ⟨by omega, a1.lt i hi⟩
  · rcases hi with hi | hi
    · exact Nat.lt_of_lt_of_le (h.lt i hi) st.wt.size
    · exact hi.2
end
end Go.Proofs.YtjkneekfijibiabGreatDoor

namespace Go.Proofs.YtjkneekfijibiabGreatDoor
open Go.RowKit Go.Maps

abbrev zeroN : Ns := List.replicate 8 (0, false)
/-- Files and tables, all newer than w0. -/
def KW (w0 w : World) (m : Int) (f r : Nat) (D : DS) (bs : List Nat) (Ts : List Ns) (k : Nat) : Prop := ∃ A, KD w m f r D bs Ts k A ∧ (∀ i, A i → w0.heap.size ≤ i) ∧ Below w0.heap.size w0 w
section
variable {w w' w2 w0 w1 : World} {f r b n k k' j : Nat} {D D' : DS} {g g' : QG} {bs : List Nat} {Ts Ts' : List Ns} {M N N' : Ns} {d m : Int} {A A' : Nat → Prop}
theorem KW.step (hA : ∀ i, A i → w0.heap.size ≤ i) (hb : Below w0.heap.size w0 w) (h' : KD w' m f r D' bs Ts' k' A') (st : Stp w w' A A') : KW w0 w' m f r D' bs Ts' k' := by
  refine ⟨A', h', fun i hi => ?_, ⟨st.wt.os.trans hb.os, st.wt.tape.trans hb.tape, st.wt.output.trans hb.output, Nat.le_trans hb.size st.wt.size, fun i hi => ?_⟩⟩
  · rcases st.own i hi with z | z
    · exact hA i z
    · exact Nat.le_trans hb.size z
  · rw [st.wt.block i (Nat.lt_of_lt_of_le hi hb.size) (fun z => by have := hA i z; omega)]
    exact hb.block i hi
theorem KW.below (h : KW w0 w m f r D bs Ts k) (hb : Below w.heap.size w w') : KW w0 w' m f r D bs Ts k := by
  obtain ⟨A, h1, h2, h3⟩ := h
  exact ⟨A, h1.below hb, h2, h3.trans (hb.mono h3.size)⟩
/-- Nothing is open. -/
theorem Inv.none {T : Wd} {k : Nat} (hT : TrLv T) (hs : Sm k T) : Inv (noneD T) [] k :=
  ⟨⟨noneD_given T, hT, hs, fun d e h => (by cases h), fun d _ => by simp [noneD, cntS], fun d _ => by simp [noneD, cntS]⟩, fun N hN => (by cases hN), by simp⟩
theorem sm_null : Sm 0 nullT := ⟨fun i C e => by
  obtain ⟨_, e9⟩ := nullT_node e; cases e9; simp, fun i b x e => by
  obtain ⟨_, e9⟩ := nullT_node e; cases e9⟩
theorem KW.first (w : World) (hm : w.cell? ⟨2, 0, none⟩ = some (.int .i64 m)) (he : w.cell? ⟨0, 0, none⟩ = some errT) :
    Calls Tryz.prog 9 #[] w fun y w' => ∃ r, y = .returned (wp r) ∧ Below w.heap.size w w' ∧ Calls Tryz.prog 27 #[wp r] w' fun y w2 => ∃ f, y = .returned (.tuple #[wp f, .nilIface]) ∧ KW w w2 m f r (noneD nullT) [] [] 0 := by
  refine (new_ok w).mono ?_
  rintro y w1 ⟨r, O, rfl, p1, b1, hO⟩
  refine ⟨r, rfl, b1, (QNew.ok p1).mono ?_⟩
  rintro y w2 ⟨f, g, rfl, q, hk, hr, b2⟩
  have bb := b1.trans (b2.mono b1.size)
  have hA : ∀ i, (g.kap i).isSome = true → w.heap.size ≤ i := fun i hi => by
    by_cases e1 : i < w1.heap.size
    · exact hO i ((hk i e1).1 hi)
    · have := b1.size; omega
  have hml := World.block_lt_of_cell? w _ hm
  have hel := World.block_lt_of_cell? w _ he
  refine ⟨f, rfl, fun i => (g.kap i).isSome = true, ⟨⟨g, 0, q, hr, fun j h => (by simp at h), fun i hi => hi⟩, rfl, List.nodup_nil, fun b hb => (by cases hb), Inv.none nullT_lv sm_null, fun i hi => q.lt i hi, cell_below hm bb, fun z => ?_, cell_below he bb, fun z => ?_⟩, hA, bb⟩
  · have := hA _ z
    simp only at hml
    omega
  · have := hA _ z
    simp only at hel
    omega
/-- A table more. -/
theorem cntN_zero {d : Int} (hd : 0 < d) : cntN d zeroN = 0 := by
  unfold cntN
  rw [List.length_eq_zero_iff, List.filter_eq_nil_iff]
  intro x hx
  rw [List.eq_of_mem_replicate hx]
  simp; omega
theorem KD.table (h1 : KD w m f r D bs Ts k A) (hf : Ts.length < 8) : KD (w.alloc (.cells (nv zeroN).toArray 69)) m f r D (bs ++ [w.heap.size]) (Ts ++ [zeroN]) k (fun i => A i ∨ i = w.heap.size) := by
  have bA : Below w.heap.size w (w.alloc (.cells (nv zeroN).toArray 69)) := (Below.refl _ w).alloc (Nat.le_refl _) _
  have hsz : (w.alloc (.cells (nv zeroN).toArray 69)).heap.size = w.heap.size + 1 := by show (w.heap.push _).size = _; rw [Array.size_push]
  have hn : (w.alloc (.cells (nv zeroN).toArray 69)).heap[w.heap.size]? = some (.cells (nv zeroN).toArray 69) := by
    show (w.heap.push _)[w.heap.size]? = _
    rw [Array.getElem?_push, if_pos rfl]
  obtain ⟨g, n, q, hr, ht, hk⟩ := h1.st
  have h2 := h1.below bA
  have hml := World.block_lt_of_cell? _ _ h1.ml
  have hel := World.block_lt_of_cell? _ _ h1.er
  simp only at hml hel
  have hz : QTb (w.alloc (.cells (nv zeroN).toArray 69)) w.heap.size g zeroN zeroN := by
    refine ⟨⟨hn, rfl, fun x hx => ?_⟩, kap_new q, rfl, fun i h1 h2 => ?_⟩
    · rw [List.eq_of_mem_replicate hx]; simp
    · have e1 : (zeroN)[i] = (0, false) := List.eq_of_mem_replicate (List.getElem_mem h1)
      exact ⟨rfl, .inl ⟨congrArg Prod.fst e1, congrArg Prod.fst e1⟩⟩
  refine ⟨⟨g, n, q.below bA, hr, fun x hx hx' => ?_, fun i hi => .inl (hk i hi)⟩, by rw [List.length_append, List.length_append, h1.len]; rfl, ?_, fun b hb => ?_, ⟨h1.inv.core.congr (fun d hd => ?_), fun N hN => ?_, by rw [List.length_append]; simp; omega⟩, fun i hi => ?_, h2.ml, fun z => ?_, h2.er, fun z => ?_⟩
  · by_cases e1 : x < bs.length
    · have e2 : x < Ts.length := by rw [← h1.len]; exact e1
      rw [List.getElem_append_left e1, List.getElem_append_left e2]
      obtain ⟨Mx, tx⟩ := ht x e1 e2
      exact ⟨Mx, tx.below bA⟩
    · have e3 : x = bs.length := by rw [List.length_append] at hx; simp at hx; omega
      have e4 := h1.len
      subst e3
      rw [List.getElem_concat_length rfl]
      have : (Ts ++ [zeroN])[bs.length]'hx' = zeroN := by
        rw [List.getElem_append_right (by omega)]
        simp
      rw [this]
      exact ⟨zeroN, hz⟩
  · rw [List.nodup_append]
    exact ⟨h1.nd, by simp, fun a ha b hb e => by rw [List.mem_singleton.1 hb] at e; have := h1.lt a (h1.bsA a ha); omega⟩
  · rcases List.mem_append.1 hb with z | z
    · exact .inl (h1.bsA b z)
    · exact .inr (List.mem_singleton.1 z)
  · have := cntN_zero hd
    simp only [cntS, List.map_append, List.sum_append, List.map_cons, List.map_nil, List.sum_cons, List.sum_nil]
    omega
  · rcases List.mem_append.1 hN with z | z
    · exact h1.inv.tab N z
    · rw [List.mem_singleton.1 z]
      exact ⟨rfl, fun x hx => by rw [List.eq_of_mem_replicate hx]; simp⟩
  · rw [hsz]
    rcases hi with z | z
    · have := h1.lt i z; omega
    · omega
  · rcases z with z | z
    · exact h1.mn z
    · omega
  · rcases z with z | z
    · exact h1.en z
    · omega
theorem KW.table (h : KW w0 w m f r D bs Ts k) (hf : Ts.length < 8) : KW w0 (w.alloc (.cells (nv zeroN).toArray 69)) m f r D (bs ++ [w.heap.size]) (Ts ++ [zeroN]) k := by
  obtain ⟨A, h1, hA, hb⟩ := h
  have bA : Below w.heap.size w (w.alloc (.cells (nv zeroN).toArray 69)) := (Below.refl _ w).alloc (Nat.le_refl _) _
  refine ⟨_, h1.table hf, fun i hi => ?_, hb.trans (bA.mono hb.size)⟩
  rcases hi with z | z
  · exact hA i z
  · have := hb.size; omega
end
end Go.Proofs.YtjkneekfijibiabGreatDoor
