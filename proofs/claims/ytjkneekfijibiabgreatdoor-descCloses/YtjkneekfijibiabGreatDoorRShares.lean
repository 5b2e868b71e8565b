/- Package desc: one file, doubled, forked, opened once more: the calls of a law of the keeper's, by their contracts. -/
import Derived.Test.YtjkneekfijibiabGreatDoorQBase
import Derived.Test.YtjkneekfijibiabGreatDoorDScene
namespace Go.Proofs.YtjkneekfijibiabGreatDoor
open Go.RowKit Go.Maps

section
variable {w w' w2 w0 w1 : World} {f r n k : Nat} {D D' : DS} {bs : List Nat} {Ts : List Ns} {m c p q : Int} {b s u : List UInt8} {x t t2 : Nat}
theorem KW.sh1 (h : KW w0 w m f r (noneD nullT) [t] [zeroN] 0) :
    Calls Tryz.prog 42 #[wp f, wp t, .string ⟨#[47, 120]⟩, .int .i64 3, .bool true] w fun y w' => y = .returned (.tuple #[.int .i64 0, .nilIface]) ∧ KW w0 w' m f r (dA [] 1 1 0) [t] [n1] 2 := by
  obtain ⟨A, h1, hA, hb⟩ := h
  refine (h1.file (j := 0) (by omega) (by show (0 : Int) < 899; omega) (by simp) (n := 0) (s := 1) ⟨[], by simp, rfl, fun x => by simp [noneD]⟩ null_num pX (by simp) 3 true).mono ?_
  rintro y w' ⟨D', N', A', ⟨k, c', rfl, hF⟩, h2, st⟩
  obtain ⟨rfl, rfl, rfl, rfl⟩ := sc_file hF
  exact ⟨rfl, KW.step hA hb h2 st⟩
theorem KW.sh2 (h : KW w0 w m f r (dA b x 1 p) [t] [n1] k) :
    Calls Tryz.prog 43 #[wp f, wp t, .int .i64 0] w fun y w' => y = .returned (.tuple #[.int .i64 1, .nilIface]) ∧ KW w0 w' m f r (dA b x 2 p) [t] [n2] k := by
  obtain ⟨A, h1, hA, hb⟩ := h
  refine (h1.dup (j := 0) (by simp) 0).mono ?_
  rintro y w' ⟨D', N', A', ⟨rfl, rfl, rfl⟩, h2, st⟩
  obtain ⟨e1, e2, e3, e4⟩ := sc_dup (b := b) (x := x) (p := p)
  refine ⟨?_, ?_⟩
  · show Ending.returned (.tuple #[.int .i64 (dupK n1 0), uev (dupE n1 0)]) = _
    rw [e1, e2]; rfl
  · have h3 := KW.step hA hb h2 st
    rw [show dupD (dA b x 1 p) ([n1][0]) 0 = dA b x 2 p from e3] at h3
    exact h3
theorem KW.sh3 (h : KW w0 w m f r (dA b x 2 p) [t] [n2] k) :
    Calls Tryz.prog 29 #[wp f, wp t] w fun y w' => ∃ t2, y = .returned (wp t2) ∧ KW w0 w' m f r (dA b x 4 p) [t, t2] [n2, n2] k := by
  obtain ⟨A, h1, hA, hb⟩ := h
  refine (h1.fork (j := 0) (by simp) (by simp)).mono ?_
  rintro y w' ⟨A', rfl, h2, st⟩
  have h3 := KW.step hA hb h2 st
  rw [show forkD (dA b x 2 p) ([n2][0]) = dA b x 4 p from sc_fork] at h3
  exact ⟨_, rfl, h3⟩
/-- Write at the end, of whichever table. -/
theorem KW.shW (h : KW w0 w m f r (dA b x c b.length) bs Ts k) {j i : Nat} (hj : j < bs.length) (hjT : j < Ts.length) (hi : i < 8) (hiL : i < Ts[j].length) (hN : Ts[j][i].1 = 1) (s : List UInt8) (hs : b.length + s.length ≤ 100) :
    Calls Tryz.prog 44 #[wp f, wp bs[j], .int .i64 (i : Int), tx s, .int .i64 100] w fun y w' => y = .returned (.tuple #[.int .i64 (s.length : Int), .nilIface]) ∧ KW w0 w' m f r (dA (b ++ s) x c ((b ++ s).length : Nat)) bs Ts (k + 1) := by
  obtain ⟨A, h1, hA, hb⟩ := h
  refine (h1.write (j := j) hj i s (by omega) 100).mono ?_
  rintro y w' ⟨D', N', A', ⟨rfl, rfl, rfl⟩, h2, st⟩
  rw [sc_write hi hiL hN hs] at h2 ⊢
  refine ⟨rfl, ?_⟩
  have h3 := KW.step hA hb h2 st
  rw [List.set_getElem_self] at h3
  exact h3
theorem KW.sh6 (h : KW w0 w m f r (dA b x c p) [t, t2] [n2, n2] k) (hk : k ≤ 890) :
    Calls Tryz.prog 42 #[wp f, wp t2, .string ⟨#[47, 120]⟩, .int .i64 1, .bool false] w fun y w' => y = .returned (.tuple #[.int .i64 2, .nilIface]) ∧ KW w0 w' m f r (dB b (x + 1) c p 0) [t, t2] [n2, n3] (k + 2) := by
  obtain ⟨A, h1, hA, hb⟩ := h
  refine (h1.file (j := 1) hk (by show (1 : Int) < 899; omega) (by simp) (n := 1) (s := 2) ⟨[1], by simp, rfl, fun x => by
    by_cases e : x = 1
    · simp [dA, e]
    · simp [dA, e]⟩ tC_num pX (by simp) 1 false).mono ?_
  rintro y w' ⟨D', N', A', ⟨k, c', rfl, hF⟩, h2, st⟩
  obtain ⟨rfl, rfl, rfl, rfl⟩ := sc_again (by omega) hF
  exact ⟨rfl, KW.step hA hb h2 st⟩
theorem KW.shR1 (h : KW w0 w m f r (dB b x c p q) bs Ts k) {j i : Nat} (hj : j < bs.length) (hjT : j < Ts.length) (hi : i < 8) (hiL : i < Ts[j].length) (hN : Ts[j][i].1 = 1) (h0 : 0 ≤ p) {o : List UInt8} (ho : (b.drop p.toNat).take 100 = o) :
    Calls Tryz.prog 45 #[wp f, wp bs[j], .int .i64 (i : Int), .int .i64 100] w fun y w' => y = .returned (.tuple #[tx o, .nilIface]) ∧ KW w0 w' m f r (dB b x c (p + o.length) q) bs Ts k := by
  obtain ⟨A, h1, hA, hb⟩ := h
  refine (h1.read (j := j) hj i 100).mono ?_
  rintro y w' ⟨D', N', A', ⟨rfl, rfl, rfl⟩, h2, st⟩
  rw [sc_read1 hi hiL hN h0, ho] at h2 ⊢
  refine ⟨rfl, ?_⟩
  have h3 := KW.step hA hb h2 st
  rw [List.set_getElem_self] at h3
  exact h3
theorem KW.shR2 (h : KW w0 w m f r (dB b x c p q) bs Ts k) {j i : Nat} (hj : j < bs.length) (hjT : j < Ts.length) (hi : i < 8) (hiL : i < Ts[j].length) (hN : Ts[j][i].1 = 2) (h0 : 0 ≤ q) {o : List UInt8} (ho : (b.drop q.toNat).take 100 = o) :
    Calls Tryz.prog 45 #[wp f, wp bs[j], .int .i64 (i : Int), .int .i64 100] w fun y w' => y = .returned (.tuple #[tx o, .nilIface]) ∧ KW w0 w' m f r (dB b x c p (q + o.length)) bs Ts k := by
  obtain ⟨A, h1, hA, hb⟩ := h
  refine (h1.read (j := j) hj i 100).mono ?_
  rintro y w' ⟨D', N', A', ⟨rfl, rfl, rfl⟩, h2, st⟩
  rw [sc_read2 hi hiL hN h0, ho] at h2 ⊢
  refine ⟨rfl, ?_⟩
  have h3 := KW.step hA hb h2 st
  rw [List.set_getElem_self] at h3
  exact h3
theorem KW.shWn (h : KW w0 w m f r (dB b x c p q) bs Ts k) {j i : Nat} (hj : j < bs.length) (hjT : j < Ts.length) (hi : i < 8) (hiL : i < Ts[j].length) (hN : Ts[j][i].1 = 2) (s : List UInt8) (hs : s.length ≤ 100) :
    Calls Tryz.prog 44 #[wp f, wp bs[j], .int .i64 (i : Int), tx s, .int .i64 100] w fun y w' => y = .returned (.tuple #[.int .i64 0, uer 13]) ∧ KW w0 w' m f r (dB b x c p q) bs Ts (k + 1) := by
  obtain ⟨A, h1, hA, hb⟩ := h
  refine (h1.write (j := j) hj i s (by omega) 100).mono ?_
  rintro y w' ⟨D', N', A', ⟨rfl, rfl, rfl⟩, h2, st⟩
  rw [sc_write_no hi hiL hN] at h2 ⊢
  refine ⟨rfl, ?_⟩
  have h3 := KW.step hA hb h2 st
  rw [List.set_getElem_self] at h3
  exact h3
theorem KW.shSA (h : KW w0 w m f r (dA b x c p) [t] [n2] k) (a : Int) (ha : 0 ≤ a ∧ a ≤ 200) :
    Calls Tryz.prog 46 #[wp f, wp t, .int .i64 1, .int .i64 a] w fun y w' => y = .returned .nilIface ∧ KW w0 w' m f r (dA b x c a) [t] [n2] k := by
  obtain ⟨A, h1, hA, hb⟩ := h
  refine (h1.seek (j := 0) (by simp) 1 a).mono ?_
  rintro y w' ⟨D', N', A', ⟨rfl, rfl, rfl⟩, h2, st⟩
  obtain ⟨e1, e2⟩ := sc_seekA (b := b) (x := x) (c := c) (p := p) a ha
  refine ⟨?_, ?_⟩
  · show Ending.returned (uev (seekE (dA b x c p) n2 1 a)) = _
    rw [e1]; rfl
  · have h3 := KW.step hA hb h2 st
    rw [show seekD (dA b x c p) ([n2][0]) 1 a = dA b x c a from e2] at h3
    exact h3
theorem KW.shSB (h : KW w0 w m f r (dB b x c p q) [t, t2] [n2, n3] k) (a : Int) (ha : 0 ≤ a ∧ a ≤ 200) :
    Calls Tryz.prog 46 #[wp f, wp t, .int .i64 0, .int .i64 a] w fun y w' => y = .returned .nilIface ∧ KW w0 w' m f r (dB b x c a q) [t, t2] [n2, n3] k := by
  obtain ⟨A, h1, hA, hb⟩ := h
  refine (h1.seek (j := 0) (by simp) 0 a).mono ?_
  rintro y w' ⟨D', N', A', ⟨rfl, rfl, rfl⟩, h2, st⟩
  obtain ⟨e1, e2⟩ := sc_seekB (b := b) (x := x) (c := c) (p := p) (q := q) a ha
  refine ⟨?_, ?_⟩
  · show Ending.returned (uev (seekE (dB b x c p q) n2 0 a)) = _
    rw [e1]; rfl
  · have h3 := KW.step hA hb h2 st
    rw [show seekD (dB b x c p q) ([n2, n3][0]) 0 a = dB b x c a q from e2] at h3
    exact h3
theorem KW.shC (h : KW w0 w m f r (dB b x 4 p q) [t, t2] [n2, n3] k) (hk : k ≤ 900) :
    Calls Tryz.prog 47 #[wp f, wp t, .int .i64 0] w fun y w' => y = .returned .nilIface ∧ KW w0 w' m f r (dB b x 3 p q) [t, t2] [n4, n3] k := by
  obtain ⟨A, h1, hA, hb⟩ := h
  refine (h1.close (j := 0) hk (by simp) 0).mono ?_
  rintro y w' ⟨D', N', A', ⟨rfl, rfl, rfl⟩, h2, st⟩
  obtain ⟨e1, e2⟩ := sc_close (b := b) (x := x) (p := p) (q := q)
  refine ⟨rfl, ?_⟩
  have h3 := KW.step hA hb h2 st
  rw [show closeD (dB b x 4 p q) ([n2, n3][0]) 0 = dB b x 3 p q from e1, show closeN ([n2, n3][0]) 0 = n4 from e2] at h3
  exact h3
theorem KW.shH (h : KW w0 w m f r D [t, t2] [n4, n3] k) (z : Int) (v : Bool) (hv : hasN n4 z = v) :
    Calls Tryz.prog 34 #[wp f, wp t, .int .i64 z] w fun y w' => y = .returned (.bool v) ∧ KW w0 w' m f r D [t, t2] [n4, n3] k := by
  obtain ⟨A, h1, hA, hb⟩ := h
  refine (h1.has (j := 0) (by simp) z).mono ?_
  rintro y w' ⟨rfl, b1⟩
  exact ⟨by rw [← hv]; rfl, A, h1.below b1, hA, hb.trans (b1.mono hb.size)⟩
theorem KW.shO1 (h : KW w0 w m f r (dA b x c p) bs Ts k) : Calls Tryz.prog 36 #[wp f] w fun y w' => y = .returned (.int .i64 1) ∧ w' = w := by
  obtain ⟨A, h1, hA, hb⟩ := h
  exact h1.openIs (n := 1) ⟨[1], by simp, rfl, fun x => by
    by_cases e : x = 1
    · simp [dA, e]
    · simp [dA, e]⟩
theorem KW.shO2 (h : KW w0 w m f r (dB b x c p q) bs Ts k) : Calls Tryz.prog 36 #[wp f] w fun y w' => y = .returned (.int .i64 2) ∧ w' = w := by
  obtain ⟨A, h1, hA, hb⟩ := h
  exact h1.openIs (n := 2) ⟨[1, 2], by simp, rfl, fun x => by
    by_cases e : x = 1
    · simp [dB, e]
    · by_cases e2 : x = 2
      · simp [dB, e2]
      · simp [dB, e, e2]⟩
theorem KW.base (h : KW w1 w m f r D bs Ts k) (hb : Below w0.heap.size w0 w1) : KW w0 w m f r D bs Ts k := by
  obtain ⟨A, h1, hA, hb1⟩ := h
  exact ⟨A, h1, fun i hi => Nat.le_trans hb.size (hA i hi), hb.trans (hb1.mono hb.size)⟩
set_option maxRecDepth 100000 in
set_option maxHeartbeats 8000000 in
theorem opened_ok (w : World) (hm : w.cell? ⟨2, 0, none⟩ = some (.int .i64 m)) (he : w.cell? ⟨0, 0, none⟩ = some errT) : Calls Tryz.prog 38 #[] w fun y w' => y = .returned (.bool true) ∧ Below w.heap.size w w' := by
  have hN := KW.first w hm he
  have hfn := fil_ne
  have H1 : ∀ V f r, KW w V m f r (noneD nullT) [] [] 0 → KW w (V.alloc (.cells (nv zeroN).toArray 69)) m f r (noneD nullT) [V.heap.size] [zeroN] 0 := fun V f r h => h.table (by simp)
  clear hm he
  go_enter Tryz.func38, Tryz.ntmps38
  go_upto_region 6 with (first
    | (go_at_call 9; refine hN.mono ?_; rintro y w1 ⟨r, rfl, b1, hD⟩)
    | (go_at_call 27; refine hD.mono ?_; rintro y w2 ⟨f, rfl, k2⟩))
  have k3 := H1 _ _ _ k2
  have hF := KW.sh1 k3
  clear k2 k3 H1 hN hD
  go_upto_region 7 with (go_at_call 42; refine hF.mono ?_; rintro y w3 ⟨rfl, k4⟩)
  have hDp := KW.sh2 k4
  clear k4 hF
  go_upto_region 8 with (go_at_call 43; refine hDp.mono ?_; rintro y w4 ⟨rfl, k5⟩)
  have hW := KW.shW (b := []) (c := 2) (bs := [w2.heap.size]) (Ts := [n2]) k5 (j := 0) (i := 0) (by simp) (by simp) (by omega) (by simp) rfl [104, 101, 108, 108, 111] (by simp)
  clear k5 hDp
  go_upto_region 9 with (go_at_call 44; refine hW.mono ?_; rintro y w5 ⟨rfl, k6⟩)
  have hS := KW.shSA k6 1 ⟨by omega, by omega⟩
  clear k6 hW
  go_wp2_with (first
    | (go_at_call 46; refine hS.mono ?_; rintro y w6 ⟨rfl, k7⟩; have hO := KW.shO1 k7)
    | (go_at_call 36; refine hO.mono ?_; rintro y w7 ⟨rfl, hw7⟩; subst w7))
  go_ret
  obtain ⟨A, _, _, hb⟩ := k7
  exact ⟨rfl, hb⟩
end
end Go.Proofs.YtjkneekfijibiabGreatDoor
