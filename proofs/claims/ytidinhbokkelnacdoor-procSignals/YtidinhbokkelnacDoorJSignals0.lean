/- ProcSignals: the plain part, and each call on the few that it has. -/
import Derived.Test.YtidinhbokkelnacDoorJOne
import Derived.WalkLawsBesides
namespace Go.Proofs.YtidinhbokkelnacDoor
open Go.RowKit Go.Maps Go.Sort

/-- Which signal a number means. -/
def pk (a : Int) : Int := wrap64 ((IntKind.u64.wrap a).tmod 8)
theorem pk_bounds (a : Int) : 0 ≤ pk a ∧ pk a < 8 := by
  have h0 : 0 ≤ IntKind.u64.wrap a := by rw [IntKind.wrap_u64]; omega
  have ht : (IntKind.u64.wrap a).tmod 8 = IntKind.u64.wrap a % 8 := Int.tmod_eq_emod_of_nonneg h0
  have l := Int.emod_nonneg (IntKind.u64.wrap a) (b := 8) (by omega)
  have u := Int.emod_lt_of_pos (IntKind.u64.wrap a) (b := 8) (by omega)
  unfold pk
  rw [ht, show wrap64 (IntKind.u64.wrap a % 8) = IntKind.u64.wrap a % 8 by unfold wrap64; omega]
  exact ⟨l, u⟩
set_option maxHeartbeats 400000 in
theorem pk_ok (w : World) (a : Int) : Calls Tryd.prog 17 #[.int .i64 a, .int .i64 8] w fun e w' => e = .returned (.int .i64 (pk a)) ∧ w' = w := by
  go_enter Tryd.func17, Tryd.ntmps17
  go_wp2
  go_ret
  exact ⟨rfl, rfl⟩
theorem two_at (ig wt : Int → Bool) : twoJ ig wt 2 = some ⟨1, 1, 0, wt, ig⟩ := setJ_same _ _ _
theorem two_runs (ig wt : Int → Bool) : runsJ (twoJ ig wt) 2 = true := runsJ_iff.2 ⟨_, two_at ig wt, rfl⟩
theorem two_on (ig wt : Int → Bool) (f : Pr → Pr) (ig' wt' : Int → Bool) (h : f ⟨1, 1, 0, wt, ig⟩ = ⟨1, 1, 0, wt', ig'⟩) : onJ (twoJ ig wt) 2 f = twoJ ig' wt' := by
  funext i
  unfold onJ twoJ setJ
  by_cases e : i = 2
  · simp only [e, if_true, Option.map_some, h]
  · simp only [e, if_false]
/-- Three of them: 2's own has 2's signals that are ignored. -/
def thrJ (ig wt wt3 : Int → Bool) : Ps := setJ (twoJ ig wt) 3 ⟨2, 1, 0, wt3, ig⟩
theorem thr_at (ig wt wt3 : Int → Bool) : thrJ ig wt wt3 3 = some ⟨2, 1, 0, wt3, ig⟩ := setJ_same _ _ _
theorem thr_at2 (ig wt wt3 : Int → Bool) : thrJ ig wt wt3 2 = some ⟨1, 1, 0, wt, ig⟩ := by
  unfold thrJ; rw [setJ_ne (by omega)]; exact two_at ig wt
theorem thr_on (ig wt wt3 : Int → Bool) (f : Pr → Pr) (wt' : Int → Bool) (h : f ⟨2, 1, 0, wt3, ig⟩ = ⟨2, 1, 0, wt', ig⟩) : onJ (thrJ ig wt wt3) 3 f = thrJ ig wt wt' := by
  funext i
  unfold onJ thrJ setJ
  by_cases e : i = 3
  · simp only [e, if_true, Option.map_some, h]
  · simp only [e, if_false]
theorem put_no (s : Int) : putS noSig s false = noSig := by funext i; unfold putS noSig; split <;> rfl
def geS (f : Int → Bool) (k : Int) : Int → Bool := fun s => f s && decide (k ≤ s)
theorem geS_del (f : Int → Bool) (k : Int) : putS (geS f k) k false = geS f (k + 1) := by
  funext i
  unfold putS geS
  by_cases e : i = k
  · subst e; simp; omega
  · have : decide (k ≤ i) = decide (k + 1 ≤ i) := by congr 1; apply propext; omega
    rw [if_neg e, this]
theorem geS_skip {f : Int → Bool} {k : Int} (h : f k = false) : geS f (k + 1) = geS f k := by
  rw [← geS_del]
  funext i
  unfold putS geS
  by_cases e : i = k
  · subst e; simp [h]
  · rw [if_neg e]
theorem geS_first {f : Int → Bool} (h : ∀ s, f s = true → 1 ≤ s ∧ s ≤ 8) : geS f 1 = f := by
  funext i
  unfold geS
  cases hf : f i with
  | false => rfl
  | true => have := h i hf; simp; omega
theorem geS_last {f : Int → Bool} (h : ∀ s, f s = true → 1 ≤ s ∧ s ≤ 8) : geS f 9 = noSig := by
  funext i
  unfold geS noSig
  cases hf : f i with
  | false => rfl
  | true => have := h i hf; simp; omega
theorem geS_find {f : Int → Bool} {k : Int} (hk : 1 ≤ k ∧ k ≤ 8) (h : f k = true) : sigs.find? (geS f k) = some k := by
  refine sigs_find hk (fun y h1 h2 => ?_) ?_
  · unfold geS
    have : ¬ k ≤ y := by omega
    simp [this]
  · unfold geS; simp [h]
theorem less_put (W ig : Int → Bool) (s : Int) : lessS (putS W s true) ig = if ig s = true then lessS W ig else putS (lessS W ig) s true := by
  funext i
  unfold lessS putS
  by_cases e : i = s
  · subst e
    cases h : ig i <;> simp [h]
  · cases h : ig s <;> simp [e]
section
variable {w0 w : World} {t g : Nat} {ig wt wt3 : Int → Bool} {s : Int}
theorem TJ.ign2 (h : TJ w0 t g w (twoJ ig noSig)) (hs : 1 ≤ s ∧ s ≤ 8) : Calls Tryd.prog 18 #[wp t, .int .i64 2, .int .i64 s, .bool true] w fun e w' => e = .returned (uev (if s = 8 then 6 else 0)) ∧ TJ w0 t g w' (twoJ (if s = 8 then ig else putS ig s true) noSig) ∧ WtG g w w' := by
  have hE : ignoreE (twoJ ig noSig) 2 s = if s = 8 then 6 else 0 := by
    unfold ignoreE; rw [if_neg (by omega), two_runs]; rfl
  have hP : (if ignoreE (twoJ ig noSig) 2 s = 0 then ignoreP (twoJ ig noSig) 2 s true else twoJ ig noSig) = twoJ (if s = 8 then ig else putS ig s true) noSig := by
    rw [hE]
    by_cases e : s = 8
    · rw [if_pos e, if_neg (by omega), if_pos e]
    · rw [if_neg e, if_pos rfl, if_neg e]
      exact two_on ig noSig _ _ _ (by simp only [if_true, put_no])
  have := h.ignore 2 s true (by decide)
  rw [hP, hE] at this
  exact this
theorem TJ.kill2 (h : TJ w0 t g w (twoJ ig wt)) (hs : 1 ≤ s ∧ s ≤ 8) : Calls Tryd.prog 19 #[wp t, .int .i64 2, .int .i64 s] w fun e w' => e = .returned .nilIface ∧ TJ w0 t g w' (twoJ ig (if ig s = true then wt else putS wt s true)) ∧ WtG g w w' := by
  have hE : killE (twoJ ig wt) 2 s = 0 := by unfold killE; rw [if_neg (by omega), two_runs]; rfl
  have hP : killP (twoJ ig wt) 2 s = twoJ ig (if ig s = true then wt else putS wt s true) := two_on ig wt _ _ _ (by
    cases hi : ig s <;> simp [hi])
  have := h.kill 2 s (by decide)
  rw [hE, if_pos rfl, hP, uev_zero] at this
  exact this
theorem TJ.take2 (h : TJ w0 t g w (twoJ ig (geS wt s))) (hT : Tab64 w0) (hs : 1 ≤ s ∧ s ≤ 8) (hw : wt s = true) : Calls Tryd.prog 20 #[wp t, .int .i64 2] w fun e w' => e = .returned (.int .i64 s) ∧ TJ w0 t g w' (twoJ ig (geS wt (s + 1))) ∧ WtG g w w' := by
  have hS : takeS (twoJ ig (geS wt s)) 2 = s := by
    unfold takeS
    rw [if_neg (by rw [two_runs]; simp)]
    have : wtJ (twoJ ig (geS wt s)) 2 = geS wt s := by unfold wtJ; rw [two_at]; rfl
    rw [this, geS_find hs hw]; rfl
  have hP : takeP (twoJ ig (geS wt s)) 2 = twoJ ig (geS wt (s + 1)) := by
    unfold takeP
    rw [hS, if_neg (by omega)]
    exact two_on ig _ _ _ _ (by simp only [geS_del])
  have := h.take hT 2 (by decide)
  rw [hS, hP] at this
  exact this
theorem free3 : FreeJ (twoJ ig wt) 3 := ⟨by omega, rfl, fun j h1 h2 => by
  by_cases e : j = 1
  · subst e; rfl
  · have : j = 2 := by omega
    subst this; rfl⟩
theorem TJ.fork3 (h : TJ w0 t g w (twoJ ig noSig)) : Calls Tryd.prog 16 #[wp t, .int .i64 2] w fun e w' => e = .returned (.tuple #[.int .i64 3, .nilIface]) ∧ TJ w0 t g w' (thrJ ig noSig noSig) ∧ WtG g w w' := by
  have hc : cnQ (twoJ ig noSig) = 2 := by
    unfold cnQ
    rw [show pidsJ (twoJ ig noSig) = [1, 2] from by
      unfold pidsJ twoJ setJ firstJ
      rfl]
    rfl
  have hE : forkE (twoJ ig noSig) 2 (cnQ (twoJ ig noSig)) = 0 := by unfold forkE; rw [if_neg (by rw [two_runs]; simp), hc, if_neg (by omega)]
  have hK : forkK (twoJ ig noSig) 2 (cnQ (twoJ ig noSig)) = 3 := by unfold forkK; rw [if_pos hE, leastJ_eq free3 (by omega)]
  have hQ : forkQ (twoJ ig noSig) 2 (cnQ (twoJ ig noSig)) = thrJ ig noSig noSig := by
    unfold forkQ
    rw [if_pos hE, leastJ_eq free3 (by omega)]
    unfold forkP thrJ
    have : igJ (twoJ ig noSig) 2 = ig := by unfold igJ; rw [two_at]; rfl
    rw [this]
  have := h.fork 2 (by decide)
  rw [hE, hK, hQ, uev_zero] at this
  exact this
theorem take_none (n : Int) (p : Pr) (P : Ps) (hp : P n = some p) (hw : p.wt = noSig) : takeS P n = 0 ∧ takeP P n = P := by
  have hS : takeS P n = 0 := by
    unfold takeS
    split
    · rfl
    · have : wtJ P n = noSig := by unfold wtJ; rw [hp]; exact hw
      rw [this]; rfl
  exact ⟨hS, by unfold takeP; rw [if_pos hS]⟩
theorem TJ.none2 (h : TJ w0 t g w (thrJ ig noSig noSig)) (hT : Tab64 w0) : Calls Tryd.prog 20 #[wp t, .int .i64 2] w fun e w' => e = .returned (.int .i64 0) ∧ TJ w0 t g w' (thrJ ig noSig noSig) ∧ WtG g w w' := by
  obtain ⟨a, b⟩ := take_none 2 _ _ (thr_at2 ig noSig noSig) rfl
  have := h.take hT 2 (by decide)
  rw [a, b] at this
  exact this
theorem TJ.none3 (h : TJ w0 t g w (thrJ ig noSig noSig)) (hT : Tab64 w0) : Calls Tryd.prog 20 #[wp t, .int .i64 3] w fun e w' => e = .returned (.int .i64 0) ∧ TJ w0 t g w' (thrJ ig noSig noSig) ∧ WtG g w w' := by
  obtain ⟨a, b⟩ := take_none 3 _ _ (thr_at ig noSig noSig) rfl
  have := h.take hT 3 (by decide)
  rw [a, b] at this
  exact this
theorem TJ.kill3 (h : TJ w0 t g w (thrJ ig noSig noSig)) (hs : 1 ≤ s ∧ s ≤ 8) : Calls Tryd.prog 19 #[wp t, .int .i64 3, .int .i64 s] w fun e w' => e = .returned .nilIface ∧ TJ w0 t g w' (thrJ ig noSig (if ig s = true then noSig else putS noSig s true)) ∧ WtG g w w' := by
  have hr : runsJ (thrJ ig noSig noSig) 3 = true := runsJ_iff.2 ⟨_, thr_at ig noSig noSig, rfl⟩
  have hE : killE (thrJ ig noSig noSig) 3 s = 0 := by unfold killE; rw [if_neg (by omega), hr]; rfl
  have hP : killP (thrJ ig noSig noSig) 3 s = thrJ ig noSig (if ig s = true then noSig else putS noSig s true) := thr_on ig noSig noSig _ _ (by
    cases hi : ig s <;> simp [hi])
  have := h.kill 3 s (by decide)
  rw [hE, if_pos rfl, hP, uev_zero] at this
  exact this
theorem TJ.last3 (h : TJ w0 t g w (thrJ ig noSig (putS noSig 8 true))) (hT : Tab64 w0) : Calls Tryd.prog 20 #[wp t, .int .i64 3] w fun e w' => e = .returned (.int .i64 8) ∧ TJ w0 t g w' (thrJ ig noSig noSig) ∧ WtG g w w' := by
  have hr : runsJ (thrJ ig noSig (putS noSig 8 true)) 3 = true := runsJ_iff.2 ⟨_, thr_at ig noSig _, rfl⟩
  have hS : takeS (thrJ ig noSig (putS noSig 8 true)) 3 = 8 := by
    unfold takeS
    rw [if_neg (by rw [hr]; simp)]
    have : wtJ (thrJ ig noSig (putS noSig 8 true)) 3 = putS noSig 8 true := by unfold wtJ; rw [thr_at]; rfl
    rw [this, sigs_find (x := 8) (by omega) (fun y h1 h2 => by unfold putS; rw [if_neg (by omega)]; rfl) (by unfold putS; rw [if_pos rfl])]; rfl
  have hP : takeP (thrJ ig noSig (putS noSig 8 true)) 3 = thrJ ig noSig noSig := by
    unfold takeP
    rw [hS, if_neg (by omega)]
    refine thr_on ig noSig _ _ _ ?_
    have : putS (putS noSig 8 true) 8 false = noSig := by funext i; unfold putS noSig; by_cases e : i = 8 <;> simp [e]
    simp only [this]
  have := h.take hT 3 (by decide)
  rw [hS, hP] at this
  exact this
theorem TJ.ig8 (h : TJ w0 t g w (twoJ ig wt)) : ∀ s, ig s = true → 1 ≤ s ∧ s < 8 := fun s hs => h.a.ok.ig 2 _ (two_at ig wt) s hs
theorem TJ.wt8 (h : TJ w0 t g w (twoJ ig wt)) : ∀ s, wt s = true → 1 ≤ s ∧ s ≤ 8 := fun s hs => h.a.ok.wt 2 _ (two_at ig wt) s hs
end
end Go.Proofs.YtidinhbokkelnacDoor
