/- ProcSignals: the walk of its Go text. -/
import Derived.Test.YtidinhbokkelnacDoorJSignals0
import Derived.Test.YtidinhbokkelnacDoorInts
import Derived.Outline
import Derived.Deep.LoopGhost
namespace Go.Proofs.YtidinhbokkelnacDoor
open Go.RowKit Go.Maps Go.Sort

/-- Signals as a map. -/
def sw (f : Int → Bool) : Int → Option Value := fun s => if f s = true then some (.int .i64 1) else none
theorem sw_put (f : Int → Bool) (s : Int) : (fun i => if i = s then some (Value.int .i64 1) else sw f i) = sw (putS f s true) := by
  funext i; unfold sw putS; by_cases e : i = s <;> simp [e]
theorem sw_del (f : Int → Bool) (s : Int) : (fun i => if i = s then none else sw f i) = sw (putS f s false) := by
  funext i; unfold sw putS; by_cases e : i = s <;> simp [e]
theorem sw_size {w : World} {g s : Nat} {f : Int → Bool} (m : PMap w g s (sw f)) (hf : ∀ i, f i = true → 1 ≤ i ∧ i ≤ 8) : s ≤ 8 := by
  have := m.isN.few (B := 8) (by omega) (fun x hx => by
    have hfx : f x = true := by
      unfold sw at hx
      by_cases e : f x = true
      · exact e
      · rw [if_neg e] at hx; cases hx
    have := hf x hfx; omega)
  omega
/-- The table, and the map of those that are wanted. -/
structure SG (w0 : World) (t g b : Nat) (w : World) (P : Ps) (W : Int → Bool) : Prop where
  st : TJ w0 t g w P
  mp : ∃ s, PMap w b s (sw W)
  ne : b ≠ g ∧ b ≠ t
  fb : w0.heap.size ≤ b
  wb : ∀ s, W s = true → 1 ≤ s ∧ s ≤ 8
section
variable {w0 w w' : World} {t g b : Nat} {P P' : Ps} {W : Int → Bool} {s : Int}
theorem SG.turn (h : SG w0 t g b w P W) (S : TJ w0 t g w' P') (hw : WtG g w w') : SG w0 t g b w' P' W := by
  obtain ⟨n, m⟩ := h.mp
  exact ⟨S, ⟨n, m.keep (hw.block b m.lt h.ne.1)⟩, h.ne, h.fb, h.wb⟩
theorem SG.grown (h : SG w0 t g b w P W) (hg : w.grownBy w' (some b)) : TJ w0 t g w' P := by
  have hs := h.st.bel.size
  have hb := h.fb
  refine ⟨h.st.a.keep (hg.block t h.st.a.tlt (fun z => h.ne.2 (Option.some.inj z).symm)) (hg.block g h.st.a.map.lt (fun z => h.ne.1 (Option.some.inj z).symm)), ⟨hg.os.trans h.st.bel.os, hg.tape.trans h.st.bel.tape, hg.output.trans h.st.bel.output, Nat.le_trans hs hg.size, fun i hi => (hg.block i (by omega) (fun z => by have := Option.some.inj z; omega)).trans (h.st.bel.block i hi)⟩, h.st.ft, h.st.fg⟩
theorem SG.put (h : SG w0 t g b w P W) (hs : 1 ≤ s ∧ s ≤ 8) : ∃ w', (Instr.mapUpdate 45 (.map (some b)) (.int .i64 s) (.int .i64 1)).run Tryd.prog w = .ok () w' ∧ SG w0 t g b w' P (putS W s true) := by
  obtain ⟨n, m⟩ := h.mp
  have h8 := sw_size m h.wb
  obtain ⟨w', hrun, m', hg⟩ := m.put Tryd.underlying45 (by unfold maxLen; omega) s (wf64 (by omega)) (.int .i64 1)
  rw [sw_put] at m'
  refine ⟨w', hrun, h.grown hg, ⟨_, m'⟩, h.ne, h.fb, fun i hi => ?_⟩
  rcases putS_true hi with ⟨rfl, _⟩ | e
  · exact hs
  · exact h.wb i e
theorem SG.del (h : SG w0 t g b w P W) (hs : 1 ≤ s ∧ s ≤ 8) : ∃ w', (∀ ty, (Builtin.delete_ #[45, 3] ty #[.map (some b), .int .i64 s]).run Tryd.prog w = .ok (.tuple #[]) w') ∧ SG w0 t g b w' P (putS W s false) := by
  obtain ⟨n, m⟩ := h.mp
  obtain ⟨w', hrun, m', hg⟩ := m.del Tryd.underlying45 s (wf64 (by omega)) 0
  rw [sw_del] at m'
  refine ⟨w', fun ty => by rw [← hrun]; rfl, h.grown hg, ⟨_, m'⟩, h.ne, h.fb, fun i hi => ?_⟩
  rcases putS_true hi with ⟨_, e⟩ | e
  · cases e
  · exact h.wb i e
theorem SG.look (h : SG w0 t g b w P W) (hs : 1 ≤ s ∧ s ≤ 8) : (Instr.lookup 45 (.map (some b)) (.int .i64 s) false).run Tryd.prog w = .ok (.int .i64 (if W s = true then 1 else 0)) w := by
  obtain ⟨n, m⟩ := h.mp
  rw [m.look Tryd.underlying45 (zero_num _) s (wf64 (by omega))]
  unfold sw
  by_cases e : W s = true <;> simp [e]
theorem SG.new (h : TJ w0 t g w P) : SG w0 t g w.heap.size (w.alloc (.map #[] 0)) P noSig := by
  have hA := (Below.refl _ w).alloc (Nat.le_refl _) (.map #[] 0)
  have h1 := h.a.tlt
  have h2 := h.a.map.lt
  refine ⟨h.stay hA, ⟨0, ?_⟩, by omega, h.bel.size, fun s z => by cases z⟩
  have : sw noSig = fun _ => none := by funext i; rfl
  rw [this]
  exact PMap.made w
end
/-- Those that are ignored behind so many of a list. -/
def igL (q : Nat → Int) : Nat → Int → Bool
  | 0 => noSig
  | i + 1 => if 1 + pk (q i) = 8 then igL q i else putS (igL q i) (1 + pk (q i)) true
theorem igL_in (q : Nat → Int) : ∀ i j, j < i → 1 + pk (q j) < 8 → igL q i (1 + pk (q j)) = true
  | 0, j, h, _ => by omega
  | i + 1, j, h, hs => by
    unfold igL
    by_cases e : j = i
    · subst e
      rw [if_neg (by omega)]
      unfold putS; rw [if_pos rfl]
    · have := igL_in q i j (by omega) hs
      split
      · exact this
      · unfold putS; split
        · rfl
        · exact this
theorem igL_of (q : Nat → Int) : ∀ i s, igL q i s = true → ∃ j, j < i ∧ 1 + pk (q j) = s ∧ s < 8
  | 0, s, h => by cases h
  | i + 1, s, h => by
    unfold igL at h
    split at h
    · obtain ⟨j, h1, h2⟩ := igL_of q i s h
      exact ⟨j, by omega, h2⟩
    · rename_i hne
      rcases putS_true h with ⟨rfl, _⟩ | e
      · have := pk_bounds (q i)
        exact ⟨i, by omega, rfl, by omega⟩
      · obtain ⟨j, h1, h2⟩ := igL_of q i s e
        exact ⟨j, by omega, h2⟩
/-- Those that are left behind so many deletions. -/
structure Lf (W ig V : Int → Bool) (q : Nat → Int) (i : Nat) : Prop where
  sub : ∀ s, V s = true → W s = true
  keep : ∀ s, W s = true → ig s = false → V s = true
  gone : ∀ j, j < i → 1 + pk (q j) < 8 → V (1 + pk (q j)) = false
theorem Lf.start (W ig : Int → Bool) (q : Nat → Int) : Lf W ig W q 0 := ⟨fun _ h => h, fun _ h _ => h, fun j h => by omega⟩
theorem Lf.step {W ig V : Int → Bool} {q : Nat → Int} {i : Nat} (h : Lf W ig V q i) (_hs : 1 + pk (q i) < 8) (hi : ig (1 + pk (q i)) = true) : Lf W ig (putS V (1 + pk (q i)) false) q (i + 1) := by
  refine ⟨fun s z => ?_, fun s z1 z2 => ?_, fun j hj hjs => ?_⟩
  · rcases putS_true z with ⟨_, e⟩ | e
    · cases e
    · exact h.sub s e
  · unfold putS
    rw [if_neg (fun e => by rw [e, hi] at z2; cases z2)]
    exact h.keep s z1 z2
  · unfold putS
    split
    · rfl
    · rename_i hne
      by_cases e : j = i
      · exact absurd (by rw [e]) hne
      · exact h.gone j (by omega) hjs
theorem Lf.skip {W ig V : Int → Bool} {q : Nat → Int} {i : Nat} (h : Lf W ig V q i) (hs : ¬ 1 + pk (q i) < 8) : Lf W ig V q (i + 1) := by
  refine ⟨h.sub, h.keep, fun j hj hjs => ?_⟩
  by_cases e : j = i
  · subst e; exact absurd hjs hs
  · exact h.gone j (by omega) hjs
theorem Lf.done {W V : Int → Bool} {q : Nat → Int} {n : Nat} (h : Lf W (igL q n) V q n) : V = lessS W (igL q n) := by
  funext s
  unfold lessS
  cases hv : V s with
  | true =>
    have h1 := h.sub s hv
    cases hi : igL q n s with
    | true =>
      obtain ⟨j, h2, h3, h4⟩ := igL_of q n s hi
      have := h.gone j h2 (by omega)
      rw [h3, hv] at this; cases this
    | false => rw [h1]; rfl
  | false =>
    cases hw : W s with
    | false => rfl
    | true =>
      cases hi : igL q n s with
      | true => rfl
      | false => have := h.keep s hw hi; rw [hv] at this; cases this
set_option maxRecDepth 100000 in
set_option maxHeartbeats 1000000 in
theorem jsignals_long (ad1 ad2 : Option Addr) (len1 cap1 len2 cap2 : Nat) (w : World) (h : 40 < len1 ∨ 40 < len2) :
    Calls Tryd.prog 4 #[.slice ad1 len1 cap1, .slice ad2 len2 cap2] w fun e w' => e = .returned (.bool true) ∧ Below w.heap.size w w' := by
  by_cases h1 : (40 : Int) < (len1 : Int)
  · go_enter Tryd.func4, Tryd.ntmps4
    go_wp2_with fail
    go_ret
    exact ⟨rfl, Below.refl _ _⟩
  · have h2 : (40 : Int) < (len2 : Int) := by omega
    go_enter Tryd.func4, Tryd.ntmps4
    go_wp2_with fail
    go_ret
    exact ⟨rfl, Below.refl _ _⟩
set_option maxRecDepth 100000 in
set_option maxHeartbeats 16000000 in
theorem jsignals_short (ad1 ad2 : Option Addr) (len1 cap1 len2 cap2 : Nat) (q1 q2 : Nat → Int) (w : World) (h1 : len1 ≤ 40) (h2 : len2 ≤ 40) (hs1 : Ints w ad1 len1 q1) (hs2 : Ints w ad2 len2 q2) (hT : Tab64 w) :
    Calls Tryd.prog 4 #[.slice ad1 len1 cap1, .slice ad2 len2 cap2] w fun e w' => e = .returned (.bool true) ∧ Below w.heap.size w w' := by
  have h1' : ¬ (40 : Int) < (len1 : Int) := by omega
  have h2' : ¬ (40 : Int) < (len2 : Int) := by omega
  have hN := fun V hV => TJ.new w V hV
  have hF := forked_ok w
  have hne := tableJ_ne
  have hmm := @run_makeMap Tryd.prog
  have hF2 := fun t g V (S : TJ w t g V firstJ) => S.fork 1 (by decide)
  simp only [fork2, uev_zero] at hF2
  have HTT : Aside (Tab64 w) := hT
  have HI1 : Aside (Ints w ad1 len1 q1) := hs1
  have HI2 : Aside (Ints w ad2 len2 q2) := hs2
  have hpk := fun V a => pk_ok V a
  clear hT hs1 hs2
  go_enter Tryd.func4, Tryd.ntmps4
  go_wp2_with (first
    | (go_at_call 5; refine hF.mono ?_; rintro e w1 ⟨rfl, hb1⟩)
    | (go_at_call 6; refine (hN _ hb1).mono ?_; rintro e w2 ⟨t, g, rfl, S1⟩)
    | (go_at_call 16; refine (hF2 t g _ S1).mono ?_; rintro e w3 ⟨rfl, S2, _⟩))
  have S3 := SG.new S2
  generalize hbb : w3.heap.size = b at *
  clear hbb hN hF hF2
  go_loopg [9, 10, 11] len2 (fun k s9 _ _ wr => ∃ i : Nat, i + k = len2 ∧ s9 = .int .i64 (i : Int) ∧ SG w t g b wr (twoJ (igL q2 i) noSig) noSig)
  case atStart => exact ⟨0, by omega, rfl, S3⟩
  case round =>
    clear S3
    obtain ⟨i, hi, rfl, S3⟩ := hrel
    obtain ⟨G0, hG0⟩ : ∃ G0, gk = G0 := ⟨_, rfl⟩
    by_cases hlt : (i : Int) < (len2 : Int)
    · rcases HI2.out with h0 | ⟨blk, off, rfl, hbl, hq⟩
      · exfalso; omega
      have ci : wr.cell? ⟨blk, off + i, none⟩ = some (.int .i64 (q2 i)) := by
        rw [S3.st.bel.cell (p := ⟨blk, off + i, none⟩) hbl]; exact hq i (by omega)
      have hbd := pk_bounds (q2 i)
      have hIg := S3.st.ign2 (s := 1 + pk (q2 i)) (by omega)
      have HNX : Aside (igL q2 (i + 1) = if 1 + pk (q2 i) = 8 then igL q2 i else putS (igL q2 i) (1 + pk (q2 i)) true) := rfl
      rw [← HNX.out] at hIg
      generalize hig2 : igL q2 (i + 1) = ig2 at *
      have HIG : Aside (ig2 = igL q2 (i + 1)) := hig2.symm
      clear HNX hq hig2
      have hp := hpk wr (q2 i)
      generalize pk (q2 i) = p at *
      generalize q2 i = Q at *
      by_cases h7 : p = 7
      · subst h7
        rw [if_pos (by omega), uev_ne (by omega)] at hIg
        go_wp2_with (first
          | (go_at_call 17; refine hp.mono ?_; rintro e w5 ⟨rfl, hw5⟩; subst w5)
          | (go_at_call 18; refine hIg.mono ?_; rintro e w6 ⟨rfl, S4, hw6⟩))
        go_roundg (G0 - 1)
        case measure => omega
        case rel => exact ⟨i + 1, by omega, by go_num, HIG.out ▸ S3.turn S4 hw6⟩
      · have h8 : 1 + p < 8 := by omega
        rw [if_neg (by omega), uev_zero] at hIg
        go_wp2_with (first
          | (go_at_call 17; refine hp.mono ?_; rintro e w5 ⟨rfl, hw5⟩; subst w5)
          | (go_at_call 18; refine hIg.mono ?_; rintro e w6 ⟨rfl, S4, hw6⟩))
        go_roundg (G0 - 1)
        case measure => omega
        case rel => exact ⟨i + 1, by omega, by go_num, HIG.out ▸ S3.turn S4 hw6⟩
    · have hil : i = len2 := by omega
      rw [hil] at S3
      have HIN : Aside (∀ j, j < len2 → 1 + pk (q2 j) < 8 → igL q2 len2 (1 + pk (q2 j)) = true) := igL_in q2 len2
      have HLF : Aside (∀ W V, Lf W (igL q2 len2) V q2 len2 → V = lessS W (igL q2 len2)) := fun W V h => h.done
      clear hil
      generalize igL q2 len2 = IG at *
      have hl0 : lessS noSig IG = noSig := by funext z; rfl
      rw [← hl0] at S3
      have HS3 : Aside _ := S3
      clear S3 hl0
      go_wp2_with fail
      go_loopg [12, 13] len1 (fun k s12 _ wr => ∃ (i : Nat) (W : Int → Bool), i + k = len1 ∧ s12 = .int .i64 (i : Int) ∧ SG w t g b wr (twoJ IG (lessS W IG)) W)
      case atStart => exact ⟨0, lessS noSig IG, by omega, rfl, by
        have := HS3.out
        rw [show lessS (lessS noSig IG) IG = lessS noSig IG by funext z; rfl]
        exact this⟩
      case round =>
        clear HS3
        obtain ⟨i, W, hi, rfl, S3⟩ := hrel
        obtain ⟨G1, hG1⟩ : ∃ G1, gk = G1 := ⟨_, rfl⟩
        by_cases hlt : (i : Int) < (len1 : Int)
        · rcases HI1.out with h0 | ⟨blk, off, rfl, hbl, hq⟩
          · exfalso; omega
          have ci : wr.cell? ⟨blk, off + i, none⟩ = some (.int .i64 (q1 i)) := by
            rw [S3.st.bel.cell (p := ⟨blk, off + i, none⟩) hbl]; exact hq i (by omega)
          have hbd := pk_bounds (q1 i)
          have hK := S3.st.kill2 (s := 1 + pk (q1 i)) (by omega)
          rw [← less_put] at hK
          have hp := hpk wr (q1 i)
          have hPut := fun V P (S : SG w t g b V P W) => S.put (s := 1 + pk (q1 i)) (by omega)
          have HPU : Aside _ := hPut
          clear hPut hq
          generalize pk (q1 i) = p at *
          generalize q1 i = Q at *
          go_upto_region 25 with (first
            | (go_at_call 17; refine hp.mono ?_; rintro e w5 ⟨rfl, hw5⟩; subst w5)
            | (go_at_call 19; refine hK.mono ?_; rintro e w6 ⟨rfl, S4, hw6⟩))
          obtain ⟨w7, hrun, S5⟩ := HPU.out _ _ (S3.turn S4 hw6)
          clear hK hp
          go_wp2_with fail
          go_roundg (G1 - 1)
          case measure => omega
          case rel => exact ⟨i + 1, _, by omega, by go_num, S5⟩
        · have HWW : Aside (Lf W IG W q2 0) := Lf.start W IG q2
          go_wp2_with fail
          go_loopg [14, 15] len2 (fun k s14 _ wr => ∃ (i : Nat) (V : Int → Bool), i + k = len2 ∧ s14 = .int .i64 (i : Int) ∧ Aside (Lf W IG V q2 i) ∧ SG w t g b wr (twoJ IG (lessS W IG)) V)
          case atStart => exact ⟨0, W, by omega, rfl, HWW, S3⟩
          case round =>
            clear S3 HWW
            obtain ⟨i, V, hi, rfl, HLV, S3⟩ := hrel
            obtain ⟨G2, hG2⟩ : ∃ G2, gk = G2 := ⟨_, rfl⟩
            by_cases hlt : (i : Int) < (len2 : Int)
            · rcases HI2.out with h0 | ⟨blk, off, rfl, hbl, hq⟩
              · exfalso; omega
              have ci : wr.cell? ⟨blk, off + i, none⟩ = some (.int .i64 (q2 i)) := by
                rw [S3.st.bel.cell (p := ⟨blk, off + i, none⟩) hbl]; exact hq i (by omega)
              have hbd := pk_bounds (q2 i)
              have hp := hpk wr (q2 i)
              by_cases h8 : 1 + pk (q2 i) < 8
              · obtain ⟨w7, hrun, S5⟩ := S3.del (s := 1 + pk (q2 i)) (by omega)
                have HL2 : Aside (Lf W IG (putS V (1 + pk (q2 i)) false) q2 (i + 1)) := HLV.out.step h8 (HIN.out i (by omega) h8)
                generalize putS V (1 + pk (q2 i)) false = V2 at *
                clear hq
                generalize pk (q2 i) = p at *
                generalize q2 i = Q at *
                go_wp2_with (first
                  | (go_at_call 17; refine hp.mono ?_; rintro e w5 ⟨rfl, hw5⟩; subst w5)
                  | (at_delete; refine wpList_delete_run rfl _ _ 45 3 rfl _ _ _ w7 rfl rfl hrun ?_))
                go_roundg (G2 - 1)
                case measure => omega
                case rel => exact ⟨i + 1, V2, by omega, by go_num, HL2, S5⟩
              · have HL2 : Aside (Lf W IG V q2 (i + 1)) := HLV.out.skip h8
                clear hq
                generalize pk (q2 i) = p at *
                generalize q2 i = Q at *
                go_wp2_with (go_at_call 17; refine hp.mono ?_; rintro e w5 ⟨rfl, hw5⟩; subst w5)
                go_roundg (G2 - 1)
                case measure => omega
                case rel => exact ⟨i + 1, V, by omega, by go_num, HL2, S3⟩
            · have hil : i = len2 := by omega
              have hV : V = lessS W IG := HLF.out W V (by have := HLV.out; rw [hil] at this; exact this)
              rw [← hV] at S3
              clear hV HLV hil
              have S4 : SG w t g b wr (twoJ IG (geS V 1)) V := by rw [geS_first (f := V) S3.wb]; exact S3
              clear S3 HLF
              go_wp2_with fail
              go_loopg [16] 8 (fun mm s16 wr => ∃ k : Nat, 1 ≤ k ∧ k + mm = 9 ∧ s16 = .int .i64 (k : Int) ∧ SG w t g b wr (twoJ IG (geS V (k : Int))) V)
              case atStart => exact ⟨1, by omega, by omega, rfl, S4⟩
              case round =>
                clear S4
                obtain ⟨k, hk1, hk, rfl, S4⟩ := hrel
                obtain ⟨G3, hG3⟩ : ∃ G3, gk = G3 := ⟨_, rfl⟩
                by_cases hk8 : (k : Int) ≤ 8
                · have hl := S4.look (s := (k : Int)) (by omega)
                  cases hv : V (k : Int) with
                  | true =>
                    rw [hv, if_pos rfl] at hl
                    have hTk := S4.st.take2 HTT.out (by omega) hv
                    have e9 : (k : Int) + 1 = ((k + 1 : Nat) : Int) := by omega
                    rw [e9] at hTk
                    clear e9
                    go_wp2_with (go_at_call 20; refine hTk.mono ?_; rintro e w6 ⟨rfl, S5, hw6⟩)
                    go_roundg (G3 - 1)
                    case measure => omega
                    case rel => exact ⟨k + 1, by omega, by omega, by go_num, S4.turn S5 hw6⟩
                  | false =>
                    rw [hv, if_neg (by simp)] at hl
                    have S5 : SG w t g b wr (twoJ IG (geS V ((k + 1 : Nat) : Int))) V := by
                      rw [show ((k + 1 : Nat) : Int) = (k : Int) + 1 by omega, geS_skip hv]; exact S4
                    go_wp2_with fail
                    go_roundg (G3 - 1)
                    case measure => omega
                    case rel => exact ⟨k + 1, by omega, by omega, by go_num, S5⟩
                · have S5 : TJ w t g wr (twoJ IG noSig) := by
                    have h9 : (k : Int) = 9 := by omega
                    have := S4.st
                    rw [h9, geS_last (f := V) S4.wb] at this
                    exact this
                  have hFk := S5.fork3
                  have hTn := fun U (S : TJ w t g U (thrJ IG noSig noSig)) => S.none2 HTT.out
                  clear S4 S5
                  go_wp2_with (first
                    | (go_at_call 16; refine hFk.mono ?_; rintro e w6 ⟨rfl, S6, _⟩)
                    | (go_at_call 20; refine (hTn _ S6).mono ?_; rintro e w7 ⟨rfl, S7, _⟩))
                  clear hFk hTn
                  go_loopg [19, 20] len2 (fun mm s19 _ wr => ∃ i : Nat, i + mm = len2 ∧ s19 = .int .i64 (i : Int) ∧ TJ w t g wr (thrJ IG noSig noSig))
                  case atStart => exact ⟨0, by omega, rfl, S7⟩
                  case round =>
                    clear S7 S6
                    obtain ⟨i, hi, rfl, S7⟩ := hrel
                    obtain ⟨G4, hG4⟩ : ∃ G4, gk = G4 := ⟨_, rfl⟩
                    have hK := fun s (hs : 1 ≤ s ∧ s ≤ 8) => S7.kill3 (s := s) hs
                    have hT0 := fun U (S : TJ w t g U (thrJ IG noSig noSig)) => S.none3 HTT.out
                    have hT8 := fun U (S : TJ w t g U (thrJ IG noSig (putS noSig 8 true))) => S.last3 HTT.out
                    have hI8 : IG 8 = false := by
                      cases hz : IG 8 with
                      | false => rfl
                      | true => have := S7.a.ok.ig 3 _ (thr_at IG noSig noSig) 8 hz; omega
                    by_cases hlt : (i : Int) < (len2 : Int)
                    · rcases HI2.out with h0 | ⟨blk, off, rfl, hbl, hq⟩
                      · exfalso; omega
                      have ci : wr.cell? ⟨blk, off + i, none⟩ = some (.int .i64 (q2 i)) := by
                        rw [S7.bel.cell (p := ⟨blk, off + i, none⟩) hbl]; exact hq i (by omega)
                      have hbd := pk_bounds (q2 i)
                      have hp := hpk wr (q2 i)
                      by_cases h8 : 1 + pk (q2 i) < 8
                      · have hK1 := hK (1 + pk (q2 i)) (by omega)
                        rw [HIN.out i (by omega) h8, if_pos rfl] at hK1
                        clear hq hK hT8
                        generalize pk (q2 i) = p at *
                        generalize q2 i = Q at *
                        go_wp2_with (first
                          | (go_at_call 17; refine hp.mono ?_; rintro e w5 ⟨rfl, hw5⟩; subst w5)
                          | (go_at_call 19; refine hK1.mono ?_; rintro e w6 ⟨rfl, S8, _⟩)
                          | (go_at_call 20; refine (hT0 _ S9).mono ?_; rintro e w8 ⟨rfl, SA, _⟩)
                          | (go_at_call 20; refine (hT0 _ S8).mono ?_; rintro e w7 ⟨rfl, S9, _⟩))
                        go_roundg (G4 - 1)
                        case measure => omega
                        case rel => exact ⟨i + 1, by omega, by go_num, SA⟩
                      · have hp7 : pk (q2 i) = 7 := by omega
                        have hK1 := hK 8 (by omega)
                        rw [hI8, if_neg (by simp)] at hK1
                        clear hq hK hT0
                        rw [hp7] at hp
                        clear h8 hbd hp7
                        generalize q2 i = Q at *
                        go_wp2_with (first
                          | (go_at_call 17; refine hp.mono ?_; rintro e w5 ⟨rfl, hw5⟩; subst w5)
                          | (go_at_call 19; refine hK1.mono ?_; rintro e w6 ⟨rfl, S8, _⟩)
                          | (go_at_call 20; refine (hT8 _ S8).mono ?_; rintro e w7 ⟨rfl, SA, _⟩))
                        go_roundg (G4 - 1)
                        case measure => omega
                        case rel => exact ⟨i + 1, by omega, by go_num, SA⟩
                    · have hK1 := hK 8 (by omega)
                      rw [hI8, if_neg (by simp)] at hK1
                      clear hK hT0
                      go_wp2_with (first
                        | (go_at_call 19; refine hK1.mono ?_; rintro e w6 ⟨rfl, S8, _⟩)
                        | (go_at_call 20; refine (hT8 _ S8).mono ?_; rintro e w7 ⟨rfl, SA, _⟩))
                      go_ret
                      exact ⟨rfl, SA.bel⟩
end Go.Proofs.YtidinhbokkelnacDoor
