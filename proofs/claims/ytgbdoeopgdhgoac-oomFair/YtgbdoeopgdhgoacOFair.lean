/- OomFair: the walk of its Go text, over a contract of package oom's Victim. -/
import Derived.Test.YtgbdoeopgdhgoacOFair0
import Derived.Deep.RegionHeld3
namespace Go.Proofs.Ytgbdoeopgdhgoac
open Go.RowKit Go.Maps

theorem zero_int (w : World) : (zeroValue 3).run Try.prog w = .ok (.int .i64 0) w := by kernel_rfl
/-- Numbers that were seen once. -/
def seenM (K : List Cd) : Int → Option Value := fun p => if p ∈ K.map (·.pid) then some (.int .i64 1) else none
theorem seen_put {K : List Cd} {c : Cd} : (fun i => if i = c.pid then some (Value.int .i64 1) else seenM K i) = seenM (K ++ [c]) := by
  funext i
  unfold seenM
  by_cases e : i = c.pid
  · simp [e]
  · rw [if_neg e]
    by_cases h : i ∈ K.map (·.pid)
    · rw [if_pos h, if_pos (by rw [List.map_append]; exact List.mem_append_left _ h)]
    · rw [if_neg h, if_neg (by rw [List.map_append, List.mem_append]; simp [h, e])]
theorem apt_add {K : List Cd} {c : Cd} (h : Apt K) (hc : c.pid ∉ K.map (·.pid)) : Apt (K ++ [c]) := by
  unfold Apt at *
  rw [List.map_append]
  refine List.nodup_append.2 ⟨h, by simp, fun a ha b hb => ?_⟩
  simp at hb
  subst hb
  exact fun e => hc (e ▸ ha)
def opk (a n : Int) : Int := wrap64 ((IntKind.u64.wrap a).tmod n)
theorem opk_bounds (a n : Int) (h1 : 1 ≤ n) (h2 : n ≤ 1000000) : 0 ≤ opk a n ∧ opk a n < n := by
  have h0 : 0 ≤ IntKind.u64.wrap a := by rw [IntKind.wrap_u64]; omega
  have ht : (IntKind.u64.wrap a).tmod n = IntKind.u64.wrap a % n := Int.tmod_eq_emod_of_nonneg h0
  have l := Int.emod_nonneg (IntKind.u64.wrap a) (b := n) (by omega)
  have u := Int.emod_lt_of_pos (IntKind.u64.wrap a) (b := n) (by omega)
  unfold opk
  rw [ht, show wrap64 (IntKind.u64.wrap a % n) = IntKind.u64.wrap a % n by unfold wrap64; omega]
  exact ⟨l, u⟩
set_option maxHeartbeats 400000 in
theorem opk_ok (w : World) (a : Int) (n : Nat) (h1 : 1 ≤ n) (h2 : n ≤ 1000000) : Calls Try.prog 8 #[.int .i64 a, .int .i64 n] w fun e w' => e = .returned (.int .i64 (opk a n)) ∧ w' = w := by
  have hb := opk_bounds a n (by omega) (by omega)
  go_enter Try.func8, Try.ntmps8
  go_wp2
  go_ret
  exact ⟨rfl, rfl⟩
set_option maxRecDepth 100000 in
set_option maxHeartbeats 1000000 in
theorem ofair_long (ad : Option Addr) (len cap : Nat) (by_ more : Int) (w : World) (h : 30 < len) :
    Calls Try.prog 4 #[.slice ad len cap, .int .i64 by_, .int .i64 more] w fun e w' => e = .returned (.bool true) ∧ Below w.heap.size w w' := by
  have h1 : (30 : Int) < (len : Int) := by omega
  go_enter Try.func4, Try.ntmps4
  go_wp2_with fail
  go_ret
  exact ⟨rfl, Below.refl _ _⟩
set_option maxRecDepth 100000 in
set_option maxHeartbeats 16000000 in
theorem ofair_short (hV : VicC) (ad : Option Addr) (L : List Cd) (cap : Nat) (by_ more : Int) (w : World) (h1 : L.length ≤ 30) (hcap : L.length ≤ cap) (h : Cds w ad L) (hwf : ∀ c ∈ L, (Lit.int .i64 c.pid).wf = true) :
    Calls Try.prog 4 #[.slice ad L.length cap, .int .i64 by_, .int .i64 more] w fun e w' => e = .returned (.bool true) ∧ Below w.heap.size w w' := by
  have h1' : ¬ (30 : Int) < (L.length : Int) := by omega
  have hch := chosen_ok hV w
  have hmm := @run_makeMap Try.prog
  have HCD : Aside (Cds w ad L) := h
  have HVV : Aside VicC := hV
  have HWF : Aside (∀ c ∈ L, (Lit.int .i64 c.pid).wf = true) := hwf
  clear h hV hwf
  go_enter Try.func4, Try.ntmps4
  go_wp2_with (go_at_call 7; refine hch.mono ?_; rintro e w1 ⟨rfl, b1⟩)
  have hm0 : PMap (w1.alloc (.map #[] 0)) w1.heap.size 0 (seenM []) := PMap.made w1
  have hb0 : Below w.heap.size w (w1.alloc (.map #[] 0)) := b1.alloc b1.size _
  have hgb : w.heap.size ≤ w1.heap.size := b1.size
  generalize hbb : w1.heap.size = b at *
  clear hbb hch
  go_loopg [8] L.length (fun mm s8 wr => ∃ i s : Nat, i + mm = L.length ∧ s8 = .int .i64 (i : Int) ∧ s ≤ i ∧ PMap wr b s (seenM (L.take i)) ∧ Below w.heap.size w wr ∧ Aside (Apt (L.take i)) ∧ Aside (∀ c ∈ L.take i, c.res ≤ 900))
  case atStart => exact ⟨0, 0, by omega, rfl, by omega, hm0, hb0, (List.nodup_nil : Apt []), fun c hc => by simp at hc⟩
  case round =>
    clear hm0 hb0
    obtain ⟨i, s, hi, rfl, hsi, hm, hbel, HAP, HRE⟩ := hrel
    obtain ⟨G0, hG0⟩ : ∃ G0, gk = G0 := ⟨_, rfl⟩
    by_cases hlt : (i : Int) < (L.length : Int)
    · have hiL : i < L.length := by omega
      rcases HCD.out with h0 | ⟨blk, off, rfl, hbl, hq⟩
      · rw [h0] at hiL; cases hiL
      obtain ⟨d0, d1, d2⟩ := hq i hiL
      have hwp := HWF.out L[i] (List.getElem_mem hiL)
      have c0 : wr.cell? ⟨blk, off + i * 3, none⟩ = some (.int .i64 L[i].pid) := by rw [hbel.cell (p := ⟨blk, off + i * 3, none⟩) hbl]; exact d0
      have hl := hm.look Try.underlying32 (zero_int _) L[i].pid hwp
      obtain ⟨w5, hrun, hm5, hg5⟩ := hm.put Try.underlying32 (by unfold maxLen; omega) L[i].pid hwp (.int .i64 (if L[i].pid ∈ (L.take i).map (·.pid) then 2 else 1))
      have hbl5 : blk ≠ b := by omega
      have b5 : Below w.heap.size w w5 := ⟨hg5.os.trans hbel.os, hg5.tape.trans hbel.tape, hg5.output.trans hbel.output, Nat.le_trans hbel.size hg5.size, fun m hm => (hg5.block m (by have := hbel.size; omega) (fun e => by have := Option.some.inj e; omega)).trans (hbel.block m hm)⟩
      have e0 : w5.cell? ⟨blk, off + i * 3, none⟩ = some (.int .i64 L[i].pid) := by rw [b5.cell (p := ⟨blk, off + i * 3, none⟩) hbl]; exact d0
      have e1 : w5.cell? ⟨blk, off + i * 3 + 1, none⟩ = some (.int .i64 L[i].res) := by rw [b5.cell (p := ⟨blk, off + i * 3 + 1, none⟩) hbl]; exact d1
      have hl5 := hm5.look Try.underlying32 (zero_int _) L[i].pid hwp
      rw [if_pos rfl] at hl5
      simp only [Option.getD_some] at hl5
      have hcap' : (i : Int) < (cap : Int) := by omega
      by_cases hsn : L[i].pid ∈ (L.take i).map (·.pid)
      · rw [if_pos hsn] at hrun hl5
        have hl0 : (seenM (L.take i) L[i].pid).getD (.int .i64 0) = .int .i64 1 := by unfold seenM; rw [if_pos hsn]; rfl
        rw [hl0] at hl
        clear hq hm5 hl0 hsn hm
        generalize L[i] = cc at *
        go_wp2_with fail
        go_ret
        exact ⟨rfl, b5⟩
      · rw [if_neg hsn] at hrun hl5 hm5
        have hl0 : (seenM (L.take i) L[i].pid).getD (.int .i64 0) = .int .i64 0 := by unfold seenM; rw [if_neg hsn]; rfl
        rw [hl0] at hl
        by_cases hbig : (900 : Int) < L[i].res
        · clear hq hm5 hl0 hsn hm
          generalize L[i] = cc at *
          go_wp2_with fail
          go_ret
          exact ⟨rfl, b5⟩
        · have HAP2 : Aside (Apt (L.take (i + 1))) := by rw [takeC hiL]; exact apt_add HAP.out hsn
          have HRE2 : Aside (∀ c ∈ L.take (i + 1), c.res ≤ 900) := fun c hc => by
            rw [takeC hiL] at hc
            rcases List.mem_append.1 hc with z | z
            · exact HRE.out c z
            · rw [List.mem_singleton.1 z]; omega
          have hM : (fun j => if j = L[i].pid then some (Value.int .i64 1) else seenM (L.take i) j) = seenM (L.take (i + 1)) := by rw [seen_put, ← takeC hiL]
          rw [hM] at hm5
          have hns : ((seenM (L.take i) L[i].pid).isSome) = false := by unfold seenM; rw [if_neg hsn]; rfl
          rw [hns] at hm5
          simp only [Bool.false_eq_true, if_false] at hm5
          clear hq hl0 hsn hm hM hns
          generalize L[i] = cc at *
          go_wp2_with fail
          go_roundg (G0 - 1)
          case measure => omega
          case rel => exact ⟨i + 1, s + 1, by omega, by go_num, by omega, hm5, b5, HAP2, HRE2⟩
    · have hiL : i = L.length := by omega
      rw [hiL, List.take_length] at HAP HRE
      clear hm hiL hsi
      have hC := HCD.out.below hbel
      have hVc := HVV.out wr ad L cap (by omega) hC
      by_cases hL0 : L = []
      · subst hL0
        rw [show vic [] = (0, 0) from rfl] at hVc
        simp only [show decide ((0 : Int) < 0) = false from rfl, List.length_nil] at hVc
        clear hC HCD
        go_wp2_with (go_at_call 6; refine hVc.mono ?_; rintro e w2 ⟨rfl, b2⟩)
        go_ret
        exact ⟨rfl, (hbel.trans (b2.mono hbel.size)).alloc (Nat.le_trans hbel.size b2.size) _⟩
      · have hl1 : 1 ≤ L.length := by
          rcases Nat.eq_zero_or_pos L.length with z | z
          · exact absurd (List.eq_nil_of_length_eq_zero z) hL0
          · exact z
        rcases HCD.out with h0 | ⟨blk, off, rfl, hbl, hq⟩
        · exact absurd h0 hL0
        have hl2 : ((L.length : Int) == 0) = false := by simp; exact hL0
        have hl3 : ¬ (L.length : Int) = 0 := by omega
        have hbd := opk_bounds by_ L.length (by omega) (by omega)
        obtain ⟨K, hK⟩ : ∃ K : Nat, opk by_ L.length = K := ⟨(opk by_ L.length).toNat, by omega⟩
        have hpk := fun V => opk_ok V by_ L.length (by omega) (by omega)
        rw [hK] at hbd
        simp only [hK] at hpk
        clear hK hL0
        obtain ⟨p, hp⟩ : ∃ p, (vic L).2 = p := ⟨_, rfl⟩
        obtain ⟨ok, hok⟩ : ∃ ok, decide (0 < (vic L).1) = ok := ⟨_, rfl⟩
        rw [hp, hok] at hVc
        have HP : Aside ((vic L).2 = p) := hp
        have HOK : Aside (decide (0 < (vic L).1) = ok) := hok
        clear hp hok
        go_upto_region 16 with (first
          | (go_at_call 6; refine hVc.mono ?_; rintro e w2 ⟨rfl, b2⟩)
          | (go_at_call 8; refine (hpk _).mono ?_; rintro e w3 ⟨rfl, hw3⟩; subst w3))
        have b3 : Below w.heap.size w w2 := hbel.trans (b2.mono hbel.size)
        have hbx := b3.alloc b3.size (.cells #[.int .i64 p] 3)
        have hxc : (w2.alloc (.cells #[.int .i64 p] 3)).cell? ⟨w2.heap.size, 0, none⟩ = some (.int .i64 p) := by
          rw [cell_of_row _ _ _ _ _ _ (show (w2.heap.push _)[w2.heap.size]? = some _ by rw [Array.getElem?_push, if_pos rfl])]; rfl
        generalize hwB : w2.alloc (.cells #[.int .i64 p] 3) = wB at *
        generalize hxx : w2.heap.size = x at *
        have hxl : x < wB.heap.size := World.block_lt_of_cell? wB _ hxc
        have hCw : Cells w blk off L := hq
        clear hwB hxx hq hVc hpk b3 b2 hC hmm hgb
        have hblB : blk < wB.heap.size := Nat.lt_of_lt_of_le hbl hbx.size
        have hCB : Cells wB blk off L := hCw.keep (hbx.block blk hbl)
        have hW1b : Below wB.heap.size wB (wB.alloc (.cells #[] 25)).drew := ⟨rfl, rfl, rfl, by simp, fun m hm => Below.heap_alloc _ _ m hm⟩
        have r0 : CL (wB.alloc (.cells #[] 25)).drew wB.heap.size 25 (.slice (some ⟨wB.heap.size, 0, none⟩) 0 0) [] := (CL.empty (w := wB)).keep (fun _ _ _ => rfl)
        obtain ⟨v1, wc1, hr1, ho1, hg1⟩ := append_cds r0 (L := L.drop K) ((hCB.keep (hW1b.block blk hblB)).drop K) (cap - K) (by simp) (by rw [List.length_drop]; omega) hW1b.size
        have hbk1 : ∀ m, m < wB.heap.size → wc1.heap[m]? = wB.heap[m]? := fun m hm => (hg1.block m (Nat.lt_of_lt_of_le hm hW1b.size) (fun e => by have h9 : m = wB.heap.size := Option.some.inj e; omega)).trans (hW1b.block m hm)
        have hs1 : wB.heap.size ≤ wc1.heap.size := Nat.le_trans hW1b.size hg1.size
        obtain ⟨v2, wc2, hr2, ho2, hg2⟩ := append_cds ho1 (L := L.take K) ((hCB.keep (hbk1 blk hblB)).take K) cap (by simp; omega) (by rw [List.length_take]; omega) hs1
        have hbk2 : Below wB.heap.size wB wc2 := ⟨hg2.os.trans (hg1.os.trans rfl), hg2.tape.trans (hg1.tape.trans rfl), hg2.output.trans (hg1.output.trans rfl), Nat.le_trans hs1 hg2.size, fun m hm => (hg2.block m (Nat.lt_of_lt_of_le hm hs1) (fun e => by have := (ho1.lt m e.symm).1; omega)).trans (hbk1 m hm)⟩
        have hr1' := hr1 _ rfl
        have hr2' := hr2 _ rfl
        rw [List.length_drop] at hr1'
        rw [List.length_take, Nat.min_eq_left (by omega)] at hr2'
        have hKl : (K : Int) ≤ (L.length : Int) := by omega
        have hKc : (K : Int) ≤ (cap : Int) := by omega
        have hK0 : (0 : Int) ≤ (K : Int) := by omega
        have hLc : (L.length : Int) ≤ (cap : Int) := by omega
        clear hr1 hr2 hg1 hg2 hbk1 hs1 hW1b r0 ho1
        have hcK : ¬ cap = K := by omega
        go_region_law (first
          | (refine step_append_run rfl (.tmp 70) (.tmp 73) 23 rfl _ _ v1 wc1 rfl rfl hr1' ?_)
          | (refine step_append_run rfl (.tmp 74) (.tmp 77) 23 rfl _ _ v2 wc2 rfl rfl hr2' ?_))
        have hbw2 : Below w.heap.size w wc2 := hbx.trans (hbk2.mono hbx.size)
        rw [List.nil_append] at ho2
        obtain ⟨ad2, cap2, hv2, _, hcd2⟩ := ho2.cds
        have hVt := HVV.out wc2 ad2 (L.drop K ++ L.take K) cap2 (by simp; omega) hcd2
        rw [← hv2] at hVt
        clear hv2
        have hmem : ∀ c, c ∈ L.drop K ++ L.take K ↔ c ∈ L := fun c => by
          rw [List.mem_append]
          constructor
          · rintro (z | z)
            · exact List.mem_of_mem_drop z
            · exact List.mem_of_mem_take z
          · intro z
            rw [← List.take_append_drop K L] at z
            rcases List.mem_append.1 z with z | z
            · exact .inr z
            · exact .inl z
        rw [vic_perm hmem, HP.out, HOK.out] at hVt
        have hTx : ∀ V, Below wc2.heap.size wc2 V → V.cell? ⟨x, 0, none⟩ = some (.int .i64 p) ∧ Cds V (some ⟨blk, off, none⟩) L ∧ Below w.heap.size w V := fun V hb => by
          have hb2 : Below wB.heap.size wB V := hbk2.trans (hb.mono hbk2.size)
          refine ⟨by rw [hb2.cell (p := ⟨x, 0, none⟩) hxl]; exact hxc, .inr ⟨blk, off, rfl, Nat.lt_of_lt_of_le hblB hb2.size, hCB.keep (hb2.block blk hblB)⟩, hbw2.trans (hb.mono hbw2.size)⟩
        have HTX : Aside _ := hTx
        have hIx := fun V hb => idxC_ok V (some ⟨blk, off, none⟩) L cap p x (by omega) (HTX.out V hb).2.1 (HTX.out V hb).1
        have HIX : Aside _ := hIx
        clear hTx hIx hmem hcd2 ho2 hr1' hr2' hCw hCB hxc
        all_goals
          go_upto_region 20 with (go_at_call 6; refine hVt.mono ?_; rintro e w3 ⟨rfl, b3⟩; have hx3 := (HTX.out w3 b3).1)
          have hI3 := HIX.out w3 b3
          go_upto_region 21 with (go_at_call 9; refine hI3.mono ?_; rintro e w4 ⟨k, rfl, hk, b4⟩)
          have HT4 : Aside (∀ V, Below w4.heap.size w4 V → V.cell? ⟨x, 0, none⟩ = some (.int .i64 p) ∧ Cells V blk off L ∧ blk < V.heap.size ∧ Below w.heap.size w V) := fun V hb => by
            have hb9 := b3.trans ((b4.trans (hb.mono b4.size)).mono b3.size)
            obtain ⟨f1, f2, f3⟩ := HTX.out V hb9
            refine ⟨f1, ?_, ?_, f3⟩
            · rcases f2 with z | ⟨b9, o9, e9, _, hq9⟩
              · rw [z] at hl1; simp at hl1
              · cases e9; exact hq9
            · rcases f2 with z | ⟨b9, o9, e9, hb9, _⟩
              · rw [z] at hl1; simp at hl1
              · cases e9; exact hb9
          clear HTX HIX hVt hI3 hx3
          cases ok with
          | false =>
            have hnn := vic_none (L := L) (by have := HOK.out; simp at this; omega)
            rw [HP.out] at hnn
            obtain ⟨hp0, hno⟩ := hnn
            subst hp0
            have HNO : Aside (∀ c ∈ L, ¬ (0 < c.res ∧ -100 < c.adj)) := hno
            clear hno
            go_wp2_with fail
            go_loopg [15] L.length (fun mm s15 wr => ∃ i : Nat, i + mm = L.length ∧ s15 = .int .i64 (i : Int) ∧ wr = w4)
            case atStart => exact ⟨0, by omega, rfl, rfl⟩
            case round =>
              obtain ⟨i2, hi2, rfl, hw⟩ := hrel
              subst wr
              obtain ⟨f1, f2, f3, f4⟩ := HT4.out w4 (Below.refl _ _)
              by_cases hil : (i2 : Int) < (L.length : Int)
              · have hi2L : i2 < L.length := by omega
                obtain ⟨e0, e1, e2⟩ := f2 i2 hi2L
                have hnx := HNO.out L[i2] (List.getElem_mem hi2L)
                have hcap' : (i2 : Int) < (cap : Int) := by omega
                clear f2
                generalize L[i2] = cc at *
                obtain ⟨X, R, D⟩ := cc
                simp only at e0 e1 e2 hnx
                by_cases hR : 0 < R
                · have hD : ¬ -100 < D := fun z => hnx ⟨hR, z⟩
                  clear hnx
                  go_wp2_with fail
                  go_roundg (gk - 1)
                  case measure => omega
                  case rel => exact ⟨i2 + 1, by omega, by go_num, rfl⟩
                · clear hnx
                  go_wp2_with fail
                  go_roundg (gk - 1)
                  case measure => omega
                  case rel => exact ⟨i2 + 1, by omega, by go_num, rfl⟩
              · clear f2
                go_wp2_with fail
                go_ret
                exact ⟨rfl, f4⟩
          | true =>
            have h0 : 0 < (vic L).1 := by have := HOK.out; simpa using this
            obtain ⟨j1, hj1, e1, e2⟩ := vic_at h0
            rcases hk with ⟨j, hj, hkj, hjp⟩ | ⟨_, hno⟩
            · subst hkj
              have hjj : j1 = j := HAP.out.same hj1 hj (by rw [e1, HP.out, hjp])
              subst j1
              have hpos := wgt_pos.1 (show 0 < wgt L[j] by rw [e2]; exact h0)
              have HMO : Aside (∀ d, 0 ≤ d → (vic (L.set j (addR L[j] d))).2 = p) := fun d hd => by rw [vic_more hj HAP.out (by rw [hjp, HP.out]) h0 d hd, HP.out]
              have HLE : Aside (0 < (vic (L.take j ++ L.drop (j + 1))).1 → (vic (L.take j ++ L.drop (j + 1))).2 ≠ p) := fun z => by
                have := vic_less hj HAP.out (by rw [hjp, HP.out]) z
                rw [HP.out] at this
                exact this
              have hr9 := HRE.out L[j] (List.getElem_mem hj)
              obtain ⟨f1, f2, f3, f4⟩ := HT4.out w4 (Below.refl _ _)
              obtain ⟨g0, g1, g2⟩ := f2 j hj
              have hcl := cloneC_ok w4 blk off L cap (by omega) f2 f3
              have hLn : L ≠ [] := fun z => by rw [z] at hj; cases hj
              have hk0 : ¬ ((j : Int) < 0) := by omega
              have hjl : (j : Int) < (L.length : Int) := by omega
              have hjc : (j : Int) < (cap : Int) := by omega
              have hp1 : ¬ L[j].res ≤ 0 := by omega
              have hp2 : ¬ L[j].adj ≤ -100 := by omega
              have hres0 := hpos.1
              clear e1 e2 hjp f2 hpos h0
              go_upto_region 31 with (go_at_call 11; refine hcl.mono ?_; rintro e w5 ⟨v5, rfl, ho5, b5⟩)
              obtain ⟨g5, cap5, hv5, hc5, hN5, hl5, hq5, hf5⟩ := ho5.row hLn
              subst hv5
              obtain ⟨-, k1, -⟩ := hq5 j hj
              rw [Nat.zero_add] at k1
              have k2 := hf5 (j * 3 + 1)
              have hjc5 : (j : Int) < (cap5 : Int) := by omega
              have hdb := opk_bounds more 90 (by omega) (by omega)
              have hpk2 := fun V => opk_ok V more 90 (by omega) (by omega)
              clear hcl g0 g1 g2 ho5 hp1 hp2
              have hwr : IntKind.i64.wrap (L[j].res + opk more 90) = L[j].res + opk more 90 := by
                rw [IntKind.wrap_i64]; omega
              have hq6 := hq5.more hj (opk more 90)
              generalize hd9 : opk more 90 = dd at *
              have b6 : Below w4.heap.size w4 (w5.setCell ⟨g5, j * 3 + 1, none⟩ (.int .i64 (L[j].res + dd))) := b5.setCell hN5 _
              have hl6 : g5 < (w5.setCell ⟨g5, j * 3 + 1, none⟩ (.int .i64 (L[j].res + dd))).heap.size := by simpa using hl5
              obtain ⟨w6, hw6⟩ : ∃ w6, (w5.setCell ⟨g5, j * 3 + 1, none⟩ (.int .i64 (L[j].res + dd))).drew = w6 := ⟨_, rfl⟩
              have b7 : Below w4.heap.size w4 w6 := by rw [← hw6]; exact ⟨b6.os, b6.tape, b6.output, b6.size, b6.block⟩
              have hcd6 : Cds w6 (some ⟨g5, 0, none⟩) (L.set j (addR L[j] dd)) := by rw [← hw6]; exact .inr ⟨g5, 0, rfl, hl6, hq6⟩
              have hVm := HVV.out w6 (some ⟨g5, 0, none⟩) (L.set j (addR L[j] dd)) cap5 (by simp; omega) hcd6
              rw [HMO.out dd (by omega), List.length_set] at hVm
              generalize decide (0 < (vic (L.set j (addR L[j] dd))).1) = is1 at *
              obtain ⟨m1, m2, m3, m4⟩ := HT4.out w6 b7
              have HTM : Aside (∀ V, Below w6.heap.size w6 V → V.cell? ⟨x, 0, none⟩ = some (.int .i64 p) ∧ Cells V blk off L ∧ blk < V.heap.size ∧ Below w.heap.size w V) := fun V hb => HT4.out V (b7.trans (hb.mono b7.size))
              clear hq6 b6 hl6 hcd6 HMO hq5 hf5 m1 m2 m3 m4 HT4
              go_region_with (go_at_call 8; refine (hpk2 _).mono ?_; rintro e w7 ⟨rfl, hw7⟩; subst w7)
              all_goals
                clear hwr hw6 k1 k2 hpk2
                go_upto_region 33 with (go_at_call 6; refine hVm.mono ?_; rintro e w8 ⟨rfl, b8⟩)
                obtain ⟨m1, m2, m3, m4⟩ := HTM.out w8 b8
                go_upto_region 35 with fail
                have htl : (L.take j).length = j := by rw [List.length_take]; omega
                have hCl := fun V (hb : Below w8.heap.size w8 V) => cloneC_ok V blk off (L.take j) cap (by omega) ((m2.keep (hb.block blk m3)).take j) (Nat.lt_of_lt_of_le m3 hb.size)
                rw [htl] at hCl
                obtain ⟨off2, hoff2, hC2⟩ : ∃ off2, ((cap = j + 1 ∧ off2 = off) ∨ (¬ cap = j + 1 ∧ off2 = off + (j + 1) * 3)) ∧ ∀ V, Cells V blk off L → Cells V blk off2 (L.drop (j + 1)) := by
                  by_cases hcj : cap = j + 1
                  · exact ⟨off, .inl ⟨hcj, rfl⟩, fun V _ k hk => by rw [List.length_drop] at hk; omega⟩
                  · exact ⟨_, .inr ⟨hcj, rfl⟩, fun V h => h.drop (j + 1)⟩
                have hap : ∀ w9 v9, CL w9 w8.heap.size 25 v9 (L.take j) → Below w8.heap.size w8 w9 → ∃ v10 w10, (Builtin.append_ #[23, 23] 23 #[v9, .slice (some ⟨blk, off2, none⟩) (L.length - (j + 1)) (cap - (j + 1))]).run Try.prog w9 = .ok v10 w10 ∧ (∃ ad2 cap2, v10 = .slice ad2 (L.take j ++ L.drop (j + 1)).length cap2 ∧ Cds w10 ad2 (L.take j ++ L.drop (j + 1))) ∧ Below w8.heap.size w8 w10 := fun w9 v9 ho hb => by
                  obtain ⟨v10, w10, hr, ho10, hg⟩ := append_cds ho (hC2 _ (m2.keep (hb.block blk m3))) (cap - (j + 1)) (by omega) (by rw [List.length_drop]; omega) hb.size
                  have hr' := hr _ rfl
                  rw [List.length_drop] at hr'
                  obtain ⟨ad2, cap2, hv, _, hcd⟩ := ho10.cds
                  exact ⟨v10, w10, hr', ⟨ad2, cap2, hv, hcd⟩, ⟨hg.os.trans hb.os, hg.tape.trans hb.tape, hg.output.trans hb.output, Nat.le_trans hb.size hg.size, fun m hm => (hg.block m (Nat.lt_of_lt_of_le hm hb.size) (fun e => by have := (ho.lt m e.symm).1; omega)).trans (hb.block m hm)⟩⟩
                have HAPP : Aside _ := hap
                have hj1 : (j : Int) + 1 ≤ (L.length : Int) := by omega
                have hj2 : (j : Int) + 1 ≤ (cap : Int) := by omega
                have hlc : (L.length : Int) ≤ (cap : Int) := by omega
                have hwj : IntKind.i64.wrap ((j : Int) + 1) = ((j + 1 : Nat) : Int) := by rw [IntKind.wrap_i64]; omega
                have hn1 : j ≤ cap := by omega
                have hn2 : j + 1 ≤ L.length := by omega
                have hn3 : j + 1 ≤ cap := by omega
                have hn4 : (j : Int) ≤ (j : Int) + 1 := by omega
                have hn5 : (j : Int) ≤ (cap : Int) := by omega
                have hn6 : (0 : Int) ≤ (j : Int) + 1 := by omega
                clear hap hC2 htl hVm
                rcases hoff2 with ⟨rfl, rfl⟩ | ⟨hcj, rfl⟩
                all_goals
                  go_region_law (first
                    | (refine step_append_run rfl (.tmp 160) (.tmp 164) 23 rfl _ _ v10 w10 rfl rfl hr10 ?_)
                    | (go_simp; go_at_call 11; refine (hCl _ (by first | exact Below.refl _ _ | exact ⟨rfl, rfl, rfl, Nat.le_refl _, fun _ _ => rfl⟩)).mono ?_; rintro e w9 ⟨v9, rfl, ho9, b9⟩; obtain ⟨v10, w10, hr10, hcd10, b10⟩ := HAPP.out w9 v9 ho9 ⟨b9.os, b9.tape, b9.output, b9.size, b9.block⟩; try (rw [show L.length - (j + 1) = 0 by omega, Nat.sub_self] at hr10)))
                  all_goals
                    obtain ⟨ad2, cap2, hv10, hcd2⟩ := hcd10
                    have hVl := HVV.out w10 ad2 (L.take j ++ L.drop (j + 1)) cap2 (by simp; omega) hcd2
                    rw [← hv10] at hVl
                    obtain ⟨m5, -, -, m6⟩ := HTM.out w10 (b8.trans (b10.mono b8.size))
                    have HT0 : Aside (∀ V, Below w10.heap.size w10 V → V.cell? ⟨x, 0, none⟩ = some (.int .i64 p) ∧ Below w.heap.size w V) := fun V hb => by
                      obtain ⟨z1, -, -, z2⟩ := HTM.out V ((b8.trans (b10.mono b8.size)).trans (hb.mono (Nat.le_trans b8.size b10.size)))
                      exact ⟨z1, z2⟩
                    have hle := HLE.out
                    generalize hqq : vic (L.take j ++ L.drop (j + 1)) = q9 at *
                    obtain ⟨bq, pq⟩ := q9
                    simp only at hVl hle
                    clear hv10 hcd2 hr10 ho9 hqq HLE HAPP
                    by_cases hb0 : 0 < bq
                    · have hpp : ¬ pq = p := hle hb0
                      have hpn : (pq != p) = true := by simp [hpp]
                      have HPN : Aside ((pq != p) = true) := hpn
                      clear hpn hpp
                      rw [decide_eq_true hb0] at hVl
                      go_upto_region 37 with (go_at_call 6; refine hVl.mono ?_; rintro e w11 ⟨rfl, b11⟩)
                      obtain ⟨z1, z2⟩ := HT0.out w11 b11
                      go_wp2_with fail
                      go_ret
                      exact ⟨congrArg (fun z => Ending.returned (Value.bool z)) HPN.out, z2⟩
                    · rw [decide_eq_false hb0] at hVl
                      go_upto_region 37 with (go_at_call 6; refine hVl.mono ?_; rintro e w11 ⟨rfl, b11⟩)
                      obtain ⟨z1, z2⟩ := HT0.out w11 b11
                      go_wp2_with fail
                      go_ret
                      exact ⟨rfl, z2⟩
            · exfalso
              obtain ⟨j2, hj2, e3, _⟩ := vic_at h0
              exact hno L[j2] (List.getElem_mem hj2) (by rw [e3, HP.out])
end Go.Proofs.Ytgbdoeopgdhgoac
