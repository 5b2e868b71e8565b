/- VmFrames: the walk of its Go text. -/
import Derived.Test.YtemomohijidmpabDoorVFSt
import Derived.Test.YtemomohijidmpabDoorHasInt
import Derived.Test.YtemomohijidmpabDoorPick
import Derived.Test.YtemomohijidmpabDoorRem
import Derived.Deep.RegionHeld3
import Derived.Deep.DeepCutAuto
namespace Go.Proofs.YtemomohijidmpabDoor
open Go.RowKit Go.Shelf Go.Lib Go.Sort Go.Maps

/-- Uses lie in an array. -/
def Uses (w : World) (ad : Option Addr) (len : Nat) (q : Nat → Us) : Prop :=
  len = 0 ∨ ∃ blk off, ad = some ⟨blk, off, none⟩ ∧ blk < w.heap.size ∧ ∀ j, j < len → w.cell? ⟨blk, off + j * 5, none⟩ = some (.int .i64 (q j).what) ∧ w.cell? ⟨blk, off + j * 5 + 1, none⟩ = some (.int .i64 (q j).at_) ∧ w.cell? ⟨blk, off + j * 5 + 2, none⟩ = some (.int .i64 (q j).n) ∧ w.cell? ⟨blk, off + j * 5 + 3, none⟩ = some (.int .i64 (q j).prot) ∧ w.cell? ⟨blk, off + j * 5 + 4, none⟩ = some (.int .i64 (q j).v) ∧ (q j).ok

set_option maxRecDepth 100000 in
set_option maxHeartbeats 1000000 in
theorem vframes_long (n : Int) (ad : Option Addr) (len cap : Nat) (ad2 : Option Addr) (len2 cap2 : Nat) (w : World) (h : 40 < len ∨ 10 < len2) :
    Calls Tryd.prog 3 #[.int .i64 n, .slice ad len cap, .slice ad2 len2 cap2] w fun e w' => e = .returned (.bool true) ∧ Below w.heap.size w w' := by
  by_cases h1 : (40 : Int) < (len : Int) <;> by_cases h2 : (10 : Int) < (len2 : Int)
  all_goals first
    | (exfalso; omega)
    | (clear h
       go_enter Tryd.func3, Tryd.ntmps3
       go_wp2_with fail
       go_ret
       exact ⟨rfl, Below.refl _ _⟩)

theorem set_same {L : List Sq} {m : Nat} (hm : m < L.length) : L.set m (L[m].1, L[m].2.1, L[m].2.2) = L := by
  have : (L[m].1, L[m].2.1, L[m].2.2) = L[m] := rfl
  rw [this, List.set_getElem_self]
theorem set_fst {L : List Sq} {m : Nat} (hm : m < L.length) (P : PM) : (L.set m (L[m].1, L[m].2.1, P)).map (·.1) = L.map (·.1) := by
  apply List.ext_getElem
  · simp
  · intro i h1 h2
    simp only [List.getElem_map, List.getElem_set]
    split
    · rename_i e; subst e; rfl
    · rfl
theorem clear_none {L : List Sq} {k : Nat} (hk : k < L.length) (h : ∀ j (hj : j < L.length), j < k → L[j].2.2 = fun _ => none) : ∀ j (hj : j < (L.set k (L[k].1, L[k].2.1, fun _ => none)).length), j < k + 1 → (L.set k (L[k].1, L[k].2.1, fun _ => none))[j].2.2 = fun _ => none := by
  intro j hj hjk
  rw [List.getElem_set]
  split
  · rfl
  · exact h j (by simpa using hj) (by omega)
theorem tot_none {L : List Sq} (h : ∀ j (hj : j < L.length), L[j].2.2 = fun _ => none) (f : Int) (hf : 0 ≤ f) : totS L f = 0 := by
  unfold totS
  have : ∀ x ∈ L, sh x.2.2 f = 0 := fun x hx => by
    obtain ⟨j, hj, rfl⟩ := List.mem_iff_getElem.1 hx
    rw [h j hj]; exact sh_empty hf
  clear h
  induction L with
  | nil => rfl
  | cons x r ih => simp [this x (by simp), ih (fun y hy => this y (by simp [hy]))]

theorem take_sum {L : List Sq} {k : Nat} (hk : k < L.length) : ((L.map fun x => resP x.2.2).take (k + 1)).sum = ((L.map fun x => resP x.2.2).take k).sum + resP L[k].2.2 := by
  rw [List.take_succ_eq_append_getElem (by simpa using hk), List.sum_append]; simp
theorem take_sum_le (L : List Sq) : ∀ k, ((L.map fun x => resP x.2.2).take k).sum ≤ 64 * k
  | 0 => by simp
  | k + 1 => by
    by_cases hk : k < L.length
    · rw [take_sum hk]; have := take_sum_le L k; have := resP_le L[k].2.2; omega
    · have := take_sum_le L k
      rw [List.take_of_length_le (by simp; omega)] at this ⊢; omega

set_option maxRecDepth 100000 in
set_option maxHeartbeats 16000000 in
theorem vframes_short (n : Int) (ad : Option Addr) (len cap : Nat) (q : Nat → Us) (ad2 : Option Addr) (len2 cap2 : Nat) (q2 : Nat → Int) (w : World) (hl : len ≤ 40) (hl2 : len2 ≤ 10) (hq : Uses w ad len q) (hq2 : Ints w ad2 len2 q2) (hg : w.cell? ⟨0, 0, none⟩ = some errT) :
    Calls Tryd.prog 3 #[.int .i64 n, .slice ad len cap, .slice ad2 len2 cap2] w fun e w' => e = .returned (.bool true) ∧ Below w.heap.size w w' := by
  have h1 : ¬ (40 : Int) < (len : Int) := by omega
  have h2 : ¬ (10 : Int) < (len2 : Int) := by omega
  have hgl : 0 < w.heap.size := World.block_lt_of_cell? w _ hg
  have hgw : ∀ w', Below w.heap.size w w' → w'.cell? ⟨0, 0, none⟩ = some errT := fun w' h => by rw [h.cell (p := ⟨0, 0, none⟩) hgl]; exact hg
  have hI : ∀ w', Below w.heap.size w w' → Ints w' ad2 len2 q2 := fun w' hb => by
    rcases hq2 with h | ⟨blk, off, e, hl, hc⟩
    · exact .inl h
    · refine .inr ⟨blk, off, e, Nat.lt_of_lt_of_le hl hb.size, fun i hi => ?_⟩
      rw [World.cell?_of_block (w := w) (a := ⟨blk, off + i, none⟩) (hb.block blk hl)]; exact hc i hi
  go_enter Tryd.func3, Tryd.ntmps3
  go_wp2_with fail
  refine (paged_ok _).mono ?_
  rintro e w1 ⟨rfl, b1⟩
  go_wp2_with fail
  refine (ppick_any _ n 20 (by omega) (by omega)).mono ?_
  rintro e w1' ⟨r, rfl, hr, hw⟩
  subst w1'
  have hN := newStore_ok w1 (1 + r) (by omega) (by omega)
  rw [show (((1 + r : Nat)) : Int) = 1 + (r : Int) by omega] at hN
  go_wp2_with fail
  refine hN.mono ?_
  rintro e w2 ⟨b, rfl, E, A0, rfl, hEn, v2, b2, o2, lb⟩
  go_wp2_with fail
  refine (newSpace_ok v2).mono ?_
  rintro e w3 ⟨c, rfl, gc, v3, b3, lc, lg⟩
  have s1 := b1.size
  have s2 := b2.size
  have s3 := b3.size
  have hB3 : Below w.heap.size w w3 := (b1.trans (b2.mono s1)).trans (b3.mono (by omega))
  have hF0 : FSt w E (w3.alloc (.cells #[vp c] 31)) (fun _ _ => 0) A0 [(c, gc, fun _ => none)] (.slice (some ⟨w3.heap.size, 0, none⟩) 1 1) [c] := by
    have a3 := Al.first v3
    have bA : Below w3.heap.size w3 (w3.alloc (.cells #[vp c] 31)) := (Below.refl _ w3).alloc (Nat.le_refl _) _
    refine ⟨a3.below bA, hB3.trans (bA.mono (by omega)), fun i hi ho => ?_, ⟨rfl, .inr ⟨w3.heap.size, 1, #[vp c], rfl, by omega, heap_new _ _, Nat.le_refl _, by decide, rfl, rfl⟩⟩, fun g hv ho => ?_⟩
    · rcases ho with ho | ⟨x, hx, rfl⟩
      · exact o2 i (by omega) ho
      · simp at hx; subst hx; simp only at hi; omega
    · cases hv
      have := a3.olt ho; simp only at this; omega
  clear hN v2 v3 o2 b1 b2 b3 lb lc lg hB3
  go_wp2_with fail
  go_loopg [10, 11] len (fun mm s10 s11 wr => ∃ (j : Nat) (L : List Sq) (D : Nat → Nat → Int) (A : Nat → Prop), j + mm = len ∧ s11 = .int .i64 (j : Int) ∧ 1 ≤ L.length ∧ L.length ≤ 4 ∧ FSt w E wr D A L s10 (L.map (·.1)))
  case atStart => exact ⟨0, _, _, _, by omega, rfl, by simp, by simp, hF0⟩
  case round =>
    clear hF0
    obtain ⟨j, L, D, A, hj, rfl, hL1, hL4, S⟩ := hrel
    by_cases hlt : (j : Int) < (len : Int)
    · rcases hq with h0 | ⟨blk, off, rfl, hbl, hqq⟩
      · exfalso; omega
      obtain ⟨c0, c1, c2, c3, c4, hok⟩ := hqq j (by omega)
      have hbw := S.bel
      have d0 : wr.cell? ⟨blk, off + j * 5, none⟩ = some (.int .i64 (q j).what) := by rw [hbw.cell (p := ⟨blk, off + j * 5, none⟩) hbl]; exact c0
      have d1 : wr.cell? ⟨blk, off + j * 5 + 1, none⟩ = some (.int .i64 (q j).at_) := by rw [hbw.cell (p := ⟨blk, off + j * 5 + 1, none⟩) hbl]; exact c1
      have d2 : wr.cell? ⟨blk, off + j * 5 + 2, none⟩ = some (.int .i64 (q j).n) := by rw [hbw.cell (p := ⟨blk, off + j * 5 + 2, none⟩) hbl]; exact c2
      have d3 : wr.cell? ⟨blk, off + j * 5 + 3, none⟩ = some (.int .i64 (q j).prot) := by rw [hbw.cell (p := ⟨blk, off + j * 5 + 3, none⟩) hbl]; exact c3
      have d4 : wr.cell? ⟨blk, off + j * 5 + 4, none⟩ = some (.int .i64 (q j).v) := by rw [hbw.cell (p := ⟨blk, off + j * 5 + 4, none⟩) hbl]; exact c4
      clear c0 c1 c2 c3 c4 hqq hbw
      generalize q j = x at *
      obtain ⟨W, X, Y, Z, V⟩ := x
      simp only at d0 d1 d2 d3 d4
      have hlm : (L.map (·.1)).length = L.length := by simp
      obtain ⟨g, cp, rfl, hcp, hgl', hread⟩ := S.read (by rw [hlm]; omega)
      obtain ⟨m, hm⟩ : ∃ m, j % L.length = m := ⟨_, rfl⟩
      have hml : m < L.length := by rw [← hm]; exact Nat.mod_lt _ (by omega)
      have hcm := hread m (by rw [hlm]; exact hml)
      rw [List.getElem_map] at hcm
      rw [hlm] at hcp
      have hL := S.al.left
      have hU := S.al.use_ok hml ⟨W, X, Y, Z, V⟩ hok
      obtain ⟨N0, hN0⟩ : ∃ N0, L.length = N0 := ⟨_, rfl⟩
      obtain ⟨cm, hcme⟩ : ∃ cm, L[m].1 = cm := ⟨_, rfl⟩
      rw [hlm, hN0]
      rw [hcme] at hcm
      have hS : FSt w E wr D A L (.slice (some ⟨g, 0, none⟩) N0 cp) (L.map (·.1)) := by rw [hlm, hN0] at S; exact S
      obtain ⟨LF, hLF⟩ := named (E.n - used (totS L) E.n)
      rw [hLF] at hL
      have hU' : Calls Tryd.prog 9 #[vp cm, Us.val ⟨W, X, Y, Z, V⟩] wr fun e w' => ∃ er P' D', UseR E.n L[m].2.2 (oth L m hml) D ⟨W, X, Y, Z, V⟩ er P' D' ∧ e = .returned (errV er) ∧ ATurn E wr A L w' D' (L.set m (L[m].1, L[m].2.1, P')) := by rw [← hcme]; exact hU
      have hmN : j % N0 = m := by rw [← hN0]; exact hm
      have hp0 : 0 < N0 := by omega
      have hml' : (m : Int) < (N0 : Int) := by omega
      have hcp' : N0 ≤ cp := by omega
      clear S hU hcp
      go_upto_region 19 with (first
        | (refine wpList_remn rfl (.tmp 66) (.tmp 68) _ rfl j N0 m rfl rfl hp0 hmN ?_)
        | (go_at_call 8; refine hL.mono ?_; rintro e w5 ⟨rfl, h5⟩; subst w5)
        | (go_at_call 9; refine hU'.mono ?_; rintro e w5 ⟨er, P', D', hr, rfl, t5⟩))
      obtain ⟨A5, S5⟩ := hS.turn t5
      rw [← set_fst hml P'] at S5
      obtain ⟨L1, hL1'⟩ : ∃ L1, L.set m (L[m].1, L[m].2.1, P') = L1 := ⟨_, rfl⟩
      have hl1 : L1.length = N0 := by rw [← hL1', ← hN0]; simp
      have hm1 : ∃ h1 : m < L1.length, L1[m].1 = cm := ⟨by rw [hl1]; omega, by subst hL1'; simp [hcme]⟩
      have hleft1 : er ≠ 0 → E.n - used (totS L1) E.n = LF := fun he => by
        rw [← hLF, ← hL1', (hr.refused he).1, set_same hml]
      have hfull : er = 12 → LF = 0 := fun he => by
        subst he
        have h12 := hr.full
        rw [used_congr (t' := totS L) (fun x _ => oth_add hml x)] at h12
        omega
      rw [hL1'] at S5
      clear hS t5 hL hU' hr d0 d1 d2 d3 d4 hcm hread hLF hL1' hm hmN hcme
      have hnz : (0 : Int) ≤ (LF : Int) := by omega
      go_cut [14, 101] (fun _ c wc => c = .bool false ∧ ∃ A2, FSt w E wc D' A2 L1 (.slice (some ⟨g, 0, none⟩) N0 cp) (L1.map (·.1)))
      case first =>
        have hT := fun wx (hb : Below w.heap.size w wx) => tell_any er wx (hgw wx hb)
        by_cases he : er = 0
        · subst he
          have hev : errV 0 = .nilIface := rfl
          rw [hev] at hT ⊢
          have hL6 := fun (wx : World) (Sx : FSt w E wx D' A5 L1 (.slice (some ⟨g, 0, none⟩) N0 cp) (L1.map (·.1))) => Sx.al.left
          clear hleft1 hfull
          go_wp2_with (first
            | (go_at_call 10; refine (hT _ S5.bel).mono ?_; rintro e w6 ⟨rfl, b6⟩; have S6 := S5.stay b6)
            | (go_at_call 8; refine (hL6 _ S6).mono ?_; rintro e w7 ⟨rfl, h7⟩; subst w7))
          go_meet
          case rel => exact ⟨by simp, A5, S6⟩
        · have hev : errV er = enr er := by unfold errV; rw [if_neg he]
          rw [hev] at hT ⊢
          have hlf := hleft1 he
          have hL6 : ∀ (wx : World), FSt w E wx D' A5 L1 (.slice (some ⟨g, 0, none⟩) N0 cp) (L1.map (·.1)) → Calls Tryd.prog 8 #[vp E.b] wx fun e w' => e = .returned (.int .i64 (LF : Int)) ∧ w' = wx := fun wx Sx => by
            have := Sx.al.left; rw [hlf] at this; exact this
          by_cases h12 : er = 12
          · have h0 := hfull h12
            subst h12
            subst h0
            clear hleft1 hfull hlf
            go_wp2_with (first
              | (go_at_call 8; refine (hL6 _ S6).mono ?_; rintro e w7 ⟨rfl, h7⟩; subst w7)
              | (go_at_call 8; refine (hL6 _ S5).mono ?_; rintro e w7 ⟨rfl, h7⟩; subst w7)
              | (go_at_call 10; refine (hT _ S5.bel).mono ?_; rintro e w6 ⟨rfl, b6⟩; have S6 := S5.stay b6))
            go_meet
            case rel => exact ⟨by simp, A5, S6⟩
          · clear hleft1 hfull hlf
            go_wp2_with (first
              | (go_at_call 8; refine (hL6 _ S6).mono ?_; rintro e w7 ⟨rfl, h7⟩; subst w7)
              | (go_at_call 8; refine (hL6 _ S5).mono ?_; rintro e w7 ⟨rfl, h7⟩; subst w7)
              | (go_at_call 10; refine (hT _ S5.bel).mono ?_; rintro e w6 ⟨rfl, b6⟩; have S6 := S5.stay b6))
            go_meet
            case rel => exact ⟨by simp, A5, S6⟩
      case rest =>
        obtain ⟨rfl, A2, S2⟩ := hcut
        generalize wc = wA at *
        clear hleft1 hfull S5
        have hC := contains_any (cap := cap2) (hI wA S2.bel) (by omega) (j : Int)
        obtain ⟨hm1l, hm1e⟩ := hm1
        go_upto_region 21 with fail
        go_cut [109] (fun c wd => ∃ t : Bool, c = .bool t ∧ (t = true → N0 < 4) ∧ wd = wA)
        case first =>
          go_wp2_with fail
          refine hC.mono ?_
          rintro e w6 ⟨bb, rfl, h6⟩
          subst w6
          cases bb with
          | false =>
            go_wp2_with fail
            go_meet
            case rel => exact ⟨false, rfl, fun h => (by cases h), rfl⟩
          | true =>
            by_cases h4 : (N0 : Int) < 4
            · go_wp2_with fail
              go_meet
              case rel => exact ⟨true, rfl, fun _ => by omega, rfl⟩
            · go_wp2_with fail
              go_meet
              case rel => exact ⟨false, by rw [decide_eq_false (by omega)], fun h => (by cases h), rfl⟩
        case rest =>
          obtain ⟨t, rfl, ht4, hwd⟩ := hcut
          subst hwd
          clear hC
          go_upto_if 109 with fail
          go_cut [10, 15, 16] (fun s10 _ _ wd => ∃ (L2 : List Sq) (A3 : Nat → Prop), 1 ≤ L2.length ∧ L2.length ≤ 4 ∧ FSt w E wd D' A3 L2 s10 (L2.map (·.1)))
          case first =>
            cases t with
            | false =>
              go_wp2_with fail
              go_meet
              case rel => exact ⟨L1, A2, by omega, by omega, S2⟩
            | true =>
              have h4 := ht4 rfl
              have hLa := S2.al.left
              have hFk := S2.al.fork_ok (by omega) hm1l
              rw [hm1e] at hFk
              obtain ⟨Pm, hPm⟩ : ∃ Pm, L1[m].2.2 = Pm := ⟨_, rfl⟩
              rw [hPm] at hFk
              have hmem : L1[m] ∈ L1 := List.getElem_mem hm1l
              have husd : ∀ c' gc', used (totS (L1 ++ [(c', gc', Pm)])) E.n = used (totS L1) E.n := fun c' gc' => used_iff (fun x hx => by
                have h1 := totS_app L1 (c', gc', Pm) x
                have h2 := totS_at hm1l x
                simp only at h1
                rw [← hPm] at h1 ⊢
                omega)
              obtain ⟨LA, hLA⟩ := named (E.n - used (totS L1) E.n)
              rw [hLA] at hLa
              obtain ⟨i0, hi, hz0, hz1, hz2⟩ := info_parts (P := Tryd.prog) (e := 31) (z := .pointer none) (size := 1) (bytes := 8) (by kernel_rfl)
              go_wp2_with (go_at_call 8; refine hLa.mono ?_; rintro e w5 ⟨rfl, h5⟩; subst w5)
              refine hFk.mono ?_
              rintro e w6 ⟨c', rfl, gc', t6, lc'⟩
              obtain ⟨A6, S6⟩ := S2.turn t6
              have hLb := S6.al.left
              rw [husd, hLA] at hLb
              have bA : Below w6.heap.size w6 (w6.alloc (.cells #[vp c'] 31)) := (Below.refl _ w6).alloc (Nat.le_refl _) _
              have S6a := S6.stay bA
              have hnews : ∀ j u, ([vp c'] : List Value)[j]? = some u → (w6.alloc (.cells #[vp c'] 31)).cell? ((⟨w6.heap.size, 0, none⟩ : Addr).add j) = some u := by
                intro j u hu
                match j, hu with
                | 0, hu => cases hu; simp [Addr.add]
                | j + 1, hu => simp at hu
              have hrow := S6a.row
              have hlm1 : (L1.map (·.1)).length = N0 := by simp [hl1]
              rw [hlm1] at hrow
              have h63 : N0 + 1 ≤ maxLen := by unfold maxLen; omega
              have hby : (N0 + 1) * 8 ≤ 140737488355328 := by omega
              have hbase : w.heap.size ≤ (w6.alloc (.cells #[vp c'] 31)).heap.size := S6a.bel.size
              have h1c : ∀ u ∈ ([vp c'] : List Value), u.oneCell' = true := by intro u hu; rw [List.mem_singleton] at hu; rw [hu]; rfl
              clear hLa hFk husd hLA t6 S6 S2
              go_wp2_with (first
                | (go_at_call 8; refine hLb.mono ?_; rintro e w5 ⟨rfl, h5⟩; subst w5)
                | (at_builtin; refine wpList_append_own_at _ rfl _ _ 34 rfl w.heap.size 31 i0 (.pointer none) 1 8 Tryd.underlying34 hi hz0 hz1 hz2 rfl (by decide) _ _ _ rfl hrow ⟨w6.heap.size, 0, none⟩ 1 1 [vp c'] rfl rfl hnews h1c h63 hby hbase ?_; intro v7 w7 ho7 hg7 hnil7 hv7))
              go_meet
              case rel =>
                have S7 := S6a.push (by rw [hlm1]; exact hp0) hg7 (by rw [hlm1]; exact ho7) hv7
                refine ⟨L1 ++ [(c', gc', Pm)], A6, by simp, by simp; omega, ?_⟩
                rw [List.map_append]; exact S7
          case rest =>
            obtain ⟨L2, A3, hL21, hL24, S3⟩ := hcut
            generalize wc = wB at *
            clear S2 ht4 hm1l hm1e hl1
            have hlm2 : (L2.map (·.1)).length = L2.length := by simp
            obtain ⟨g3, cp3, hv3, hcp3, hgl3, hread3⟩ := S3.read (by rw [hlm2]; omega)
            subst hv3
            obtain ⟨hua, hub⟩ := res_all S3.al
            have hul := used_le (totS L2) E.n
            have hLc := S3.al.left
            obtain ⟨U, hU⟩ := named (used (totS L2) E.n)
            rw [hU] at hua hub hul hLc
            obtain ⟨N2, hN2⟩ : ∃ N2, L2.length = N2 := ⟨_, rfl⟩
            rw [hlm2, hN2]
            obtain ⟨G, hG⟩ : ∃ G, gk = G := ⟨_, rfl⟩
            rw [hG] at hj
            go_wp2_with fail
            go_loopg [17, 18, 19] N2 (fun mm s17 s18 s19 wi => ∃ k M : Nat, k + mm = N2 ∧ s19 = .int .i64 (k : Int) ∧ s17 = .int .i64 (M : Int) ∧ M ≤ U ∧ s18 = .int .i64 ((((L2.map fun x => resP x.2.2).take k).sum : Nat) : Int) ∧ Below wB.heap.size wB wi)
            case atStart => exact ⟨0, 0, by omega, rfl, rfl, by omega, rfl, Below.refl _ _⟩
            case round =>
              obtain ⟨k, M, hk, rfl, rfl, hM, rfl, hbi⟩ := hrel
              by_cases hlk : (k : Int) < (N2 : Int)
              · have hkl : k < L2.length := by omega
                obtain ⟨ck, hck⟩ : ∃ ck, L2[k].1 = ck := ⟨_, rfl⟩
                obtain ⟨rk, hrk⟩ := named (resP L2[k].2.2)
                have hru := hub L2[k] (List.getElem_mem hkl)
                rw [hrk] at hru
                have hc0 : wr.cell? ⟨g3, k, none⟩ = some (vp ck) := by
                  rw [hbi.cell (p := ⟨g3, k, none⟩) hgl3, hread3 k (by rw [hlm2]; exact hkl), List.getElem_map, hck]
                have hRes : ∀ wx, Below wB.heap.size wB wx → Calls Tryd.prog 13 #[vp ck] wx fun e w' => e = .returned (.int .i64 (rk : Int)) ∧ Below wB.heap.size wB w' ∧ w'.cell? ⟨g3, k, none⟩ = some (vp ck) := fun wx hbx => by
                  have hr := ((S3.stay hbx).al.sp k hkl).sp.resident
                  rw [hck, hrk] at hr
                  refine hr.mono ?_
                  rintro e w' ⟨he, hb'⟩
                  have hb2 := hbx.trans (hb'.mono hbx.size)
                  exact ⟨he, hb2, by rw [hb2.cell (p := ⟨g3, k, none⟩) hgl3, hread3 k (by rw [hlm2]; exact hkl), List.getElem_map, hck]⟩
                have hs1 := take_sum hkl
                have hs0 := take_sum_le L2 k
                rw [hrk] at hs1
                generalize ((L2.map fun x => resP x.2.2).take k).sum = S0 at *
                have hcp4 : N2 ≤ cp3 := by omega
                have hrk64 : rk ≤ 64 := by rw [← hrk]; exact resP_le _
                have HS := hide hs1
                have hS0 : S0 ≤ 256 := by omega
                have hN24 : N2 ≤ 4 := by omega
                obtain ⟨M2, hM2⟩ := named (max M rk)
                have hM2U : Hid (M2 ≤ U) := hide (by omega)
                clear hread3 hub hua hLc hs1 hs0 hrk hck hru hU hul hkl hN2 hcp3 hlm2 hL21 hL24 hM hgl3 S3 hG
                go_wp2_with (first
                  | (go_at_call 13; refine (hRes _ hbi).mono ?_; rintro e w8 ⟨rfl, b8, c8⟩)
                  | (go_at_call 13; refine (hRes _ b8).mono ?_; rintro e w9 ⟨rfl, b9, c9⟩)
                  | (at_builtin; refine wpList_maxn rfl (.tmp 132) (.tmp 137) _ rfl M rk M2 rfl rfl hM2 ?_))
                go_roundg (N2 - (k + 1))
                case measure => omega
                case rel => exact ⟨k + 1, M2, by omega, by go_num, by first | rfl | (congr 1; omega), hM2U.out, by rw [HS.out]; go_num, b9⟩
              · have hkN : k = N2 := by omega
                have htk : ((L2.map fun x => resP x.2.2).take k).sum = (L2.map fun x => resP x.2.2).sum := by rw [List.take_of_length_le (by simp; omega)]
                have hs0 := take_sum_le L2 k
                rw [← htk] at hua
                generalize ((L2.map fun x => resP x.2.2).take k).sum = S0 at *
                have Sx := S3.stay hbi
                rw [hlm2, hN2] at Sx
                have hLd := Sx.al.left
                rw [hU] at hLd
                obtain ⟨LC, hLC⟩ := named (E.n - U)
                rw [hLC] at hLd
                have hLCU : (LC : Int) + (U : Int) = 1 + (r : Int) := by omega
                have hS0 : S0 ≤ 256 := by omega
                clear hread3 hub hLc hs0 hU hul hcp3 hlm2 hgl3 S3 htk
                go_wp2_with (go_at_call 8; refine hLd.mono ?_; rintro e w8 ⟨rfl, h8⟩; subst w8)
                go_roundg (len - (j + 1))
                case measure => omega
                case rel => exact ⟨j + 1, L2, D', A3, by omega, by go_num, hL21, hL24, Sx⟩
    · have hlm : (L.map (·.1)).length = L.length := by simp
      obtain ⟨g, cp, rfl, hcp, hgl', _⟩ := S.read (by rw [hlm]; omega)
      obtain ⟨N0, hN0⟩ := named L.length
      rw [hlm, hN0]
      rw [hlm, hN0] at S hcp
      go_wp2_with fail
      go_loopg [21] N0 (fun mm s21 wi => ∃ (k : Nat) (L2 : List Sq) (A2 : Nat → Prop), k + mm = N0 ∧ s21 = .int .i64 (k : Int) ∧ L2.length = N0 ∧ L2.map (·.1) = L.map (·.1) ∧ (∀ i (hi : i < L2.length), i < k → L2[i].2.2 = fun _ => none) ∧ FSt w E wi D A2 L2 (.slice (some ⟨g, 0, none⟩) N0 cp) (L.map (·.1)))
      case atStart => exact ⟨0, L, A, by omega, rfl, hN0, rfl, fun i hi h => absurd h (by omega), S⟩
      case round =>
        obtain ⟨k, L2, A2, hk, rfl, hl2', hmap, hnone, S2⟩ := hrel
        by_cases hlk : (k : Int) < (N0 : Int)
        · have hkl : k < L2.length := by omega
          have hC := S2.al.clear_ok hkl
          obtain ⟨g2, cp2, hv2, _, _, hread2⟩ := S2.read (by rw [hlm]; omega)
          have hg2 : g2 = g := by
            simp only [Value.slice.injEq, Option.some.injEq, Addr.mk.injEq] at hv2
            exact hv2.1.1.symm
          clear hv2
          subst g2
          have hck : (L.map (·.1))[k]'(by rw [hlm]; omega) = L2[k].1 := by
            have : (L2.map (·.1))[k]'(by simpa using hkl) = L2[k].1 := by simp
            rw [← this]; congr 1; exact hmap.symm
          have hc0 := hread2 k (by rw [hlm]; omega)
          rw [hck] at hc0
          obtain ⟨ck, hcke⟩ : ∃ ck, L2[k].1 = ck := ⟨_, rfl⟩
          rw [hcke] at hc0
          have hC' : Calls Tryd.prog 14 #[vp ck] wr fun e w' => e = .returned (.tuple #[]) ∧ ATurn E wr A2 L2 w' D (L2.set k (L2[k].1, L2[k].2.1, fun _ => none)) := by rw [← hcke]; exact hC
          clear hC hread2
          go_wp2_with (go_at_call 14; refine hC'.mono ?_; rintro e w8 ⟨rfl, t8⟩)
          obtain ⟨A3, S3⟩ := S2.turn t8
          go_roundg (N0 - (k + 1))
          case measure => omega
          case rel => exact ⟨k + 1, _, A3, by omega, by go_num, by simpa using hl2', by rw [set_fst hkl]; exact hmap, clear_none hkl hnone, S3⟩
        · have hLd := S2.al.left
          have hu0 : used (totS L2) E.n = 0 := by
            rw [used_congr (t' := fun _ => 0) (fun x hx => tot_none (fun i hi => hnone i hi (by omega)) x hx)]; exact used_zero _
          rw [hu0, Nat.sub_zero, hEn] at hLd
          rw [show (((1 + r : Nat)) : Int) = 1 + (r : Int) by omega] at hLd
          have hbel := S2.bel
          clear S2 hnone hmap hu0
          go_wp2_with (go_at_call 8; refine hLd.mono ?_; rintro e w8 ⟨rfl, h8⟩; subst w8)
          go_ret
          exact ⟨by simp, hbel⟩
end Go.Proofs.YtemomohijidmpabDoor
