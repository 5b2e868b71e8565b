/- ProcPlays: the walk of its Go text. -/
import Derived.Test.YtidinhbokkelnabDoorJPlays0
import Derived.Deep.LoopGhost
import Derived.Deep.DeepCutAuto
import Derived.Deep.Light
import Derived.Deep.RegionHeld3
import Derived.WalkSmall
import Derived.Deep.CutBlock
namespace Go.Proofs.YtidinhbokkelnabDoor
open Go.RowKit Go.Maps Go.Sort

/-- One item of the script. -/
structure JItem where
  what : Int
  pid : Int
  n : Int
  yes : Bool
/-- The items lie in the argument's array. -/
def JScript (w : World) (ad : Option Addr) (len : Nat) (q : Nat → JItem) : Prop :=
  len = 0 ∨ ∃ blk off, ad = some ⟨blk, off, none⟩ ∧ blk < w.heap.size ∧ ∀ i, i < len →
    w.cell? ⟨blk, off + i * 4, none⟩ = some (.int .i64 (q i).what) ∧ w.cell? ⟨blk, off + i * 4 + 1, none⟩ = some (.int .i64 (q i).pid) ∧ w.cell? ⟨blk, off + i * 4 + 2, none⟩ = some (.int .i64 (q i).n) ∧ w.cell? ⟨blk, off + i * 4 + 3, none⟩ = some (.bool (q i).yes) ∧ (Lit.int .i64 (q i).pid).wf = true
set_option maxRecDepth 100000 in
set_option maxHeartbeats 1000000 in
theorem jplays_long (ad : Option Addr) (len cap : Nat) (w : World) (h : 80 < len) :
    Calls Tryd.prog 8 #[.slice ad len cap] w fun e w' => e = .returned (.bool true) ∧ Below w.heap.size w w' := by
  have h1 : (80 : Int) < (len : Int) := by omega
  go_enter Tryd.func8, Tryd.ntmps8
  go_wp2_with fail
  go_ret
  exact ⟨rfl, Below.refl _ _⟩
theorem table_ne (b : Nat) (w : World) : (binOp BinOp.eql 93 (wp b) (.pointer none)).run Tryd.prog w = .ok (.bool false) w := by kernel_rfl
set_option maxRecDepth 100000 in
set_option maxHeartbeats 16000000 in
theorem jplays_short (ad : Option Addr) (len cap : Nat) (q : Nat → JItem) (w : World) (h1 : len ≤ 80) (hsc : JScript w ad len q) (hg : w.cell? ⟨0, 0, none⟩ = some errT) (hT : Tab64 w) :
    Calls Tryd.prog 8 #[.slice ad len cap] w fun e w' => e = .returned (.bool true) ∧ Below w.heap.size w w' := by
  have h1' : ¬ (80 : Int) < (len : Int) := by omega
  have hgl : 0 < w.heap.size := World.block_lt_of_cell? w _ hg
  have hgw : ∀ w', Below w.heap.size w w' → w'.cell? ⟨0, 0, none⟩ = some errT := fun w' h => by rw [h.cell (p := ⟨0, 0, none⟩) hgl]; exact hg
  have hN := JL.first w
  have hne := table_ne
  have HGW : Aside _ := hgw
  have HTT : Aside (Tab64 w) := hT
  clear hgw hT
  go_enter Tryd.func8, Tryd.ntmps8
  go_wp2_with (first
    | (go_at_call 50; refine hN.mono ?_; rintro e w1 ⟨t, rfl, hN2⟩)
    | (go_at_call 51; refine hN2.mono ?_; rintro e w2 ⟨g, r, rfl, hJ⟩))
  clear hN
  go_loopg [5] len (fun k s5 wr => ∃ (j : Nat) (P : Ps), j + k = len ∧ s5 = .int .i64 j ∧ JL w t g r wr P P)
  case atStart => exact ⟨0, firstJ, by omega, rfl, hJ⟩
  case round =>
    clear hJ
    obtain ⟨j, P, hj, rfl, hJ⟩ := hrel
    by_cases hlt : (j : Int) < (len : Int)
    · rcases hsc with h0 | ⟨blk, off, rfl, hbl, hss⟩
      · exfalso; omega
      obtain ⟨c0, c1, c2, c3, hwf⟩ := hss j (by omega)
      have hB := hJ.bel
      have d0 : wr.cell? ⟨blk, off + j * 4, none⟩ = some (.int .i64 (q j).what) := by rw [hB.cell (p := ⟨blk, off + j * 4, none⟩) hbl]; exact c0
      have d1 : wr.cell? ⟨blk, off + j * 4 + 1, none⟩ = some (.int .i64 (q j).pid) := by rw [hB.cell (p := ⟨blk, off + j * 4 + 1, none⟩) hbl]; exact c1
      have d2 : wr.cell? ⟨blk, off + j * 4 + 2, none⟩ = some (.int .i64 (q j).n) := by rw [hB.cell (p := ⟨blk, off + j * 4 + 2, none⟩) hbl]; exact c2
      have d3 : wr.cell? ⟨blk, off + j * 4 + 3, none⟩ = some (.bool (q j).yes) := by rw [hB.cell (p := ⟨blk, off + j * 4 + 3, none⟩) hbl]; exact c3
      clear c0 c1 c2 c3 hss
      generalize (q j).what = W at *
      generalize (q j).pid = X at *
      generalize (q j).n = Y at *
      generalize (q j).yes = Z at *
      have S0 := hJ.box #[.int .i64 W, .int .i64 X, .int .i64 Y, .bool Z]
      go_upto_block 2 with fail
      obtain ⟨x, hx⟩ : ∃ x, wr.heap.size = x := ⟨_, rfl⟩
      obtain ⟨w2, hw2⟩ : ∃ w2, wr.alloc (.cells #[.int .i64 W, .int .i64 X, .int .i64 Y, .bool Z] 98) = w2 := ⟨_, rfl⟩
      rw [hw2, hx] at S0
      rw [hw2, hx]
      clear hw2 hx d0 d1 d2 d3 hB hJ
      obtain ⟨ys, hys⟩ : ∃ ys : Array Value, #[.int .i64 W, .int .i64 X, .int .i64 Y, .bool Z] = ys := ⟨_, rfl⟩
      have z0 := (S0.cell 0).trans (show (#[.int .i64 W, .int .i64 X, .int .i64 Y, .bool Z] : Array Value)[0]? = some (.int .i64 W) from rfl)
      have KK : Aside (∀ (V : World) (P P' : Ps), JJ w x ys t g r V P P' → V.cell? ⟨x, 1, none⟩ = some (.int .i64 X) ∧ V.cell? ⟨x, 2, none⟩ = some (.int .i64 Y) ∧ V.cell? ⟨x, 3, none⟩ = some (.bool Z)) := fun V _ _ S' => by
        rw [S'.cell 1, S'.cell 2, S'.cell 3, ← hys]; exact ⟨rfl, rfl, rfl⟩
      rw [hys] at S0
      clear hys
      obtain ⟨z1, z2, z3⟩ := KK.out _ _ _ S0
      go_cut [7, 8, 9, 10, 11, 12, 35, 51, 65, 83, 97, 115] (fun s7 s8 s9 s10 s11 s12 _ _ _ _ _ _ wc => ∃ (P' : Ps) (n m E : Int), s7 = .int .i64 n ∧ s8 = .int .i64 n ∧ s9 = .int .i64 m ∧ s10 = .int .i64 m ∧ s11 = uev E ∧ s12 = .int .i64 E ∧ JJ w x ys t g r wc P' P')
      case first =>
        by_cases hW0 : W = 0
        · subst hW0
          as_aux_lemma =>
            have hA := S0.forkA X hwf
            generalize hK : forkK P X (cnJ P) = kk at *
            generalize hE : forkE P X (cnJ P) = ee at *
            have hD := fun V (S' : JJ w x ys t g r V (forkQ P X (cnJ P)) P) => S'.forkD X hwf
            simp only [hK, hE] at hD
            clear hK hE
            generalize forkQ P X (cnJ P) = P1 at *
            go_wp2_with (first
              | (go_at_call 53; refine (hD _ S1).mono ?_; rintro e w6 ⟨rfl, S2⟩)
              | (go_at_call 52; refine hA.mono ?_; rintro e w5 ⟨rfl, S1⟩; obtain ⟨y1, y2, y3⟩ := KK.out _ _ _ S1))
            go_meet
            case rel => exact ⟨P1, kk, 0, ee, rfl, rfl, rfl, rfl, rfl, rfl, S2⟩
        · by_cases hW1 : W = 1
          · subst hW1
            as_aux_lemma =>
              have hA := fun V (S' : JJ w x ys t g r V P P) => S'.exitA X Y hwf
              generalize hE : exitE P X = ee at *
              have hD := fun V (S' : JJ w x ys t g r V (if ee = 0 then exitP P X Y else P) P) => S'.exitD X Y hwf
              simp only [hE] at hD
              clear hE
              generalize (if ee = 0 then exitP P X Y else P) = P1 at *
              go_upto_region 18 with fail
              go_region_held3 (fun w' => w'.cell? ⟨x, 1, none⟩ = some (.int .i64 X) ∧ w'.cell? ⟨x, 2, none⟩ = some (.int .i64 Y)) (first | exact ⟨y1, y2⟩ | exact ⟨z1, z2⟩) (first
                | (go_at_call 54; refine (hA _ (by exact S0.stay ⟨rfl, rfl, rfl, Nat.le_refl _, fun _ _ => rfl⟩)).mono ?_; rintro e w5 ⟨rfl, S1⟩; obtain ⟨y1, y2, y3⟩ := KK.out _ _ _ S1)
                | (go_at_call 55; refine (hD _ S1).mono ?_; rintro e w6 ⟨rfl, S2⟩; obtain ⟨y1, y2, y3⟩ := KK.out _ _ _ S2))
              all_goals
                go_wp2_with fail
                go_meet
                case rel => exact ⟨P1, 0, 0, ee, rfl, rfl, rfl, rfl, rfl, rfl, S2⟩
          · by_cases hW2 : W = 2
            · subst hW2
              as_aux_lemma =>
                have hA := S0.waitA X hwf
                have hD := fun V (S' : JJ w x ys t g r V (waitO P X).2.2.2 P) => S'.waitD X hwf
                generalize (waitO P X).2.2.2 = P1 at *
                generalize (waitO P X).1 = kk at *
                generalize (waitO P X).2.1 = mm at *
                generalize (waitO P X).2.2.1 = ee at *
                go_wp2_with (first
                  | (go_at_call 57; refine (hD _ S1).mono ?_; rintro e w6 ⟨rfl, S2⟩)
                  | (go_at_call 56; refine hA.mono ?_; rintro e w5 ⟨rfl, S1⟩; obtain ⟨y1, y2, y3⟩ := KK.out _ _ _ S1))
                go_meet
                case rel => exact ⟨P1, kk, mm, ee, rfl, rfl, rfl, rfl, rfl, rfl, S2⟩
            · by_cases hW3 : W = 3
              · subst hW3
                as_aux_lemma =>
                  have hA := fun V (S' : JJ w x ys t g r V P P) => S'.killA X Y hwf
                  generalize hE : killE P X Y = ee at *
                  have hD := fun V (S' : JJ w x ys t g r V (if ee = 0 then killP P X Y else P) P) => S'.killD X Y hwf
                  simp only [hE] at hD
                  clear hE
                  generalize (if ee = 0 then killP P X Y else P) = P1 at *
                  go_upto_region 23 with fail
                  go_region_held3 (fun w' => w'.cell? ⟨x, 1, none⟩ = some (.int .i64 X) ∧ w'.cell? ⟨x, 2, none⟩ = some (.int .i64 Y)) (first | exact ⟨y1, y2⟩ | exact ⟨z1, z2⟩) (first
                    | (go_at_call 58; refine (hA _ (by exact S0.stay ⟨rfl, rfl, rfl, Nat.le_refl _, fun _ _ => rfl⟩)).mono ?_; rintro e w5 ⟨rfl, S1⟩; obtain ⟨y1, y2, y3⟩ := KK.out _ _ _ S1)
                    | (go_at_call 59; refine (hD _ S1).mono ?_; rintro e w6 ⟨rfl, S2⟩; obtain ⟨y1, y2, y3⟩ := KK.out _ _ _ S2))
                  all_goals
                    go_wp2_with fail
                    go_meet
                    case rel => exact ⟨P1, 0, 0, ee, rfl, rfl, rfl, rfl, rfl, rfl, S2⟩
              · by_cases hW4 : W = 4
                · subst hW4
                  as_aux_lemma =>
                    have hA := fun V (S' : JJ w x ys t g r V P P) => S'.ignoreA X Y Z hwf
                    generalize hE : ignoreE P X Y = ee at *
                    have hD := fun V (S' : JJ w x ys t g r V (if ee = 0 then ignoreP P X Y Z else P) P) => S'.ignoreD X Y Z hwf
                    simp only [hE] at hD
                    clear hE
                    generalize (if ee = 0 then ignoreP P X Y Z else P) = P1 at *
                    go_upto_region 25 with fail
                    go_region_held3 (fun w' => w'.cell? ⟨x, 1, none⟩ = some (.int .i64 X) ∧ w'.cell? ⟨x, 2, none⟩ = some (.int .i64 Y) ∧ w'.cell? ⟨x, 3, none⟩ = some (.bool Z)) (first | exact ⟨y1, y2, y3⟩ | exact ⟨z1, z2, z3⟩) (first
                      | (go_at_call 60; refine (hA _ (by exact S0.stay ⟨rfl, rfl, rfl, Nat.le_refl _, fun _ _ => rfl⟩)).mono ?_; rintro e w5 ⟨rfl, S1⟩; obtain ⟨y1, y2, y3⟩ := KK.out _ _ _ S1)
                      | (go_at_call 61; refine (hD _ S1).mono ?_; rintro e w6 ⟨rfl, S2⟩; obtain ⟨y1, y2, y3⟩ := KK.out _ _ _ S2))
                    all_goals
                      go_wp2_with fail
                      go_meet
                      case rel => exact ⟨P1, 0, 0, ee, rfl, rfl, rfl, rfl, rfl, rfl, S2⟩
                · by_cases hW5 : W = 5
                  · subst hW5
                    as_aux_lemma =>
                      have hA := fun V (S' : JJ w x ys t g r V P P) => S'.takeA HTT.out X hwf
                      have hD := fun V (S' : JJ w x ys t g r V (takeP P X) P) => S'.takeD X hwf
                      generalize takeP P X = P1 at *
                      generalize takeS P X = kk at *
                      go_upto_region 27 with fail
                      go_region_held3 (fun w' => w'.cell? ⟨x, 1, none⟩ = some (.int .i64 X)) (first | exact y1 | exact z1) (first
                        | (go_at_call 62; refine (hA _ (by exact S0.stay ⟨rfl, rfl, rfl, Nat.le_refl _, fun _ _ => rfl⟩)).mono ?_; rintro e w5 ⟨rfl, S1⟩; obtain ⟨y1, y2, y3⟩ := KK.out _ _ _ S1)
                        | (go_at_call 63; refine (hD _ S1).mono ?_; rintro e w6 ⟨rfl, S2⟩; obtain ⟨y1, y2, y3⟩ := KK.out _ _ _ S2))
                      all_goals
                        go_wp2_with fail
                        go_meet
                        case rel => exact ⟨P1, kk, 0, 0, rfl, rfl, rfl, rfl, rfl, rfl, S2⟩
                  · as_aux_lemma =>
                      have q0 : (W == 0) = false := by simp [hW0]
                      have q1 : (W == 1) = false := by simp [hW1]
                      have q2 : (W == 2) = false := by simp [hW2]
                      have q3 : (W == 3) = false := by simp [hW3]
                      have q4 : (W == 4) = false := by simp [hW4]
                      have q5 : (W == 5) = false := by simp [hW5]
                      go_wp2_with fail
                      go_meet
                      case rel => exact ⟨P, 0, 0, 0, rfl, rfl, rfl, rfl, rfl, rfl, S0⟩
      case rest =>
        clear S0 z0 z1 z2 z3
        obtain ⟨P', n, m, E, rfl, rfl, rfl, rfl, rfl, rfl, S0⟩ := hcut
        clear P
        have hPd := S0.pidsD
        have hlen := pidsJ_len P'
        obtain ⟨vR, hvR⟩ : ∃ v, uev (if runsJ P' X = true then 0 else 7) = v := ⟨_, rfl⟩
        have heR := runsV (runsJ P' X)
        have heG := runsG (runsJ P' X) 152
        rw [hvR] at heR heG
        go_upto_region 29 with (go_at_call 64; refine hPd.mono ?_; rintro e w5 ⟨b, cap2, rfl, hcap, hbl2, hcc, hb5⟩)
        have B0 : JB w x ys t g r P' w5 w5 := ⟨S0.stay hb5, Below.refl _ _⟩
        clear hPd S0 hb5
        have hBa := fun V (S' : JB w x ys t g r P' w5 V) => S'.bare E HGW.out
        have hPi := fun V (S' : JB w x ys t g r P' w5 V) => S'.pids
        have hSa := fun V a c2 (S' : JB w x ys t g r P' w5 V) ha => S'.same (a := a) (b := b) (cap := c2) (cap' := cap2) ha hbl2 hcc
        have hRA := fun V (S' : JB w x ys t g r P' w5 V) => S'.runsA X hwf
        rw [hvR] at hRA
        have hRD := fun V (S' : JB w x ys t g r P' w5 V) => S'.runsD X hwf
        have hcel : ∀ V, JB w x ys t g r P' w5 V → V.cell? ⟨x, 1, none⟩ = some (.int .i64 X) := fun V S' => (KK.out _ _ _ S'.st).1
        have z1 := hcel _ B0
        have HCL : Aside _ := hcel
        have HCC : Aside (∀ j (hj : j < (pidsJ P').length), w5.cell? ⟨b, j, none⟩ = some (.int .i64 (pidsJ P')[j])) := hcc
        clear hcel hvR hcc
        generalize runsJ P' X = ρ at *
        generalize hL : pidsJ P' = L at *
        have HLL : Aside (pidsJ P' = L) := hL
        clear hL
        go_cut [159] (fun s159 wc => s159 = .bool false ∧ JB w x ys t g r P' w5 wc)
        case first =>
          go_region_held3 (fun w' => w'.cell? ⟨x, 1, none⟩ = some (.int .i64 X)) (first | exact y1 | exact z1) (first
            | (go_at_call 20; refine (hBa _ (by exact B0.stay ⟨rfl, rfl, rfl, Nat.le_refl _, fun _ _ => rfl⟩)).mono ?_; rintro e w6 ⟨rfl, B1⟩; have y1 := HCL.out _ B1)
            | (go_at_call 66; refine (hPi _ B1).mono ?_; rintro e w7 ⟨a, c2, rfl, ha, B2⟩; have y1 := HCL.out _ B2)
            | (go_at_call 65; refine (hSa _ a c2 B2 ha).mono ?_; rintro e w8 ⟨rfl, B3⟩; have y1 := HCL.out _ B3)
            | (go_at_call 67; refine (hRA _ B3).mono ?_; rintro e w9 ⟨rfl, B4⟩; have y1 := HCL.out _ B4)
            | (go_at_call 68; refine (hRD _ B4).mono ?_; rintro e w10 ⟨rfl, B5⟩; have y1 := HCL.out _ B5))
          all_goals
            go_wp2_with fail
            go_meet
            case rel => exact ⟨rfl, B5⟩
        case rest =>
          clear hBa hPi hSa hRA hRD heR heG
          obtain ⟨rfl, B1⟩ := hcut
          generalize wc = wB at *
          clear z1
          obtain ⟨G0, hG0⟩ : ∃ G0, gk = G0 := ⟨_, rfl⟩
          go_wp2_with fail
          go_loopg [14] L.length (fun mm s14 wr => ∃ i : Nat, i + mm = L.length ∧ s14 = .int .i64 (i : Int) ∧ JB w x ys t g r P' w5 wr)
          case atStart => exact ⟨0, by omega, rfl, B1⟩
          case round =>
            clear B1
            obtain ⟨i, hi, rfl, B1⟩ := hrel
            obtain ⟨G1, hG1⟩ : ∃ G1, gk = G1 := ⟨_, rfl⟩
            by_cases hil : (i : Int) < (L.length : Int)
            · have hiL : i < L.length := by omega
              have cb : wr.cell? ⟨b, i, none⟩ = some (.int .i64 L[i]) := by
                rw [B1.bel.cell (p := ⟨b, i, none⟩) hbl2]; exact HCC.out i hiL
              have hmem : L[i] ∈ pidsJ P' := by rw [HLL.out]; exact List.getElem_mem hiL
              have hk := B1.st.jl.keyA hmem
              obtain ⟨gR, cd, ma, mb, cR, lR⟩ := B1.st.jl.lookD hmem
              have hcap' : (i : Int) < (cap2 : Int) := by omega
              generalize L[i] = N at *
              have hrl : r < wr.heap.size := World.block_lt_of_cell? wr _ cR
              have hbl3 : b < wr.heap.size := World.block_lt_of_cell? wr _ cb
              have l1 := lR wr.drew (belowJ_dr (Below.refl _ _))
              have hA := (Below.refl _ wr).alloc (Nat.le_refl _) (.cells #[.int .i64 0, .int .i64 0, .int .i64 0, .map none, .map none] 114)
              have l2 := lR _ (belowJ_dr hA)
              have cR2 := hA.cell (p := ⟨r, 0, none⟩) hrl
              rw [cR] at cR2
              have cb2 := hA.cell (p := ⟨b, i, none⟩) hbl3
              rw [cb] at cb2
              clear hA
              have hwN : (Lit.int .i64 N).wf = true := wf64 (by omega)
              generalize hsN : stJ P' N = sN at *
              generalize hpN : parJ P' N = pN at *
              have hK0 := JK.new (pN := pN) (sN := sN) B1 cb cd ma mb
              have hSt := fun z V (S' : JK w x ys t g r P' w5 b i z N pN sN V) => S'.state hwN hsN
              have hPa := fun z V (S' : JK w x ys t g r P' w5 b i z N pN sN V) => S'.parent hwN hpN
              clear lR hmem hk hsN hpN
              have HK0 : Aside _ := hK0
              clear hK0
              go_upto_region 34 with fail
              go_region
              all_goals
                have hK0 := HK0.out
                obtain ⟨w6, hw6⟩ : ∃ w6, (wr.alloc (.cells #[.int .i64 pN, .int .i64 sN, .int .i64 cd, .map (some ma), .map (some mb)] 114)).drew = w6 := ⟨_, rfl⟩
                obtain ⟨z, hz⟩ : ∃ z, wr.heap.size = z := ⟨_, rfl⟩
                rw [hw6, hz] at hK0
                rw [hw6, hz]
                have zb := hK0.cb
                have z0 := hK0.c0
                have z1 := hK0.c1
                clear hw6 hz l1 l2 cR2 cb2 cR cb HK0 B1 hrl hbl3
                go_upto_region 35 with fail
                go_region_held3 (fun w' => w'.cell? ⟨b, i, none⟩ = some (.int .i64 N) ∧ w'.cell? ⟨z, 0, none⟩ = some (.int .i64 pN) ∧ w'.cell? ⟨z, 1, none⟩ = some (.int .i64 sN)) (first | exact ⟨yb, y0, y1⟩ | exact ⟨zb, z0, z1⟩) (first
                  | (go_at_call 69; refine (hSt z _ (by exact hK0.stay ⟨rfl, rfl, rfl, Nat.le_refl _, fun _ _ => rfl⟩)).mono ?_; rintro e w7 ⟨rfl, K1⟩; have yb := K1.cb; have y0 := K1.c0; have y1 := K1.c1)
                  | (go_at_call 70; refine (hPa z _ K1).mono ?_; rintro e w8 ⟨rfl, K2⟩; have yb := K2.cb; have y0 := K2.c0; have y1 := K2.c1))
                all_goals
                  go_wp2_with fail
                  go_roundg (G1 - 1)
                  case measure => omega
                  case rel => exact ⟨i + 1, by omega, by go_num, K2.st⟩
            · go_wp2_with fail
              go_roundg (G0 - 1)
              case measure => omega
              case rel => exact ⟨j + 1, P', by omega, by go_num, B1.st.jl⟩
    · have hS := hJ.stateA (-1) (by decide)
      have hP := fun V (S' : JL w t g r V P P) => S'.parentA (-1) (by decide)
      obtain ⟨ca, ha⟩ := hJ.a
      have hno : P (-1) = none := by
        cases z : P (-1) with
        | none => rfl
        | some p => have := ha.key _ p z; omega
      rw [stJ_none hno] at hS
      simp only [parJ_none hno] at hP
      clear ha hno
      go_wp2_with (first
        | (go_at_call 69; refine hS.mono ?_; rintro e w5 ⟨rfl, hb⟩; have hJ2 := hJ.stay hb)
        | (go_at_call 70; refine (hP _ hJ2).mono ?_; rintro e w6 ⟨rfl, hb2⟩; have hJ3 := hJ2.stay hb2))
      go_ret
      exact ⟨rfl, hJ3.bel⟩
end Go.Proofs.YtidinhbokkelnabDoor
