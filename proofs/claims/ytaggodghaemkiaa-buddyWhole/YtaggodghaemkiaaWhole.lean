/- BuddyWhole, by its Go text. -/
import Derived.Test.YtaggodghaemkiaaTaken2
import Derived.Test.YtaggodghaemkiaaParts
import Derived.Test.YtaggodghaemkiaaHas
import Derived.Deep.QuietTactic
import Derived.BigQuiet
namespace Go.Proofs.Ytaggodghaemkiaa
open Go.RowKit Go.Shelf Go.Lib Go.Sort

theorem len_size (l : List (Nat × Nat)) : l.length ≤ size l := by
  induction l with
  | nil => exact Nat.le_refl _
  | cons a l ih =>
    have := Nat.two_pow_pos a.2
    simp only [size, List.map_cons, List.sum_cons, List.length_cons] at *; omega

/-- V, and j frames from z on. -/
def upto (V : Nat → Bool) (z j : Nat) : Nat → Bool := fun f => V f || decide (z ≤ f ∧ f < z + j)
theorem upto_zero (V : Nat → Bool) (z : Nat) : upto V z 0 = V := by
  funext f; rw [upto, decide_eq_false (by omega), Bool.or_false]
theorem upto_new {V : Nat → Bool} {z j : Nat} (h : V (z + j) = false) : upto V z j (z + j) = false := by
  rw [upto, h, decide_eq_false (by omega)]; rfl
theorem upto_next (V : Nat → Bool) (z j : Nat) : (fun f => if f = z + j then true else upto V z j f) = upto V z (j + 1) := by
  funext f
  by_cases e : f = z + j
  · have hd : decide (z ≤ f ∧ f < z + (j + 1)) = true := decide_eq_true (by omega)
    rw [if_pos e, upto, hd, Bool.or_true]
  · have hd : decide (z ≤ f ∧ f < z + j) = decide (z ≤ f ∧ f < z + (j + 1)) := decide_eq_decide.2 (by omega)
    rw [if_neg e, upto, upto, hd]

theorem hbl {w : World} {g o : Nat} {v : Value} (h : w.cell? ⟨g, o, none⟩ = some v) : g < w.heap.size := by
  by_cases e : g < w.heap.size
  · exact e
  · have hn : w.heap[g]? = none := Array.getElem?_eq_none (by omega)
    simp [World.cell?, hn] at h

theorem seven {k : Nat} (h : k ≤ 6) : k = 0 ∨ k = 1 ∨ k = 2 ∨ k = 3 ∨ k = 4 ∨ k = 5 ∨ k = 6 := by omega
theorem pow_small {k : Nat} (h : k ≤ 6) : wrap64 ((2 : Int) ^ k) = ((2 ^ k : Nat) : Int) := by
  rcases seven h with rfl | rfl | rfl | rfl | rfl | rfl | rfl <;> kernel_rfl
theorem wrap_small {p : Nat} (hp : p ≤ 200) : wrap64 (p : Int) = (p : Int) := by unfold wrap64; omega

set_option maxRecDepth 100000 in
set_option maxHeartbeats 8000000 in
theorem whole_any (w : World) (a : Int) (ad : Option Addr) (len cap : Nat) (q : Nat → Bool × Int) (hq : Moves w ad len q) (hl : len ≤ 60) :
    Calls Try.prog 4 #[.int .i64 a, .slice ad len cap] w fun e w' => e = .returned (.bool true) ∧ Below w.heap.size w w' := by
  have hl' : ¬ (60 : Int) < (len : Int) := by omega
  go_enter Try.func4, Try.ntmps4
  go_wp2_with fail
  refine (pooled_ok _).mono ?_
  rintro e w1 ⟨rfl, b1⟩
  go_wp2_with fail
  refine (mpick_any _ a 200 (by omega) (by omega)).mono ?_
  rintro e w2 ⟨r, rfl, hr, h2⟩
  subst w2
  obtain ⟨n, hn⟩ : ∃ n : Nat, r + 1 = n := ⟨_, rfl⟩
  have hn1 : 1 + (r : Int) = (n : Int) := by omega
  have hn2 : 1 ≤ n ∧ n ≤ 200 := by omega
  go_wp2_with fail
  clear hn1 hn hr
  refine (pool_ok _ n (by omega) (by omega)).mono ?_
  rintro e w2 ⟨b, rfl, A0, a0, f0, o0⟩
  have b2 : Below w.heap.size w w2 := b1.trans (Below.of_fr w.heap.size b1.size f0 (fun _ _ h => h))
  go_wp2_with fail
  refine (taken_ok ad len cap q (hq.keep b2) hl a0 (fun hpos blk off e hA => by
    rcases hq with h | ⟨blk', off', e', hb', _⟩
    · omega
    · rw [e] at e'; cases e'; exact o0 blk (Nat.lt_of_lt_of_le hb' b1.size) hA)).mono ?_
  rintro e w3 ⟨vh, rfl, LH, hLH, U, T, A, S⟩
  have b3 : Below w.heap.size w w3 := b2.trans (Below.of_fr w.heap.size b2.size S.fr (fun i hi h => o0 i (Nat.lt_of_lt_of_le hi b1.size) h))
  obtain ⟨ah, ch, rfl, hch⟩ := S.list.form'
  go_wp2_with fail
  refine (free_ok S.pool).mono ?_
  rintro e wm ⟨vf, rfl, hF, bF⟩
  have hP := parts_of S.pool.inv' S.held
  have hbd := S.pool.inv'.bound
  have hlf : ((blocks U n).map toInt).length ≤ 256 := by
    have h1 := len_size (blocks U n)
    have h2 := blocks_size hbd
    have h3 := cnt_le U n 0
    rw [List.length_map]; omega
  have hH := S.list.keep bF
  have hA := S.pool.keep' (fun i hi => bF.block i (S.pool.lt' hi))
  have b4 : Below w.heap.size w wm := b3.trans (bF.mono b3.size)
  have hrH : LH ≠ [] → ∃ g, ah = some ⟨g, 0, none⟩ ∧ g < wm.heap.size ∧ Rd wm g LH := fun h => by
    obtain ⟨g, e, _, h1, h2⟩ := hH.read h; exact ⟨g, e, h1, h2⟩
  obtain ⟨LF, hLF⟩ : ∃ LF, (blocks U n).map toInt = LF := ⟨_, rfl⟩
  rw [hLF] at hF hP hlf
  have hlen : (blocks U n).length = LF.length := by rw [← hLF, List.length_map]
  obtain ⟨af, cf, rfl, hcf⟩ := hF.form'
  have hrF : LF ≠ [] → ∃ g, af = some ⟨g, 0, none⟩ ∧ g < wm.heap.size ∧ Rd wm g LF := fun h => by
    obtain ⟨g, e, _, h1, h2⟩ := hF.read h; exact ⟨g, e, h1, h2⟩
  have hmm := @run_makeMap Try.prog
  have pm0 := PMap.made wm
  have bm0 : Below wm.heap.size wm (wm.alloc (.map #[] 0)) := (Below.refl _ _).alloc (Nat.le_refl _) _
  clear S hq a0 o0 f0 b1 b2 b3 bF hH hF
  go_wp2_with fail
  clear hmm
  go_loopg [11, 12] (LH.length + LF.length) (fun mm s11 s12 wr => ∃ i : Nat, i + mm = LH.length + LF.length ∧ s12 = .int .i64 i ∧ s11 = .int .i64 (size ((blocks U n).take (i - LH.length)) : Nat) ∧ Below wm.heap.size wm wr ∧ PMap wr wm.heap.size (cnt (cov ((LH ++ LF).take i)) 0 n) (mo (cov ((LH ++ LF).take i))))
  case atStart =>
    refine ⟨0, by omega, rfl, by simp [size], bm0, ?_⟩
    have e : cov ((LH ++ LF).take 0) = fun _ => false := by funext f; simp [cov]
    rw [e, mo_bot, cnt_bot]; exact pm0
  case round =>
    clear pm0 bm0
    obtain ⟨i, hi, rfl, rfl, hw, pm⟩ := hrel
    by_cases hlt : (i : Int) < (LH.length : Int) + (LF.length : Int)
    · have hi' : i < (LH ++ LF).length := by simp; omega
      obtain ⟨k, q0, hk6, hx, hle⟩ := hP.form _ (List.getElem_mem hi')
      have hfresh := fun f hf => hP.fresh (f := f) hi' hf
      have hcs := cov_succ hi' hx
      rw [hx] at hfresh
      obtain ⟨z, hz⟩ : ∃ z : Nat, q0 * 2 ^ k = z := ⟨_, rfl⟩
      obtain ⟨p, hp⟩ : ∃ p : Nat, 2 ^ k = p := ⟨_, rfl⟩
      have hp2 : (2 : Int) ^ k = (p : Int) := by rw [← hp]; simp
      have hp0 : 0 < p := by rw [← hp]; exact Nat.two_pow_pos k
      rw [hz, hp] at hcs hle
      simp only [hz] at hfresh
      have hcs' : cov ((LH ++ LF).take (i + 1)) = upto (cov ((LH ++ LF).take i)) z p := hcs
      clear hcs
      rw [hz] at hx
      have hszl : size ((blocks U n).take (i + 1 - LH.length)) ≤ 256 := by
        have h1 := size_take_le (blocks U n) (i + 1 - LH.length)
        have h2 := blocks_size hbd
        have h3 := cnt_le U n 0
        omega
      go_upto_if 60 with fail
      go_cut [11] (fun s11 wc => s11 = .int .i64 (size ((blocks U n).take (i + 1 - LH.length)) : Nat) ∧ wc = wr.alloc (.cells #[.int .i64 (z : Int), .int .i64 (k : Int)] 45))
      case first =>
        as_aux_lemma =>
          by_cases h1 : (i : Int) < (LH.length : Int)
          · have h1' : i < LH.length := by omega
            obtain ⟨gb, rfl, hgb, hrd⟩ := hrH (by rintro rfl; simp at h1')
            obtain ⟨c0, c1⟩ := (hrd.keep (w' := wr) (hw.block gb hgb)) i h1'
            have e0 : LH[i] = toInt (z, k) := by rw [← hx, List.getElem_append_left]
            rw [e0] at c0 c1
            have hgr : gb < wr.heap.size := Nat.lt_of_lt_of_le hgb hw.size
            have d0 : ∀ o, (wr.alloc o).cell? ⟨gb, i * 2, none⟩ = some (.int .i64 (z : Int)) := fun o => by rw [World.cell?_of_block (w := wr) (a := ⟨gb, i * 2, none⟩) (Below.heap_alloc _ _ _ hgr)]; exact c0
            have d1 : ∀ o, (wr.alloc o).cell? ⟨gb, i * 2 + 1, none⟩ = some (.int .i64 (k : Int)) := fun o => by rw [World.cell?_of_block (w := wr) (a := ⟨gb, i * 2 + 1, none⟩) (Below.heap_alloc _ _ _ hgr)]; exact c1
            go_wp2_with fail
            go_meet
            case rel => exact ⟨by rw [show i + 1 - LH.length = i - LH.length by omega], rfl⟩
          · obtain ⟨j, hj⟩ : ∃ j, LH.length + j = i := ⟨i - LH.length, by omega⟩
            have hjl : j < LF.length := by omega
            obtain ⟨gb, rfl, hgb, hrd⟩ := hrF (by rintro rfl; simp at hjl)
            obtain ⟨c0, c1⟩ := (hrd.keep (w' := wr) (hw.block gb hgb)) j hjl
            have e0 : LF[j] = toInt (z, k) := by
              rw [← hx, List.getElem_append_right (by omega)]; congr 1; omega
            have ek : (blocks U n)[j].2 = k := by
              have e1 : toInt (blocks U n)[j] = toInt (z, k) := by rw [← e0]; simp [← hLF]
              exact Int.ofNat.inj (congrArg Prod.snd e1)
            have hs1 : size ((blocks U n).take (i + 1 - LH.length)) = size ((blocks U n).take (i - LH.length)) + p := by
              rw [show i + 1 - LH.length = j + 1 by omega, show i - LH.length = j by omega, size_take _ _ (by omega), ek, hp]
            rw [e0] at c0 c1
            have hgr : gb < wr.heap.size := Nat.lt_of_lt_of_le hgb hw.size
            have d0 : ∀ o, (wr.alloc o).cell? ⟨gb, j * 2, none⟩ = some (.int .i64 (z : Int)) := fun o => by rw [World.cell?_of_block (w := wr) (a := ⟨gb, j * 2, none⟩) (Below.heap_alloc _ _ _ hgr)]; exact c0
            have d1 : ∀ o, (wr.alloc o).cell? ⟨gb, j * 2 + 1, none⟩ = some (.int .i64 (k : Int)) := fun o => by rw [World.cell?_of_block (w := wr) (a := ⟨gb, j * 2 + 1, none⟩) (Below.heap_alloc _ _ _ hgr)]; exact c1
            have hsub : (i : Int) - (LH.length : Int) = (j : Int) := by omega
            have hjb : (j : Int) < (LF.length : Int) := by omega
            have hww : wrap64 ((size ((blocks U n).take (i - LH.length)) : Int) + (p : Int)) = ((size ((blocks U n).take (i + 1 - LH.length)) : Nat) : Int) := by unfold wrap64; omega
            clear hs1 hj hx ek e0
            generalize size ((blocks U n).take (i - LH.length)) = s1 at *
            generalize size ((blocks U n).take (i + 1 - LH.length)) = s2 at *
            go_wp2_with fail
            go_meet
            case rel => exact ⟨by first | rfl | rw [hww] | (rw [← hww]; go_num), rfl⟩
      case rest =>
        obtain ⟨rfl, rfl⟩ := hcut
        have hzp : z = q0 * p := by rw [← hz, hp]
        have g3 : (z : Int).tmod (p : Int) = 0 := by rw [hzp]; simp
        have hp64 : p ≤ 200 := Nat.le_trans (Nat.le_trans (Nat.le_add_left p z) hle) hn2.2
        clear hx hz hzp
        go_upto_region 23 with fail
        go_cut [108] (fun c wc => c = .bool false ∧ ∃ m, wc = (wr.alloc (.cells #[.int .i64 (z : Int), .int .i64 (k : Int)] 45)).drewN m)
        case first =>
          as_aux_lemma =>
            clear hcs' hfresh hszl hlt hi hi' hw pm hP hlf hlen hLF hbd hp2 hp0
            rcases seven hk6 with rfl | rfl | rfl | rfl | rfl | rfl | rfl
            all_goals
              simp only [Nat.reducePow] at hp
              subst hp
              have g4 : decide ((z : Int) < 0) = false := by simp
              try simp only [Int.cast_ofNat_Int] at g3
              clear hk6
              go_quiet (fail)
              go_wp2_with fail
              go_meet
              case rel => exact ⟨congrArg Value.bool (decide_eq_false (by omega)), _, rfl⟩
        case rest =>
          obtain ⟨rfl, m, rfl⟩ := hcut
          have hgw : wm.heap.size < wr.heap.size := pm.lt
          have B1 : Below wm.heap.size wm ((wr.alloc (.cells #[.int .i64 (z : Int), .int .i64 (k : Int)] 45)).drewN m) := below_drewN_q (hw.alloc hw.size _) m
          have P1 : PMap ((wr.alloc (.cells #[.int .i64 (z : Int), .int .i64 (k : Int)] 45)).drewN m) wm.heap.size (cnt (cov ((LH ++ LF).take i)) 0 n) (mo (cov ((LH ++ LF).take i))) := pm.keep (Below.heap_alloc _ _ _ hgw)
          have C01 := new_two wr (z : Int) (k : Int) 45
          have C0 : ((wr.alloc (.cells #[.int .i64 (z : Int), .int .i64 (k : Int)] 45)).drewN m).cell? ⟨wr.heap.size, 0, none⟩ = some (.int .i64 (z : Int)) := C01 0 _ rfl
          have C1 : ((wr.alloc (.cells #[.int .i64 (z : Int), .int .i64 (k : Int)] 45)).drewN m).cell? ⟨wr.heap.size, 1, none⟩ = some (.int .i64 (k : Int)) := C01 1 _ rfl
          go_wp2_with fail
          clear C01 pm hw
          generalize ((wr.alloc (.cells #[.int .i64 (z : Int), .int .i64 (k : Int)] 45)).drewN m) = W1 at *
          generalize wr.heap.size = bx at *
          clear wr
          go_loopg [14] p (fun mm s14 w2 => ∃ y j : Nat, j + mm = p ∧ z + j = y ∧ s14 = .int .i64 (y : Int) ∧ Below wm.heap.size wm w2 ∧ PMap w2 wm.heap.size (cnt (upto (cov ((LH ++ LF).take i)) z j) 0 n) (mo (upto (cov ((LH ++ LF).take i)) z j)) ∧ w2.cell? ⟨bx, 0, none⟩ = some (.int .i64 (z : Int)) ∧ w2.cell? ⟨bx, 1, none⟩ = some (.int .i64 (k : Int)))
          case atStart =>
            refine ⟨z, 0, by omega, rfl, rfl, B1, ?_, C0, C1⟩
            rw [upto_zero]; exact P1
          case round =>
            clear B1 P1 C0 C1
            obtain ⟨y, j, hj, hy, rfl, B1, P1, C0, C1⟩ := hrel
            go_upto_region 26 with fail
            go_cut [118] (fun c wc => c = .bool (decide ((y : Int) < (z : Int) + (p : Int))) ∧ ∃ m, wc = wr.drewN m)
            case first =>
              as_aux_lemma =>
                clear hcs' hfresh hszl hlt hi hi' hP hlf hlen hLF hbd hp2 hp0 B1 P1 g3 hA b4 hrH hrF
                rcases seven hk6 with rfl | rfl | rfl | rfl | rfl | rfl | rfl
                all_goals
                  simp only [Nat.reducePow] at hp
                  subst hp
                  clear hk6
                  go_quiet (fail)
                  go_wp2_with fail
                  go_meet
                  case rel => exact ⟨rfl, _, rfl⟩
            case rest =>
              obtain ⟨rfl, m, rfl⟩ := hcut
              by_cases hyl : (y : Int) < (z : Int) + (p : Int)
              · as_aux_lemma =>
                  have hjl : j < p := by omega
                  subst hy
                  have h1 := hfresh (z + j) ⟨by show (z : Int) ≤ ((z + j : Nat) : Int); omega, by show ((z + j : Nat) : Int) < (z : Int) + ((2 ^ ((k : Int)).toNat : Nat) : Int); rw [Int.toNat_natCast, hp]; omega⟩
                  have hV := upto_new (z := z) (j := j) h1
                  have hcn := cnt_set (V := upto (cov ((LH ++ LF).take i)) z j) (f := z + j) hV n 0 (Nat.zero_le _) (by omega)
                  have hn0 := mo_none (V := upto (cov ((LH ++ LF).take i)) z j) (f := z + j) hV
                  have hput := mo_put (upto (cov ((LH ++ LF).take i)) z j) (z + j)
                  rw [upto_next] at hcn hput
                  have hwf : (Lit.int .i64 ((z + j : Nat) : Int)).wf = true := wf_small (by omega) (by omega)
                  have hmx := cnt_le (upto (cov ((LH ++ LF).take i)) z j) n 0
                  generalize mo (upto (cov ((LH ++ LF).take i)) z j) = M at *
                  generalize hMe : mo (upto (cov ((LH ++ LF).take i)) z (j + 1)) = M' at *
                  generalize cnt (upto (cov ((LH ++ LF).take i)) z j) 0 n = c0 at *
                  have hmx' : c0 < maxLen := by unfold maxLen; omega
                  have hkp : ∀ W w3 : World, W.heap = wr.heap → W.grownBy w3 (some wm.heap.size) → w3.cell? ⟨bx, 0, none⟩ = some (.int .i64 (z : Int)) ∧ w3.cell? ⟨bx, 1, none⟩ = some (.int .i64 (k : Int)) := by
                    intro W w3 hW G
                    have e : w3.heap[bx]? = wr.heap[bx]? := (G.block bx (by rw [hW]; exact hbl C0) (fun e => by cases e; omega)).trans (by rw [hW])
                    rw [World.cell?_of_block (w := wr) (a := ⟨bx, 0, none⟩) e, World.cell?_of_block (w := wr) (a := ⟨bx, 1, none⟩) e]
                    exact ⟨C0, C1⟩
                  clear hV
                  generalize hyy : z + j = y at *
                  go_wp2_with (first
                    | (at_lookup; refine wpList_klook rfl _ _ 43 rfl 3 Try.underlying43 _ (zero_int _) wm.heap.size c0 M rfl (P1.keep rfl) (y : Int) rfl hwf ?_; rw [hn0]; simp only [Option.getD_none])
                    | (at_mapUpdate; refine wpList_kput rfl _ _ _ 43 rfl 3 Try.underlying43 wm.heap.size c0 M rfl (P1.keep rfl) hmx' (y : Int) rfl hwf (.int .i64 1) (by simp [Act.eval]) ?_; intro w3 P3 G3; rw [hn0, hput] at P3))
                  obtain ⟨K0, K1⟩ := hkp _ w3 (by rfl) G3
                  go_roundg (p - (j + 1))
                  case measure => omega
                  case rel =>
                    refine ⟨y + 1, j + 1, by omega, by omega, by go_num, (below_drewN_q B1 m).grown G3 B1.size (fun i hi => by cases hi; exact Nat.le_refl _), ?_, K0, K1⟩
                    rw [hcn, hMe]; simpa using P3
              · as_aux_lemma =>
                  have hjl : j = p := by omega
                  subst hjl
                  rw [← hcs'] at P1
                  go_wp2_with fail
                  go_roundg (LH.length + LF.length - (i + 1))
                  case measure => omega
                  case rel => exact ⟨i + 1, by omega, by go_num, rfl, below_drewN_q B1 m, P1.keep rfl⟩
    · as_aux_lemma =>
        have hil : i = LH.length + LF.length := by omega
        have e1 : (LH ++ LF).take i = LH ++ LF := List.take_of_length_le (by simp; omega)
        have e2 : size ((blocks U n).take (i - LH.length)) = cnt U 0 n := by rw [List.take_of_length_le (by omega), blocks_size hbd]
        have e3 : cnt (cov (LH ++ LF)) 0 n = n := cnt_all _ _ _ (fun f hf => by rw [Nat.zero_add]; exact hP.all hf)
        rw [e1, e3] at pm
        rw [e2]
        have hall := fun f hf => mo_some (V := cov (LH ++ LF)) (f := f) (hP.all hf)
        generalize mo (cov (LH ++ LF)) = M at *
        clear e1 e2 e3 hil hrH
        go_wp2_with fail
        clear hlt hi
        go_loopg [15] LF.length (fun mm s15 w2 => ∃ i : Nat, i + mm = LF.length ∧ s15 = .int .i64 i ∧ Below wm.heap.size wm w2 ∧ PMap w2 wm.heap.size n M)
        case atStart => exact ⟨0, by omega, rfl, hw, pm⟩
        case round =>
          clear hw pm
          obtain ⟨i, hi, rfl, hw, pm⟩ := hrel
          by_cases hlt : (i : Int) < (LF.length : Int)
          · have hi' : i < LF.length := by omega
            obtain ⟨k, q0, hx, hm⟩ := (mem_blocks_int hbd LF[i]).1 (by rw [hLF]; exact List.getElem_mem hi')
            have hk6 := hm.1
            have hnb : k < 6 → toInt (bud q0 * 2 ^ k, k) ∉ LF := fun h => by
              rw [← hLF]; exact no_half hbd h (by rw [hLF, ← hx]; exact List.getElem_mem hi')
            have hq := small_of hbd (by omega) hm.2.1
            have hbit : k < 6 → bits BinOp.xor IntKind.i64 ((q0 * 2 ^ k : Nat) : Int) ((2 : Int) ^ k) = ((bud q0 * 2 ^ k : Nat) : Int) := fun h => by
              have e := (bits_at h hq.2).1
              rw [pow_small (by omega)] at e
              rw [← e]; simp
            obtain ⟨gb, rfl, hgb, hrd⟩ := hrF (by rintro rfl; simp at hi')
            have hrd2 := hrd.keep (w' := wr) (hw.block gb hgb)
            obtain ⟨c0, c1⟩ := hrd2 i hi'
            rw [hx] at c0 c1
            have hgr : gb < wr.heap.size := Nat.lt_of_lt_of_le hgb hw.size
            obtain ⟨z, hz⟩ : ∃ z : Nat, q0 * 2 ^ k = z := ⟨_, rfl⟩
            obtain ⟨y, hy⟩ : ∃ y : Nat, bud q0 * 2 ^ k = y := ⟨_, rfl⟩
            rw [hz] at c0 c1
            replace c0 : wr.cell? ⟨gb, i * 2, none⟩ = some (.int .i64 (z : Int)) := c0
            replace c1 : wr.cell? ⟨gb, i * 2 + 1, none⟩ = some (.int .i64 (k : Int)) := c1
            rw [hz, hy] at hbit
            rw [hy] at hnb
            have hgw : wm.heap.size < wr.heap.size := pm.lt
            have hHas : k < 6 → ∀ W : World, W.heap = (wr.alloc (.cells #[.int .i64 (z : Int), .int .i64 (k : Int)] 45)).heap → W.os = wr.os → W.tape = wr.tape → W.output = wr.output → Calls Try.prog 16 #[.slice (some ⟨gb, 0, none⟩) LF.length cf, .agg #[.int .i64 (y : Int), .int .i64 (k : Int)]] W fun e w' => e = .returned (.bool false) ∧ (Below wm.heap.size wm w' ∧ PMap w' wm.heap.size n M) ∧ w'.cell? ⟨wr.heap.size, 0, none⟩ = some (.int .i64 (z : Int)) ∧ w'.cell? ⟨wr.heap.size, 1, none⟩ = some (.int .i64 (k : Int)) := by
              intro hk W h1 h2 h3 h4
              have hs : W.heap.size = wr.heap.size + 1 := by rw [h1]; simp
              have hR : Rd W gb LF := hrd2.keep (by rw [h1]; exact Below.heap_alloc _ _ _ hgr)
              refine (has_ok (cap := cf) hR (by omega) (toInt (y, k))).mono ?_
              rintro e w' ⟨rfl, hB⟩
              have hB1 : Below wm.heap.size wm W := ⟨h2.trans hw.os, h3.trans hw.tape, h4.trans hw.output, by have := hw.size; omega, fun i hi => by rw [h1, Below.heap_alloc _ _ _ (by omega)]; exact hw.block i hi⟩
              have hbx : w'.heap[wr.heap.size]? = (wr.alloc (.cells #[.int .i64 (z : Int), .int .i64 (k : Int)] 45)).heap[wr.heap.size]? := by rw [hB.block _ (by omega), h1]
              refine ⟨by rw [decide_eq_false (hnb hk)], ⟨hB1.trans (hB.mono (by omega)), pm.keep ?_⟩, (World.cell?_of_block (a := ⟨wr.heap.size, 0, none⟩) hbx).trans (new_two wr (z : Int) (k : Int) _ 0 _ rfl), (World.cell?_of_block (a := ⟨wr.heap.size, 1, none⟩) hbx).trans (new_two wr (z : Int) (k : Int) _ 1 _ rfl)⟩
              rw [hB.block _ (by omega), h1]; exact Below.heap_alloc _ _ _ hgw
            clear hx hm hq hrd hrd2 hnb hz hy hP hbd hLF hlen
            go_upto_region 33 with fail
            go_cut [150] (fun c wc => c = .bool false ∧ Below wm.heap.size wm wc ∧ PMap wc wm.heap.size n M)
            case first =>
              as_aux_lemma =>
                have hw' : Below wm.heap.size wm (wr.alloc (.cells #[.int .i64 (z : Int), .int .i64 (k : Int)] 45)) := hw.alloc hw.size _
                have pm' : PMap (wr.alloc (.cells #[.int .i64 (z : Int), .int .i64 (k : Int)] 45)) wm.heap.size n M := pm.keep (Below.heap_alloc _ _ _ hgw)
                rcases seven hk6 with rfl | rfl | rfl | rfl | rfl | rfl | rfl
                case inr.inr.inr.inr.inr.inr =>
                  clear hHas hbit hk6
                  go_quiet (fail)
                  go_wp2_with fail
                  go_meet
                  case rel => exact ⟨rfl, below_drewN_q hw' _, pm'.keep rfl⟩
                case inl =>
                  have hH := hHas (by decide)
                  have hb := hbit (by decide)
                  simp only [Int.reducePow] at hb
                  have hw1 : IntKind.i64.wrap 1 = 1 := by kernel_rfl
                  have x0 := new_two wr (z : Int) 0 45 0 _ rfl
                  have x1 := new_two wr (z : Int) 0 45 1 _ rfl
                  clear hHas hbit hk6
                  go_region_held3 (fun w' => w'.cell? ⟨wr.heap.size, 0, none⟩ = some (.int .i64 (z : Int)) ∧ w'.cell? ⟨wr.heap.size, 1, none⟩ = some (.int .i64 0)) (first | exact ⟨y1, y2⟩ | exact ⟨x0, x1⟩) (first
                    | (go_at_call 16; refine (hH _ ?_ ?_ ?_ ?_).mono ?_; rfl; rfl; rfl; rfl; rintro e w1 ⟨rfl, Q2, y1, y2⟩)
                    | fail)
                  all_goals
                    go_wp2_with fail
                    go_meet
                    case rel => exact ⟨rfl, Q2⟩
                case inr.inl =>
                  have hH := hHas (by decide)
                  have hb := hbit (by decide)
                  simp only [Int.reducePow] at hb
                  have hw1 : IntKind.i64.wrap 2 = 2 := by kernel_rfl
                  have x0 := new_two wr (z : Int) 1 45 0 _ rfl
                  have x1 := new_two wr (z : Int) 1 45 1 _ rfl
                  clear hHas hbit hk6
                  go_region_held3 (fun w' => w'.cell? ⟨wr.heap.size, 0, none⟩ = some (.int .i64 (z : Int)) ∧ w'.cell? ⟨wr.heap.size, 1, none⟩ = some (.int .i64 1)) (first | exact ⟨y1, y2⟩ | exact ⟨x0, x1⟩) (first
                    | (go_at_call 16; refine (hH _ ?_ ?_ ?_ ?_).mono ?_; rfl; rfl; rfl; rfl; rintro e w1 ⟨rfl, Q2, y1, y2⟩)
                    | fail)
                  all_goals
                    go_wp2_with fail
                    go_meet
                    case rel => exact ⟨rfl, Q2⟩
                case inr.inr.inl =>
                  have hH := hHas (by decide)
                  have hb := hbit (by decide)
                  simp only [Int.reducePow] at hb
                  have hw1 : IntKind.i64.wrap 4 = 4 := by kernel_rfl
                  have x0 := new_two wr (z : Int) 2 45 0 _ rfl
                  have x1 := new_two wr (z : Int) 2 45 1 _ rfl
                  clear hHas hbit hk6
                  go_region_held3 (fun w' => w'.cell? ⟨wr.heap.size, 0, none⟩ = some (.int .i64 (z : Int)) ∧ w'.cell? ⟨wr.heap.size, 1, none⟩ = some (.int .i64 2)) (first | exact ⟨y1, y2⟩ | exact ⟨x0, x1⟩) (first
                    | (go_at_call 16; refine (hH _ ?_ ?_ ?_ ?_).mono ?_; rfl; rfl; rfl; rfl; rintro e w1 ⟨rfl, Q2, y1, y2⟩)
                    | fail)
                  all_goals
                    go_wp2_with fail
                    go_meet
                    case rel => exact ⟨rfl, Q2⟩
                case inr.inr.inr.inl =>
                  have hH := hHas (by decide)
                  have hb := hbit (by decide)
                  simp only [Int.reducePow] at hb
                  have hw1 : IntKind.i64.wrap 8 = 8 := by kernel_rfl
                  have x0 := new_two wr (z : Int) 3 45 0 _ rfl
                  have x1 := new_two wr (z : Int) 3 45 1 _ rfl
                  clear hHas hbit hk6
                  go_region_held3 (fun w' => w'.cell? ⟨wr.heap.size, 0, none⟩ = some (.int .i64 (z : Int)) ∧ w'.cell? ⟨wr.heap.size, 1, none⟩ = some (.int .i64 3)) (first | exact ⟨y1, y2⟩ | exact ⟨x0, x1⟩) (first
                    | (go_at_call 16; refine (hH _ ?_ ?_ ?_ ?_).mono ?_; rfl; rfl; rfl; rfl; rintro e w1 ⟨rfl, Q2, y1, y2⟩)
                    | fail)
                  all_goals
                    go_wp2_with fail
                    go_meet
                    case rel => exact ⟨rfl, Q2⟩
                case inr.inr.inr.inr.inl =>
                  have hH := hHas (by decide)
                  have hb := hbit (by decide)
                  simp only [Int.reducePow] at hb
                  have hw1 : IntKind.i64.wrap 16 = 16 := by kernel_rfl
                  have x0 := new_two wr (z : Int) 4 45 0 _ rfl
                  have x1 := new_two wr (z : Int) 4 45 1 _ rfl
                  clear hHas hbit hk6
                  go_region_held3 (fun w' => w'.cell? ⟨wr.heap.size, 0, none⟩ = some (.int .i64 (z : Int)) ∧ w'.cell? ⟨wr.heap.size, 1, none⟩ = some (.int .i64 4)) (first | exact ⟨y1, y2⟩ | exact ⟨x0, x1⟩) (first
                    | (go_at_call 16; refine (hH _ ?_ ?_ ?_ ?_).mono ?_; rfl; rfl; rfl; rfl; rintro e w1 ⟨rfl, Q2, y1, y2⟩)
                    | fail)
                  all_goals
                    go_wp2_with fail
                    go_meet
                    case rel => exact ⟨rfl, Q2⟩
                case inr.inr.inr.inr.inr.inl =>
                  have hH := hHas (by decide)
                  have hb := hbit (by decide)
                  simp only [Int.reducePow] at hb
                  have hw1 : IntKind.i64.wrap 32 = 32 := by kernel_rfl
                  have x0 := new_two wr (z : Int) 5 45 0 _ rfl
                  have x1 := new_two wr (z : Int) 5 45 1 _ rfl
                  clear hHas hbit hk6
                  go_region_held3 (fun w' => w'.cell? ⟨wr.heap.size, 0, none⟩ = some (.int .i64 (z : Int)) ∧ w'.cell? ⟨wr.heap.size, 1, none⟩ = some (.int .i64 5)) (first | exact ⟨y1, y2⟩ | exact ⟨x0, x1⟩) (first
                    | (go_at_call 16; refine (hH _ ?_ ?_ ?_ ?_).mono ?_; rfl; rfl; rfl; rfl; rintro e w1 ⟨rfl, Q2, y1, y2⟩)
                    | fail)
                  all_goals
                    go_wp2_with fail
                    go_meet
                    case rel => exact ⟨rfl, Q2⟩
            case rest =>
              obtain ⟨rfl, B2, P2⟩ := hcut
              go_wp2_with fail
              go_roundg (LF.length - (i + 1))
              case measure => omega
              case rel => exact ⟨i + 1, by omega, by go_num, B2, P2⟩
          · as_aux_lemma =>
              go_wp2_with fail
              clear hlt hi hrF
              go_loopg [17] n (fun mm s17 w2 => ∃ f : Nat, f + mm = n ∧ s17 = .int .i64 f ∧ Below wm.heap.size wm w2 ∧ PMap w2 wm.heap.size n M)
              case atStart => exact ⟨0, by omega, rfl, hw, pm⟩
              case round =>
                clear hw pm
                obtain ⟨f, hf, rfl, hw, pm⟩ := hrel
                by_cases hlt : (f : Int) < (n : Int)
                · have h1 := hall f (by omega)
                  have hwf : (Lit.int .i64 (f : Int)).wf = true := wf_small (by omega) (by omega)
                  go_wp2_with (at_lookup; refine wpList_klook rfl _ _ 43 rfl 3 Try.underlying43 _ (zero_int _) wm.heap.size n M rfl pm (f : Int) rfl hwf ?_; rw [h1]; simp only [Option.getD_some])
                  go_roundg (n - (f + 1))
                  case measure => omega
                  case rel => exact ⟨f + 1, by omega, by go_num, hw, pm⟩
                · have hA2 := hA.keep' (w' := wr) (fun i hi => hw.block i (hA.lt' hi))
                  have hln := pm.len Try.underlying43 3
                  go_wp2_with (go_at_call 17; refine (left_ok hA2).mono ?_; rintro e w7 ⟨rfl, h7⟩; subst w7)
                  go_ret
                  exact ⟨rfl, b4.trans (hw.mono b4.size)⟩
end Go.Proofs.Ytaggodghaemkiaa
