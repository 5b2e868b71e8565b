/- A kernel: newHolding, New, by their Go text. -/
import Derived.Test.YtcfhanoekniaaaaGreatDoorZPipe
import Derived.Test.YtcfhanoekniaaaaGreatDoorOVic
import Derived.WalkLawsBesides
import Derived.Shelf.Abstract
import Derived.Deep.RegionLaw
import Derived.Lib.SliceRun
import Derived.Test.YtcfhanoekniaaaaGreatDoorOVic3
namespace Go.Proofs.YtcfhanoekniaaaaGreatDoor
open Go.RowKit Go.Maps

/-- What 1 may have at first. -/
def firstM : Nat → Int := fun k => if k = 0 then 64 else if k = 1 then 8 else if k = 2 then 200 else 0
def zeroU : Nat → Int := fun _ => 0
def limTo (j : Nat) : Nat → Int := fun k => if k < j then firstM k else 0
section
variable {w w' : World} {m : Int} {E : St} {D : Nat → Nat → Int} {A : Nat → Prop} {o : Int → Nat}
set_option maxRecDepth 100000 in
set_option maxHeartbeats 4000000 in
theorem newHolding_ok (h : Vs E w D (Rof o) A) :
    Calls Tryz.prog 49 #[wp E.b] w fun y w' => ∃ wa c gc, y = .returned (.tuple #[wp (wa.heap.size + 1), .nilIface]) ∧ VS E wa c gc D A (fun _ => none) o ∧ Below w.heap.size w wa ∧ w.heap.size ≤ c ∧ w.heap.size ≤ gc ∧ Below (wa.alloc (.cells (nv zeroN).toArray 216)).heap.size (wa.alloc (.cells (nv zeroN).toArray 216)) w' ∧ Hd w' (wa.heap.size + 1) c wa.heap.size zeroU firstM 0 := by
  have hN := newSpace_ok h
  clear h
  go_enter Tryz.func49, Tryz.ntmps49
  go_upto_region 5 with (go_at_call 133; refine hN.mono ?_; rintro e wa ⟨c, rfl, gc, hv, hb, hc, hg⟩)
  have hT : (.cells #[.int .i64 0, .bool false, .int .i64 0, .bool false, .int .i64 0, .bool false, .int .i64 0, .bool false, .int .i64 0, .bool false, .int .i64 0, .bool false, .int .i64 0, .bool false, .int .i64 0, .bool false] 216 : Obj) = .cells (nv zeroN).toArray 216 := rfl
  rw [hT]
  have s0 : (wa.alloc (.cells (nv zeroN).toArray 216)).heap.size = wa.heap.size + 1 := by show (wa.heap.push _).size = _; rw [Array.size_push]
  have hd0 : Hd ((wa.alloc (.cells (nv zeroN).toArray 216)).alloc (.cells (hcs c wa.heap.size zeroU (limTo 0) 0) 115)) (wa.heap.size + 1) c wa.heap.size zeroU (limTo 0) 0 := by
    unfold Hd
    rw [← s0]
    show ((wa.alloc _).heap.push _)[(wa.alloc _).heap.size]? = _
    rw [Array.getElem?_push, if_pos rfl]
  have b0 : Below (wa.alloc (.cells (nv zeroN).toArray 216)).heap.size (wa.alloc (.cells (nv zeroN).toArray 216)) ((wa.alloc (.cells (nv zeroN).toArray 216)).alloc (.cells (hcs c wa.heap.size zeroU (limTo 0) 0) 115)) := (Below.refl _ _).alloc (Nat.le_refl _) _
  have hH : (.cells #[vp c, .pointer (some ⟨wa.heap.size, 0, none⟩), .int .i64 0, .int .i64 0, .int .i64 0, .int .i64 0, .int .i64 0, .int .i64 0, .int .i64 0] 115 : Obj) = .cells (hcs c wa.heap.size zeroU (limTo 0) 0) 115 := rfl
  rw [hH]
  clear hT hH hN
  generalize hW0 : wa.alloc (.cells (nv zeroN).toArray 216) = W0 at *
  have HW0 : Aside _ := hW0
  clear hW0
  generalize W0.alloc (.cells (hcs c wa.heap.size zeroU (limTo 0) 0) 115) = W1 at *
  have HV : Aside (VS E wa c gc D A (fun _ => none) o) := hv
  have HB : Aside (Below w.heap.size w wa) := hb
  have HW : Aside (W0.heap.size = wa.heap.size + 1) := s0
  clear hv hb s0
  go_wp2_with fail
  go_loopg [24] 3 (fun k s24 wr => ∃ j : Nat, j + k = 3 ∧ s24 = .int .i64 j ∧ Aside (Hd wr (wa.heap.size + 1) c wa.heap.size zeroU (limTo j) 0 ∧ Below W0.heap.size W0 wr))
  case atStart => exact ⟨0, rfl, rfl, hd0, b0⟩
  case round =>
    obtain ⟨j, hj, rfl, hA⟩ := hrel
    clear hd0 b0
    have step : ∀ k : Nat, k < 3 → Hd wr (wa.heap.size + 1) c wa.heap.size zeroU (limTo k) 0 → Below W0.heap.size W0 wr → Calls Tryz.prog 120 #[lq (wa.heap.size + 1), .int .i64 (k : Int), .int .i64 (firstM k)] wr fun e w' => e = .returned .nilIface ∧ Aside (Hd w' (wa.heap.size + 1) c wa.heap.size zeroU (limTo (k + 1)) 0 ∧ Below W0.heap.size W0 w') := fun k hk hd bb => by
      have hf : 0 ≤ firstM k ∧ firstM k ≤ 1000000 := by
        match k, hk with
        | 0, _ | 1, _ | 2, _ => decide
      have e0 : limE k (firstM k) = 0 := by unfold limE; rw [if_neg (by omega), if_neg (by omega)]
      refine (hd.limit k (firstM k)).mono ?_
      rintro e w' ⟨rfl, hd', g⟩
      refine ⟨by rw [e0]; rfl, ?_, below_of_grown bb g (by have := HW.out; omega)⟩
      have e1 : limM (limTo k) k (firstM k) = limTo (k + 1) := by
        unfold limM
        rw [if_pos e0, Int.toNat_natCast]
        funext i
        unfold put limTo
        by_cases e : i = k
        · rw [if_pos e, if_pos (by omega), e]
        · rw [if_neg e]
          by_cases e2 : i < k
          · rw [if_pos e2, if_pos (by omega)]
          · rw [if_neg e2, if_neg (by omega)]
      rw [e1] at hd'
      exact hd'
    have hA' := hA.out
    by_cases h3 : j < 3
    · obtain ⟨hd, bb⟩ := hA'
      have hjj : j = 0 ∨ j = 1 ∨ j = 2 := by omega
      rcases hjj with rfl | rfl | rfl
      all_goals
        have hL := step _ h3 hd bb
        simp only [firstM] at hL
        clear step hA hd bb
        have i0 : (Instr.index 47 (.agg #[.int .i64 64, .int .i64 8, .int .i64 200]) (.int .i64 0)).run Tryz.prog wr = .ok (.int .i64 64) wr := by kernel_rfl
        have i1 : (Instr.index 47 (.agg #[.int .i64 64, .int .i64 8, .int .i64 200]) (.int .i64 1)).run Tryz.prog wr = .ok (.int .i64 8) wr := by kernel_rfl
        have i2 : (Instr.index 47 (.agg #[.int .i64 64, .int .i64 8, .int .i64 200]) (.int .i64 2)).run Tryz.prog wr = .ok (.int .i64 200) wr := by kernel_rfl
        go_wp2_with (go_at_call 120; refine hL.mono ?_; rintro e w1 ⟨rfl, hR⟩)
        go_roundg (gk - 1)
        case measure => omega
        case rel => exact ⟨_, by omega, by go_num, hR⟩
    · have hj3 : j = 3 := by omega
      subst hj3
      obtain ⟨hd, bb⟩ := hA'
      have e1 : limTo 3 = firstM := by
        funext i
        unfold limTo firstM
        by_cases e : i < 3
        · rw [if_pos e]
        · rw [if_neg e, if_neg (by omega), if_neg (by omega), if_neg (by omega)]
      rw [e1] at hd
      have HR : Aside _ := (⟨hd, bb⟩ : Hd wr (wa.heap.size + 1) c wa.heap.size zeroU firstM 0 ∧ Below W0.heap.size W0 wr)
      clear hA step hd bb e1
      go_wp2_with fail
      go_ret2
      exact ⟨wa, c, gc, rfl, HV.out, HB.out, hc, hg, by rw [HW0.out]; exact HR.out.2, HR.out.1⟩
end
/-- A kernel at first. -/
def firstS (n : Nat) : KS := ⟨n, firstJ, noneD nullT, [zeroN], [noP], fun _ _ => 0, fun p => if p = 1 then some ⟨0, firstM, 0⟩ else none⟩
theorem firstS_ok (n : Nat) : KOk (firstS n) := by
  refine ⟨fun p => ?_, fun j hj hn => ?_, fun p o e => ?_⟩
  · show (if p = 1 then some (⟨0, firstM, 0⟩ : Ow) else none).isSome = runsJ firstJ p
    unfold runsJ stJ firstJ
    by_cases e : p = 1
    · rw [if_pos e, if_pos e]; rfl
    · rw [if_neg e, if_neg e]; rfl
  · have : j = 0 := by
      have : j < 1 := hj
      omega
    exact absurd this.symm (hn 1 ⟨0, firstM, 0⟩ rfl)
  · have e : (if p = 1 then some (⟨0, firstM, 0⟩ : Ow) else none) = some o := e
    split at e
    · cases e
      refine ⟨fun k => ?_, by show (-100 : Int) ≤ 0; omega, by show (0 : Int) ≤ 100; omega⟩
      show 0 ≤ firstM k ∧ firstM k ≤ 1000000
      unfold firstM
      split
      · omega
      · split
        · omega
        · split <;> omega
    · cases e
open Classical in
theorem KM.first {ok : Bool} {w0 w : World} {m : Int} {E : St} {Av Ad : Nat → Prop} {n c gc f r tb hb t g gm kb : Nat} (hn : E.n = n)
    (v : VS E w c gc (fun _ _ => 0) Av (fun _ => none) (fun _ => 0)) (kd : KD w m f r (noneD nullT) [tb] [zeroN] 0 Ad) (qj : QJ w t g firstJ 1)
    (head : w.heap[kb]? = some (.cells #[wp E.b, wp r, wp f, wp t, .map (some gm)] 106)) (pm : PMap w gm 1 (fun p => if p = 1 then some (wp hb) else none)) (hd : Hd w hb c tb zeroU firstM 0) (tab : TabH ok w)
    (hv : ∀ i, vown E Av i → w0.heap.size ≤ i) (hA : ∀ i, Ad i → w0.heap.size ≤ i ∧ ¬ vown E Av i ∧ i ≠ gc ∧ i ≠ c ∧ i ≠ E.b ∧ i ≠ E.bm ∧ i ≠ g ∧ i ≠ gm ∧ i ≠ hb ∧ i ≠ kb ∧ i ≠ t)
    (h1 : ¬ vown E Av g ∧ ¬ vown E Av gm ∧ ¬ vown E Av hb ∧ ¬ vown E Av kb ∧ ¬ vown E Av t) (h2 : gc ≠ g ∧ gc ≠ gm ∧ gc ≠ hb ∧ gc ≠ kb ∧ gc ≠ t ∧ gc ≠ c) (h3 : g ≠ gm ∧ g ≠ hb ∧ g ≠ kb ∧ g ≠ E.b ∧ g ≠ E.bm ∧ g ≠ t ∧ g ≠ c) (h4 : gm ≠ hb ∧ gm ≠ kb ∧ gm ≠ E.b ∧ gm ≠ E.bm ∧ gm ≠ t ∧ gm ≠ c) (h5 : hb ≠ kb ∧ hb ≠ E.b ∧ hb ≠ E.bm ∧ hb ≠ t ∧ hb ≠ c)
    (h6 : w0.heap.size ≤ g ∧ w0.heap.size ≤ gm ∧ w0.heap.size ≤ hb ∧ w0.heap.size ≤ kb ∧ w0.heap.size ≤ t ∧ w0.heap.size ≤ c ∧ w0.heap.size ≤ gc ∧ w0.heap.size ≤ E.b ∧ w0.heap.size ≤ E.bm) (h7 : 4 < w0.heap.size ∧ 0 < w0.heap.size ∧ 2 < w0.heap.size) :
    ∃ A, KN w m ⟨kb, E.b, f, r, t, g, gm, fun _ => hb, fun _ => c, fun _ => tb, ok⟩ (firstS n) 0 A ∧ ∀ i, A i → w0.heap.size ≤ i := by
  let κ : Nat → Nat := fun i => if vown E Av i ∨ i = gc then 1 else if Ad i then 2 else if i = g then 3 else if i = gm then 4 else if i = hb then 5 else if i = kb ∨ i = E.b ∨ i = E.bm ∨ i = t ∨ i = c then 6 else 0
  have st := v.st
  have hO : ∀ p o, (firstS n).O p = some o → p = 1 ∧ o = ⟨0, firstM, 0⟩ := fun p o e => by
    have e : (if p = 1 then some (⟨0, firstM, 0⟩ : Ow) else none) = some o := e
    split at e
    · rename_i z; cases e; exact ⟨z, rfl⟩
    · cases e
  have al := Al.first v
  have k6 : ∀ i, (i = kb ∨ i = E.b ∨ i = E.bm ∨ i = t ∨ i = c) → ¬ vown E Av i → i ≠ gc → κ i = 6 := fun i hi hn hg => by
    have n2 : ¬ Ad i := fun z => by
      obtain ⟨_, _, _, a1, a2, a3, _, _, _, a4, a5⟩ := hA i z
      rcases hi with e | e | e | e | e
      · exact a4 e
      · exact a2 e
      · exact a3 e
      · exact a5 e
      · exact a1 e
    have n3 : i ≠ g ∧ i ≠ gm ∧ i ≠ hb := by
      rcases hi with e | e | e | e | e
      · rw [e]; exact ⟨Ne.symm h3.2.2.1, Ne.symm h4.2.1, Ne.symm h5.1⟩
      · rw [e]; exact ⟨Ne.symm h3.2.2.2.1, Ne.symm h4.2.2.1, Ne.symm h5.2.1⟩
      · rw [e]; exact ⟨Ne.symm h3.2.2.2.2.1, Ne.symm h4.2.2.2.1, Ne.symm h5.2.2.1⟩
      · rw [e]; exact ⟨Ne.symm h3.2.2.2.2.2.1, Ne.symm h4.2.2.2.2.1, Ne.symm h5.2.2.2.1⟩
      · rw [e]; exact ⟨Ne.symm h3.2.2.2.2.2.2, Ne.symm h4.2.2.2.2.2, Ne.symm h5.2.2.2.2⟩
    show (if vown E Av i ∨ i = gc then 1 else if Ad i then 2 else if i = g then 3 else if i = gm then 4 else if i = hb then 5 else if i = kb ∨ i = E.b ∨ i = E.bm ∨ i = t ∨ i = c then 6 else 0) = 6
    rw [if_neg (by rintro (z | z); exact hn z; exact hg z), if_neg n2, if_neg n3.1, if_neg n3.2.1, if_neg n3.2.2, if_pos hi]
  have k0 : ∀ i, i < w0.heap.size → κ i = 0 := fun i hi => by
    clear h2 h3 h4 h5 h1 k6 hO
    obtain ⟨a1, a2, a3, a4, a5, a6, a7, a8, a9⟩ := h6
    show (if vown E Av i ∨ i = gc then 1 else if Ad i then 2 else if i = g then 3 else if i = gm then 4 else if i = hb then 5 else if i = kb ∨ i = E.b ∨ i = E.bm ∨ i = t ∨ i = c then 6 else 0) = 0
    rw [if_neg (by rintro (z | z); have := hv i z; omega; omega), if_neg (fun z => by have := (hA i z).1; omega), if_neg (by omega), if_neg (by omega), if_neg (by omega), if_neg (by omega)]
  have hκ : ∀ i, κ i ≠ 0 → w0.heap.size ≤ i := fun i hi => by
    apply Classical.byContradiction
    intro z
    exact hi (k0 i (by omega))
  refine ⟨fun i => κ i ≠ 0, ⟨⟨⟨E, Av, [(c, gc, fun _ => none)], [tb], Ad, κ⟩, ?_, fun _ => Iff.rfl⟩, firstS_ok n⟩, hκ⟩
  refine
    { head := head
      eb := rfl
      en := hn
      al := al
      ms := rfl
      sp := fun j h => by
        have : j = 0 := by simp at h; omega
        subst this; rfl
      kd := kd
      tb := fun j h => by
        have : j = 0 := by simp at h; omega
        subst this; rfl
      qj := ⟨1, qj⟩
      map := ⟨1, ?_⟩
      hold := fun p o e => ?_
      hinj := fun p o p' o' e e' _ => by rw [(hO p o e).1, (hO p' o' e').1]
      len := rfl
      lt := fun p o e => by rw [(hO p o e).2]; show 0 < 1; omega
      key := fun p o e => by rw [(hO p o e).1]; omega
      tab := tab
      nx := by show (0 : Int) ≤ 3 * ((0 : Nat) : Int); omega
      few := by show 1 ≤ 0 + 1; omega
      k1 := fun i hi => ?_
      k2 := fun i hi => ?_
      k3 := ?_
      k4 := ?_
      k5 := fun p o e => ?_
      kk := k6 kb (.inl rfl) h1.2.2.2.1 (Ne.symm h2.2.2.2.1)
      kE := k6 E.b (.inr (.inl rfl)) st.bno (Ne.symm v.gb)
      kB := k6 E.bm (.inr (.inr (.inl rfl))) st.mno (Ne.symm v.gm)
      kt := k6 t (.inr (.inr (.inr (.inl rfl)))) h1.2.2.2.2 (Ne.symm h2.2.2.2.2.1)
      ks := fun j _ => k6 c (.inr (.inr (.inr (.inr rfl)))) v.offc (Ne.symm h2.2.2.2.2.2)
      km := k0 _ h7.1
      ke := k0 _ h7.2.1
      kd0 := k0 _ h7.2.2
      klt := fun i hi => ?_ }
  · have e : (fun p => ((firstS n).O p).map (fun _ => wp hb)) = fun p => if p = 1 then some (wp hb) else none := by
      funext p
      show (if p = 1 then some (⟨0, firstM, 0⟩ : Ow) else none).map _ = _
      split <;> rfl
    show PMap w gm 1 (fun p => ((firstS n).O p).map (fun _ => wp hb))
    rw [e]; exact pm
  · obtain ⟨rfl, rfl⟩ := hO p o e
    refine Hd.congr hd (fun k hk => ?_)
    have z1 : lenP noP = 0 := lenP_none
    have z2 : usedN zeroN = 0 := by decide
    show (0 : Int) = if k = 0 then ((lenP noP : Nat) : Int) else if k = 1 then ((usedN zeroN : Nat) : Int) else 0
    rw [z1, z2]
    split
    · rfl
    · split <;> rfl
  · show (if vown E Av i ∨ i = gc then 1 else _) = 1
    rw [if_pos]
    rcases hi with z | ⟨x, hx, e⟩
    · exact .inl z
    · simp at hx; subst hx; exact .inr e
  · obtain ⟨_, a1, a2, _⟩ := hA i hi
    show (if vown E Av i ∨ i = gc then 1 else if Ad i then 2 else _) = 2
    rw [if_neg (by rintro (z | z); exact a1 z; exact a2 z), if_pos hi]
  · show (if vown E Av g ∨ g = gc then 1 else if Ad g then 2 else if g = g then 3 else _) = 3
    rw [if_neg (by rintro (z | z); exact h1.1 z; exact h2.1 z.symm), if_neg (fun z => (hA g z).2.2.2.2.2.2.1 rfl), if_pos rfl]
  · show (if vown E Av gm ∨ gm = gc then 1 else if Ad gm then 2 else if gm = g then 3 else if gm = gm then 4 else _) = 4
    rw [if_neg (by rintro (z | z); exact h1.2.1 z; exact h2.2.1 z.symm), if_neg (fun z => (hA gm z).2.2.2.2.2.2.2.1 rfl), if_neg (Ne.symm h3.1), if_pos rfl]
  · show (if vown E Av hb ∨ hb = gc then 1 else if Ad hb then 2 else if hb = g then 3 else if hb = gm then 4 else if hb = hb then 5 else _) = 5
    rw [if_neg (by rintro (z | z); exact h1.2.2.1 z; exact h2.2.2.1 z.symm), if_neg (fun z => (hA hb z).2.2.2.2.2.2.2.2.1 rfl), if_neg (Ne.symm h3.2.1), if_neg (Ne.symm h4.1), if_pos rfl]
  · have hi : (if vown E Av i ∨ i = gc then 1 else if Ad i then 2 else if i = g then 3 else if i = gm then 4 else if i = hb then 5 else if i = kb ∨ i = E.b ∨ i = E.bm ∨ i = t ∨ i = c then 6 else 0) ≠ 0 := hi
    split at hi
    · rename_i z
      rcases z with z | z
      · exact st.olt z
      · rw [z]; exact v.sp.glt
    · split at hi
      · rename_i z; exact kd.lt i z
      · split at hi
        · rename_i z; rw [z]; exact qj.map.lt
        · split at hi
          · rename_i z; rw [z]; exact pm.lt
          · split at hi
            · rename_i z; rw [z]; exact hd.lt
            · split at hi
              · rename_i z
                rcases z with z | z | z | z | z
                · rw [z]; exact lt_of_heap head
                · rw [z]; exact st.blt
                · rw [z]; exact st.mlt
                · rw [z]; exact qj.toQM.tlt
                · rw [z]; exact v.sp.lt
              · exact absurd rfl hi
end Go.Proofs.YtcfhanoekniaaaaGreatDoor

namespace Go.Proofs.YtcfhanoekniaaaaGreatDoor
open Go.RowKit Go.Maps

section
variable {w w' : World} {m : Int}
set_option maxRecDepth 100000 in
set_option maxHeartbeats 4000000 in
theorem kernelNew_ok {ok : Bool} (w : World) (n : Nat) (h1 : 1 ≤ n) (h2 : n ≤ 256) (hm : w.cell? ⟨4, 0, none⟩ = some (.int .i64 m)) (he : w.cell? ⟨0, 0, none⟩ = some errT) (ht : TabH ok w) :
    Calls Tryz.prog 12 #[.int .i64 (n : Int)] w fun y w' => ∃ H A, y = .returned (.tuple #[wp H.kb, .nilIface]) ∧ KN w' m H (firstS n) 0 A ∧ (∀ i, A i → w.heap.size ≤ i) ∧ Below w.heap.size w w' ∧ H.ok = ok := by
  have g1 := World.block_lt_of_cell? w _ hm
  have g2 := World.block_lt_of_cell? w _ he
  have g3 := ht.lt
  have chain : Calls Tryz.prog 46 #[.int .i64 (n : Int)] w fun y w1 => ∃ b, y = .returned (.tuple #[wp b, .nilIface]) ∧ Calls Tryz.prog 47 #[] w1 fun y w2 => ∃ r, y = .returned (wp r) ∧ Calls Tryz.prog 48 #[wp r] w2 fun y w3 => ∃ f, y = .returned (.tuple #[wp f, .nilIface]) ∧ Calls Tryz.prog 49 #[wp b] w3 fun y w4 => ∃ hb, y = .returned (.tuple #[wp hb, .nilIface]) ∧ Calls Tryz.prog 50 #[] w4 fun y w5 => ∃ t, y = .returned (wp t) ∧ ∃ w6, (Instr.mapUpdate 104 (.map (some w5.heap.size)) (.int .i64 1) (wp hb)).run Tryz.prog (w5.alloc (.map #[] 0)) = .ok () w6 ∧ Aside (∃ H A, (H.kb = w6.heap.size ∧ H.ok = ok) ∧ KN (w6.alloc (.cells #[wp b, wp r, wp f, wp t, .map (some w5.heap.size)] 106)) m H (firstS n) 0 A ∧ (∀ i, A i → w.heap.size ≤ i) ∧ Below w.heap.size w (w6.alloc (.cells #[wp b, wp r, wp f, wp t, .map (some w5.heap.size)] 106))) := by
    refine (newStore_ok2 w n h1 h2).mono ?_
    rintro y w1 ⟨b, rfl, E, Av, rfl, hEn, vs1, b1, hv1, hbE, hmw⟩
    refine ⟨E.b, rfl, (KW.first w1 (m := m) (cell_below hm b1) (cell_below he b1)).mono ?_⟩
    rintro y w2 ⟨r, rfl, b2, hD⟩
    refine ⟨r, rfl, hD.mono ?_⟩
    rintro y w3 ⟨f, rfl, Ad, kd3, hAd, b13⟩
    have b3 : Below w.heap.size w w3 := b1.trans (b13.mono b1.size)
    have vs3 : Vs E w3 (fun _ _ => 0) (Rof fun _ => 0) Av := vs1.below b13
    refine ⟨f, rfl, (newHolding_ok vs3).mono ?_⟩
    rintro y w4 ⟨wa, c, gc, rfl, va, ba, hc, hgc, b4, hd4⟩
    have hba := ba.size
    have s0 : (wa.alloc (.cells (nv zeroN).toArray 216)).heap.size = wa.heap.size + 1 := by show (wa.heap.push _).size = _; rw [Array.size_push]
    have bT : Below wa.heap.size wa (wa.alloc (.cells (nv zeroN).toArray 216)) := (Below.refl _ _).alloc (Nat.le_refl _) _
    have ba4 : Below wa.heap.size wa w4 := bT.trans (b4.mono bT.size)
    have kdT := (kd3.below ba).table (by simp)
    have kd4 : KD w4 m f r (noneD nullT) [wa.heap.size] [zeroN] 0 (fun i => Ad i ∨ i = wa.heap.size) := kdT.below b4
    have v4 := va.below ba4
    have h41 := b4.size
    rw [s0] at h41
    have hdl : wa.heap.size + 1 < w4.heap.size := hd4.lt
    refine ⟨wa.heap.size + 1, rfl, (newTJ_ok w4).mono ?_⟩
    rintro y w5 ⟨t, g, rfl, qj5, b5, htl, hgl⟩
    have p0 : PMap (w5.alloc (.map #[] 0)) w5.heap.size 0 (fun _ => none) := PMap.made w5
    have bM : Below w5.heap.size w5 (w5.alloc (.map #[] 0)) := (Below.refl _ w5).alloc (Nat.le_refl _) _
    have sM : (w5.alloc (.map #[] 0)).heap.size = w5.heap.size + 1 := by show (w5.heap.push _).size = _; rw [Array.size_push]
    obtain ⟨w6, hrun, q6, g6⟩ := p0.put Tryz.underlying104 (by unfold maxLen; omega) 1 (by decide) (wp (wa.heap.size + 1))
    have b6 : Below w5.heap.size w5 w6 := below_of_grown bM g6 (Nat.le_refl _)
    have h61 : w5.heap.size + 1 ≤ w6.heap.size := by have := g6.size; rw [sM] at this; exact this
    have bK : Below w6.heap.size w6 (w6.alloc (.cells #[wp E.b, wp r, wp f, wp t, .map (some w5.heap.size)] 106)) := (Below.refl _ _).alloc (Nat.le_refl _) _
    have b5K : Below w5.heap.size w5 (w6.alloc (.cells #[wp E.b, wp r, wp f, wp t, .map (some w5.heap.size)] 106)) := b6.trans (bK.mono b6.size)
    have b4K := b5.trans (b5K.mono b5.size)
    have head : (w6.alloc (.cells #[wp E.b, wp r, wp f, wp t, .map (some w5.heap.size)] 106)).heap[w6.heap.size]? = some (.cells #[wp E.b, wp r, wp f, wp t, .map (some w5.heap.size)] 106) := by
      show (w6.heap.push _)[w6.heap.size]? = _
      rw [Array.getElem?_push, if_pos rfl]
    have q6' : PMap w6 w5.heap.size 1 (fun p => if p = 1 then some (wp (wa.heap.size + 1)) else none) := q6
    have pm := q6'.keep (bK.block _ q6'.lt)
    have bw1 := b1.size
    have bw13 := b13.size
    have bw5 := b5.size
    have hvlt : ∀ i, vown E Av i → w.heap.size ≤ i ∧ i < w1.heap.size := fun i hi => ⟨Nat.le_of_not_lt (fun z => hv1 i z hi), vs1.olt hi⟩
    have hAlt : ∀ i, (Ad i ∨ i = wa.heap.size) → w1.heap.size ≤ i ∧ i < wa.heap.size + 1 ∧ (i < w3.heap.size ∨ i = wa.heap.size) := fun i hi => by
      rcases hi with z | z
      · have := hAd i z; have := kd3.lt i z; exact ⟨by omega, by omega, .inl (by omega)⟩
      · exact ⟨by omega, by omega, .inr z⟩
    have hbl := vs1.blt
    have hml := vs1.mlt
    have hcl := va.sp.lt
    have hgl2 := va.sp.glt
    have htl5 := qj5.toQM.tlt
    have hgl5 := qj5.map.lt
    have htg := qj5.toQM.gt
    have hcg := va.sp.ne
    obtain ⟨A, kn, hA⟩ := KM.first (w0 := w) (m := m) hEn (v4.below b4K) (kd4.below b4K) ⟨qj5.toQM.below b5K, qj5.ok, qj5.dj⟩ head pm (hd4.below b4K) (ht.keep ((b3.trans ((ba.trans (ba4.mono ba.size)).mono b3.size |>.trans (b4K.mono (by omega)))).block _ g3)) (fun i hi => (hvlt i hi).1) (fun i hi => by
      obtain ⟨a1, a2, a3⟩ := hAlt i hi
      have n1 : ¬ vown E Av i := fun z => by have := hvlt i z; omega
      exact ⟨by omega, n1, by omega, by omega, by omega, by omega, by omega, by omega, by omega, by omega, by omega⟩)
      ⟨fun z => by have := hvlt _ z; omega, fun z => by have := hvlt _ z; omega, fun z => by have := hvlt _ z; omega, fun z => by have := hvlt _ z; omega, fun z => by have := hvlt _ z; omega⟩
      ⟨by omega, by omega, by omega, by omega, by omega, Ne.symm hcg⟩ ⟨by omega, by omega, by omega, by omega, by omega, htg, by omega⟩ ⟨by omega, by omega, by omega, by omega, by omega, by omega⟩ ⟨by omega, by omega, by omega, by omega, by omega⟩ ⟨by omega, by omega, by omega, by omega, by omega, by omega, by omega, by omega, hmw⟩ ⟨g1, g2, g3⟩
    refine ⟨t, rfl, w6, hrun, _, A, ⟨rfl, rfl⟩, kn, hA, ?_⟩
    exact (b3.trans (ba.mono b3.size)).trans ((ba4.trans (b4K.mono ba4.size)).mono (by omega))
  have hmm := @run_makeMap Tryz.prog
  clear hm he ht g1 g2 g3 h1 h2
  go_enter Tryz.func12, Tryz.ntmps12
  go_upto_region 11 with (first
    | (go_at_call 46; refine chain.mono ?_; rintro e w1 ⟨b, rfl, c1⟩)
    | (go_at_call 47; refine c1.mono ?_; rintro e w2 ⟨r, rfl, c2⟩)
    | (go_at_call 48; refine c2.mono ?_; rintro e w3 ⟨f, rfl, c3⟩)
    | (go_at_call 49; refine c3.mono ?_; rintro e w4 ⟨hb, rfl, c4⟩))
  clear chain c1 c2 c3
  go_wp2_with (go_at_call 50; refine c4.mono ?_; rintro e w5 ⟨t, rfl, w6, hrun, hR⟩)
  go_ret2
  obtain ⟨H, A, hk, kn, hA, bb⟩ := hR.out
  exact ⟨H, A, by rw [hk.1]; rfl, kn, hA, bb, hk.2⟩
end
end Go.Proofs.YtcfhanoekniaaaaGreatDoor

namespace Go.Proofs.YtcfhanoekniaaaaGreatDoor
open Go.RowKit Go.Maps Go.Shelf

theorem cd_info : ∃ i, Tryz.prog.info? 324 = some i ∧ i.zero = some (.agg #[.int .i64 0, .int .i64 0, .int .i64 0]) ∧ i.size = 3 ∧ i.bytes = 24 :=
  info_parts (P := Tryz.prog) (e := 324) (z := .agg #[.int .i64 0, .int .i64 0, .int .i64 0]) (size := 3) (bytes := 24) (by kernel_rfl)
/-- A part of an array, cell by cell. -/
theorem Cds.news {w : World} {blk off : Nat} {L : List Cd} (hq : ∀ j (hj : j < L.length), w.cell? ⟨blk, off + j * 3, none⟩ = some (.int .i64 L[j].pid) ∧ w.cell? ⟨blk, off + j * 3 + 1, none⟩ = some (.int .i64 L[j].res) ∧ w.cell? ⟨blk, off + j * 3 + 2, none⟩ = some (.int .i64 L[j].adj)) (j : Nat) (u : Value) (h : (ccl L)[j]? = some u) : w.cell? ((⟨blk, off, none⟩ : Addr).add j) = some u := by
  have hj : j < L.length * 3 := by have := (List.getElem?_eq_some_iff.1 h).1; rwa [ccl_len] at this
  have hq1 : j / 3 < L.length := by omega
  obtain ⟨e0, e1, e2⟩ := hq (j / 3) hq1
  obtain ⟨f0, f1, f2⟩ := ccl_get L (j / 3) L[j / 3] (by simp [hq1])
  rw [Addr.add_lit]
  have hm : j % 3 = 0 ∨ j % 3 = 1 ∨ j % 3 = 2 := by omega
  rcases hm with z | z | z
  · rw [show j = j / 3 * 3 by omega] at h ⊢
    rw [f0] at h; rw [← h]; exact e0
  · rw [show j = j / 3 * 3 + 1 by omega] at h ⊢
    rw [f1] at h; rw [← h, show off + (j / 3 * 3 + 1) = off + j / 3 * 3 + 1 by omega]; exact e1
  · rw [show j = j / 3 * 3 + 2 by omega] at h ⊢
    rw [f2] at h; rw [← h, show off + (j / 3 * 3 + 2) = off + j / 3 * 3 + 2 by omega]; exact e2
/-- append, by its own equation, as one step of a region that draws. -/
theorem step_append_run {P : Program} {ops : Array Oper} {o : Oper} {a : Act} {w : World} {K : Act → World → Prop} {Q : Exit → Act → World → Prop} {E : Prop}
    (hg : o.guard = none) (s x : Operand) (t : TypeId) (hop : o.op = Op.call { callee := Callee.builtin Builtin.append, args := #[s, x], argTypes := #[t, t] })
    (v y v' : Value) (w' : World) (hs : a.eval s = v) (hx : a.eval x = y) (hr : (Builtin.append_ #[t, t] o.type #[v, y]).run P w = .ok v' w') (hK : K (a.put o.dst v') w') :
    if Region.wanted o (yielded ops a.tmps) = true then Oper.wp P o a w K Q else E := by
  have hw : Region.wanted o (yielded ops a.tmps) = true := by simp [Region.wanted, hg]
  rw [if_pos hw]
  unfold Oper.wp
  simp [execOp, hop, resolve, invoke, builtin, hs, hx, hr, Result.andThen]
  exact hK
theorem CL.keep {w w' : World} {N : Nat} {t : TypeId} {v : Value} {L : List Cd} (h : CL w N t v L) (hb : ∀ i, N ≤ i → i < w.heap.size → w'.heap[i]? = w.heap[i]?) : CL w' N t v L := by
  refine ⟨h.1, ?_⟩
  rcases h.2 with z | ⟨g, cap, cur, rfl, h1, h2, h3⟩
  · exact .inl z
  · exact .inr ⟨g, cap, cur, rfl, h1, (hb g h1 (by
      by_cases e : g < w.heap.size
      · exact e
      · rw [Array.getElem?_eq_none (by omega)] at h2; cases h2)).trans h2, h3⟩
/-- What an append of such a part leaves. -/
theorem append_cds {W : World} {N : Nat} {v : Value} {M L : List Cd} (hown : CL W N 324 v M) {blk off : Nat} (hq : Cells W blk off L) (c : Nat) (hm : M.length ≤ 100) (hl : L.length ≤ 100) (hN : N ≤ W.heap.size) :
    ∃ v' w', (∀ ty, ty = 190 → (Builtin.append_ #[190, 190] ty #[v, .slice (some ⟨blk, off, none⟩) L.length c]).run Tryz.prog W = .ok v' w') ∧ CL w' N 324 v' (M ++ L) ∧ W.grownBy w' v.ownBlock := by
  obtain ⟨i0, hi0, hz0, hz1, hz2⟩ := cd_info
  obtain ⟨v', w', hr, ho, hg, _⟩ := run_append_own_at (P := Tryz.prog) W N 190 190 324 i0 (.agg #[.int .i64 0, .int .i64 0, .int .i64 0]) 3 24 Tryz.underlying190 hi0 hz0 hz1 hz2 rfl (by decide) v M.length (ccl M) hown ⟨blk, off, none⟩ L.length c (ccl L) (ccl_len L) (Cds.news hq) (ccl_one L) (by unfold maxLen; omega) (by omega) hN
  refine ⟨v', w', fun ty e => by rw [e]; exact hr, ?_, hg⟩
  unfold CL
  rw [List.length_append, ccl_app]; exact ho
end Go.Proofs.YtcfhanoekniaaaaGreatDoor

namespace Go.Proofs.YtcfhanoekniaaaaGreatDoor
open Go.RowKit Go.Maps Go.Sort

/-- One that may go. -/
def candOf (S : KS) (p : Int) : Option Cd := if p = 1 then none else (S.O p).map (fun o => ⟨p, ((resP (msJ S o.j) : Nat) : Int), o.adj⟩)
def cands (S : KS) : List Cd := (pidsJ S.P).filterMap (candOf S)
section
variable {w w' : World} {m : Int} {H : KH} {S : KS} {U : Nat → Nat → Int} {q : Nat} {A : Nat → Prop} {p : Int} {o : Ow}
theorem cands_take {l : List Int} {i : Nat} (h : i < l.length) : (l.take (i + 1)).filterMap (candOf S) = (l.take i).filterMap (candOf S) ++ (candOf S l[i]).toList := by
  rw [List.take_add_one, List.getElem?_eq_getElem h, List.filterMap_append]
  congr 1
theorem cands_len (S : KS) : (cands S).length ≤ 24 := Nat.le_trans (List.length_filterMap_le _ _) (pidsJ_len _)
set_option maxRecDepth 100000 in
set_option maxHeartbeats 4000000 in
theorem KX.candidates (h : KX w m H S U q A) : Calls Tryz.prog 123 #[wp H.kb] w fun y w' => ∃ ad cap, y = .returned (.slice ad (cands S).length cap) ∧ Cds w' ad (cands S) ∧ Below w.heap.size w w' := by
  have c3 := h.c3
  obtain ⟨L, hL⟩ : ∃ L, pidsJ S.P = L := ⟨_, rfl⟩
  have hl24 : L.length ≤ 24 := by rw [← hL]; exact pidsJ_len _
  have hwf : ∀ p ∈ L, 1 ≤ p ∧ p ≤ 24 := fun p hp => by
    rw [← hL] at hp
    obtain ⟨x, hx⟩ := Option.isSome_iff_exists.1 (h.jok.pids.1 hp)
    exact h.jok.key p x hx
  have hP : Calls Tryz.prog 111 #[wp H.t] w fun e w' => ∃ b cap, e = .returned (.slice (some ⟨b, 0, none⟩) L.length cap) ∧ L.length ≤ cap ∧ w.heap.size ≤ b ∧ b < w'.heap.size ∧ (∀ j (hj : j < L.length), w'.cell? ⟨b, j, none⟩ = some (.int .i64 L[j])) ∧ Below w.heap.size w w' := by
    have h1 := h.one
    obtain ⟨G, k, e⟩ := h
    obtain ⟨c, qj⟩ := k.qj
    refine (qj.toQM.pids h1).mono ?_
    rintro e w1 ⟨b, cap, rfl, hc, hb, hb2, hh, bb⟩
    rw [hL] at hh hc ⊢
    refine ⟨b, cap, rfl, hc, hb, hb2, fun j hj => ?_, bb⟩
    have := (hh j (by simpa using hj)).1
    rw [Nat.zero_add] at this
    have e9 : L.toArray[j]! = L[j] := by rw [getElem!_pos _ j (by simpa using hj)]; simp
    rw [this, e9]
  have hcell : ∀ V, Below w.heap.size w V → V.cell? ⟨H.kb, 4, none⟩ = some (.map (some H.gm)) := fun V hb => (h.below hb).c4
  have hlook : ∀ V p, 1 ≤ p ∧ p ≤ 24 → Below w.heap.size w V → (Instr.lookup 104 (.map (some H.gm)) (.int .i64 p) false).run Tryz.prog V = .ok (match S.O p with | some o => wp (H.hs o.j) | none => .pointer none) V := fun V p hp hb => (h.below hb).look p (wf24 hp)
  have hres : ∀ V p o, S.O p = some o → Below w.heap.size w V → (V.cell? ⟨H.hs o.j, 0, none⟩ = some (wp (H.sp o.j)) ∧ V.cell? ⟨H.hs o.j, 8, none⟩ = some (.int .i64 o.adj)) ∧ Calls Tryz.prog 117 #[wp (H.sp o.j)] V fun y w' => y = .returned (.int .i64 ((resP (msJ S o.j) : Nat) : Int)) ∧ Below V.heap.size V w' := fun V p o ho hb => ⟨⟨((h.below hb).hd ho).at 0, ((h.below hb).hd ho).at 8⟩, (h.below hb).resS (h.jlt ho)⟩
  have HC : Aside _ := hcell
  have HL : Aside _ := hlook
  have HR : Aside _ := hres
  have HW : Aside _ := hwf
  have hcs : cands S = L.filterMap (candOf S) := by unfold cands; rw [hL]
  rw [hcs]
  have HLL : Aside _ := hL
  clear h hcell hlook hres hwf hcs hL
  go_enter Tryz.func123, Tryz.ntmps123
  go_wp2_with (go_at_call 111; refine hP.mono ?_; rintro e w1 ⟨b, cap, rfl, hcap, hbw, hb1, hcc, b1⟩)
  have HCC : Aside (∀ j (hj : j < L.length), w1.cell? ⟨b, j, none⟩ = some (.int .i64 L[j])) := hcc
  clear hP c3 hcc
  go_loopg [3, 13] L.length (fun mm s3 s13 wr => ∃ i : Nat, i + mm = L.length ∧ s13 = .int .i64 (i : Int) ∧ CL wr w1.heap.size 324 s3 ((L.take i).filterMap (candOf S)) ∧ Below w1.heap.size w1 wr ∧ Below w.heap.size w wr)
  case atStart => exact ⟨0, by omega, rfl, ⟨rfl, .inl ⟨rfl, rfl⟩⟩, Below.refl _ _, b1⟩
  case round =>
    obtain ⟨i, hi, rfl, row, bw1, bw⟩ := hrel
    by_cases hlt : (i : Int) < (L.length : Int)
    · have hiL : i < L.length := by omega
      have hic : (i : Int) < (cap : Int) := by omega
      have c0 : wr.cell? ⟨b, i, none⟩ = some (.int .i64 L[i]) := by rw [bw1.cell (p := ⟨b, i, none⟩) hb1]; exact HCC.out i hiL
      have hk := HW.out L[i] (List.getElem_mem hiL)
      have c4 := HC.out wr bw
      have l4 := HL.out wr L[i] hk bw
      have htk := cands_take (S := S) hiL
      have HT : Aside _ := htk
      have hlen : ((L.take i).filterMap (candOf S)).length ≤ 24 := by
        refine Nat.le_trans (List.length_filterMap_le _ _) ?_
        rw [List.length_take]; omega
      clear htk
      generalize L[i] = X at *
      cases hO : S.O X with
      | none =>
        rw [hO] at l4
        have e0 : candOf S X = none := by unfold candOf; rw [hO]; split <;> rfl
        have HE : Aside _ := e0
        clear hO e0
        go_wp2_with fail
        go_roundg (gk - 1)
        case measure => omega
        case rel =>
          refine ⟨i + 1, by omega, by go_num, ?_, bw1, bw⟩
          rw [HT.out, HE.out, Option.toList_none, List.append_nil]
          exact row
      | some o =>
        rw [hO] at l4
        simp only at l4
        by_cases hx1 : X = 1
        · have e0 : candOf S X = none := if_pos hx1
          have HE : Aside _ := e0
          clear hO e0
          have hx2 : (X != 1) = false := by simpa using hx1
          subst hx1
          go_wp2_with fail
          go_roundg (gk - 1)
          case measure => omega
          case rel =>
            refine ⟨i + 1, by omega, by go_num, ?_, bw1, bw⟩
            rw [HT.out, HE.out, Option.toList_none, List.append_nil]
            exact row
        · have e0 : candOf S X = some ⟨X, ((resP (msJ S o.j) : Nat) : Int), o.adj⟩ := by unfold candOf; rw [if_neg hx1, hO]; rfl
          have HE : Aside _ := e0
          have hx2 : (X != 1) = true := by simpa using hx1
          have hrs : (wr.cell? ⟨H.hs o.j, 0, none⟩ = some (wp (H.sp o.j)) ∧ wr.cell? ⟨H.hs o.j, 8, none⟩ = some (.int .i64 o.adj)) ∧ Calls Tryz.prog 117 #[wp (H.sp o.j)] wr.drew fun y w2 => y = .returned (.int .i64 ((resP (msJ S o.j) : Nat) : Int)) ∧ (w2.cell? ⟨H.hs o.j, 0, none⟩ = some (wp (H.sp o.j)) ∧ w2.cell? ⟨H.hs o.j, 8, none⟩ = some (.int .i64 o.adj)) ∧ ((w2.alloc (.cells #[.int .i64 X, .int .i64 ((resP (msJ S o.j) : Nat) : Int), .int .i64 o.adj] 324)).cell? ⟨H.hs o.j, 0, none⟩ = some (wp (H.sp o.j)) ∧ (w2.alloc (.cells #[.int .i64 X, .int .i64 ((resP (msJ S o.j) : Nat) : Int), .int .i64 o.adj] 324)).cell? ⟨H.hs o.j, 8, none⟩ = some (.int .i64 o.adj)) ∧ ∃ v9 w9, (Builtin.append_ #[190, 190] 190 #[u3, .slice (some ⟨w2.heap.size, 0, none⟩) 1 1]).run Tryz.prog (w2.alloc (.cells #[.int .i64 X, .int .i64 ((resP (msJ S o.j) : Nat) : Int), .int .i64 o.adj] 324)) = .ok v9 w9 ∧ (w9.cell? ⟨H.hs o.j, 0, none⟩ = some (wp (H.sp o.j)) ∧ w9.cell? ⟨H.hs o.j, 8, none⟩ = some (.int .i64 o.adj)) ∧ Aside (CL w9 w1.heap.size 324 v9 ((L.take i).filterMap (candOf S) ++ [⟨X, ((resP (msJ S o.j) : Nat) : Int), o.adj⟩]) ∧ Below w1.heap.size w1 w9 ∧ Below w.heap.size w w9) := by
            refine ⟨(HR.out wr X o hO bw).1, ((HR.out wr.drew X o hO (bw.trans ((bel_drew wr).mono bw.size))).2).mono ?_⟩
            rintro y w2 ⟨rfl, b2⟩
            have b2' : Below wr.heap.size wr w2 := (bel_drew wr).trans b2
            have bA : Below w2.heap.size w2 (w2.alloc (.cells #[.int .i64 X, .int .i64 ((resP (msJ S o.j) : Nat) : Int), .int .i64 o.adj] 324)) := (Below.refl _ _).alloc (Nat.le_refl _) _
            have bB : Below wr.heap.size wr (w2.alloc (.cells #[.int .i64 X, .int .i64 ((resP (msJ S o.j) : Nat) : Int), .int .i64 o.adj] 324)) := b2'.trans (bA.mono b2'.size)
            have row2 : CL (w2.alloc (.cells #[.int .i64 X, .int .i64 ((resP (msJ S o.j) : Nat) : Int), .int .i64 o.adj] 324)) w1.heap.size 324 u3 ((L.take i).filterMap (candOf S)) := row.keep (fun j _ hj => bB.block j hj)
            have hA : (w2.alloc (.cells #[.int .i64 X, .int .i64 ((resP (msJ S o.j) : Nat) : Int), .int .i64 o.adj] 324)).heap[w2.heap.size]? = some (bx ⟨X, ((resP (msJ S o.j) : Nat) : Int), o.adj⟩) := by
              show (w2.heap.push _)[w2.heap.size]? = _
              rw [Array.getElem?_push, if_pos rfl]
            obtain ⟨x0, x1, x2⟩ := bx_cells hA
            have hcl : Cells (w2.alloc (.cells #[.int .i64 X, .int .i64 ((resP (msJ S o.j) : Nat) : Int), .int .i64 o.adj] 324)) w2.heap.size 0 [⟨X, ((resP (msJ S o.j) : Nat) : Int), o.adj⟩] := fun j hj => by
              have : j = 0 := by simp at hj; omega
              subst this
              exact ⟨x0, x1, x2⟩
            have bws := bw1.size
            have b2s := b2'.size
            have bAs := bA.size
            obtain ⟨v9, w9, hr, hcl9, hg9⟩ := append_cds row2 hcl 1 (by omega) (by simp) (by omega)
            have b19 : Below w1.heap.size w1 w9 := ⟨hg9.os.trans (bB.os.trans bw1.os), hg9.tape.trans (bB.tape.trans bw1.tape), hg9.output.trans (bB.output.trans bw1.output), by have := hg9.size; omega, fun j hj => by
              rw [hg9.block j (by omega) (fun e => by have := (row.lt j e.symm).1; omega), bB.block j (by omega)]
              exact bw1.block j hj⟩
            have bw9 : Below w.heap.size w w9 := b1.trans (b19.mono b1.size)
            have bwA : Below w.heap.size w (w2.alloc (.cells #[.int .i64 X, .int .i64 ((resP (msJ S o.j) : Nat) : Int), .int .i64 o.adj] 324)) := bw.trans (bB.mono bw.size)
            have bw2 : Below w.heap.size w w2 := bw.trans (b2'.mono bw.size)
            exact ⟨rfl, (HR.out w2 X o hO bw2).1, (HR.out _ X o hO bwA).1, v9, w9, hr _ rfl, (HR.out w9 X o hO bw9).1, hcl9, b19, bw9⟩
          obtain ⟨d0, hRs⟩ := hrs
          clear hO e0 HR HC HL HW HCC row
          generalize ((resP (msJ S o.j) : Nat) : Int) = R9 at *
          go_upto_region 7 with fail
          go_region_held3 (fun w' => w'.cell? ⟨H.hs o.j, 0, none⟩ = some (wp (H.sp o.j)) ∧ w'.cell? ⟨H.hs o.j, 8, none⟩ = some (.int .i64 o.adj)) (first | exact d0 | exact d1 | exact d2 | exact d3) (first
            | (go_at_call 117; refine hRs.mono ?_; rintro e w2 ⟨rfl, d1, d2, v9, w9, hrun, d3, hR9⟩)
            | (refine step_append_run rfl (.tmp 29) (.tmp 41) 190 rfl _ _ v9 w9 rfl rfl hrun ?_))
          all_goals
            clear d0 d1 d2 d3 hrun hRs
            go_wp2_with fail
            go_roundg (gk - 1)
            case measure => omega
            case rel =>
              obtain ⟨r1, r2, r3⟩ := hR9.out
              refine ⟨i + 1, by omega, by go_num, ?_, r2, r3⟩
              rw [HT.out, HE.out]
              exact r1
    · have hiL : i = L.length := by omega
      have hT : L.take i = L := by rw [hiL]; exact List.take_length
      rw [hT] at row
      obtain ⟨ad2, cap2, hv2, _, hcd⟩ := row.cds
      subst hv2
      have HD : Aside _ := hcd
      clear hcd row hT HC HL HR HW HCC
      go_wp2_with fail
      go_ret
      exact ⟨ad2, ⟨cap2, rfl⟩, HD.out, bw⟩
end
end Go.Proofs.YtcfhanoekniaaaaGreatDoor
