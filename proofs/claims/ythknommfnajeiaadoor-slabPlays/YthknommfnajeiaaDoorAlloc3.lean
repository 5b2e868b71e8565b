/- Package slab's Alloc, by its Go text. -/
import Derived.Test.YthknommfnajeiaaDoorSlab
namespace Go.Proofs.YthknommfnajeiaaDoor
open Go.RowKit Go.Shelf Go.Lib Go.Sort Go.Maps

/-- A cache turned; all else is as it was. -/
def CTurns (w : World) (c b per g n : Nat) (A : Nat → Prop) (w' : World) (C : Int → Option Nat) (U : Nat → Bool) (T : Int → Option Nat) (m : Nat) : Prop :=
  ∃ A', CA w' c b per g n C U T m A' ∧ Fr (fun i => A i ∨ i = g) w w' ∧ ∀ i, i < w.heap.size → A' i → A i

theorem bits_xor_u32 (a b : Nat) (ha : a < 4294967296) (hb : b < 4294967296) : bits .xor .u32 (a : Int) (b : Int) = ((a ^^^ b : Nat) : Int) := by
  have hx : a ^^^ b < 2 ^ 32 := Nat.xor_lt_two_pow (by omega) (by omega)
  have h1 : (BitVec.ofInt 32 (a : Int)).toNat = a := by
    rw [BitVec.ofInt_natCast, BitVec.toNat_ofNat]; exact Nat.mod_eq_of_lt (by omega)
  have h2 : (BitVec.ofInt 32 (b : Int)).toNat = b := by
    rw [BitVec.ofInt_natCast, BitVec.toNat_ofNat]; exact Nat.mod_eq_of_lt (by omega)
  show IntKind.u32.wrap ((BitVec.ofInt 32 (a : Int) ^^^ BitVec.ofInt 32 (b : Int)).toNat : Int) = _
  rw [BitVec.toNat_xor, h1, h2, wrap_u32']
  omega

theorem flip_u32 {m : Nat} (hm : m < 65536) : bits .xor .u32 IntKind.u32.max (m : Int) = ((4294967295 - m : Nat) : Int) := by
  have e : IntKind.u32.max = ((4294967295 : Nat) : Int) := by kernel_rfl
  rw [e, bits_xor_u32 _ _ (by omega) (by omega)]
  congr 1
  apply Nat.eq_of_testBit_eq; intro i
  rw [Nat.testBit_xor, show (4294967295 : Nat) = 2 ^ 32 - 1 from rfl, Nat.testBit_two_pow_sub_one]
  rw [show 2 ^ 32 - 1 - m = 2 ^ 32 - (m + 1) by omega, Nat.testBit_two_pow_sub_succ (by omega)]
  by_cases hi : i < 32
  · rw [decide_eq_true hi]; simp
  · rw [decide_eq_false hi, Nat.testBit_lt_two_pow (Nat.lt_of_lt_of_le hm (Nat.pow_le_pow_right (by omega : 0 < 2) (by omega : 16 ≤ i)))]; rfl

theorem bits_or_u32 (a b : Nat) (ha : a < 4294967296) (hb : b < 4294967296) : bits .or .u32 (a : Int) (b : Int) = ((a ||| b : Nat) : Int) := by
  have hx : a ||| b < 2 ^ 32 := Nat.or_lt_two_pow (by omega) (by omega)
  have h1 : (BitVec.ofInt 32 (a : Int)).toNat = a := by
    rw [BitVec.ofInt_natCast, BitVec.toNat_ofNat]; exact Nat.mod_eq_of_lt (by omega)
  have h2 : (BitVec.ofInt 32 (b : Int)).toNat = b := by
    rw [BitVec.ofInt_natCast, BitVec.toNat_ofNat]; exact Nat.mod_eq_of_lt (by omega)
  show IntKind.u32.wrap ((BitVec.ofInt 32 (a : Int) ||| BitVec.ofInt 32 (b : Int)).toNat : Int) = _
  rw [BitVec.toNat_or, h1, h2, wrap_u32']
  omega

theorem pow_mod {k : Nat} (hk : k < 16) : (2 : Int) ^ k % 4294967296 = ((2 ^ k : Nat) : Int) ∧ 2 ^ k < 65536 := by
  have h : 2 ^ k < 65536 := Nat.pow_lt_pow_right (a := 2) (by omega) hk
  have e : (2 : Int) ^ k = ((2 ^ k : Nat) : Int) := by simp
  rw [e]; generalize 2 ^ k = p at *; omega
theorem or_place {v k : Nat} (hv : v < 65536) (hk : k < 16) : bits BinOp.or IntKind.u32 (v : Int) ((2 : Int) ^ k % 4294967296) = ((v ||| 2 ^ k : Nat) : Int) := by
  obtain ⟨h1, h2⟩ := pow_mod hk
  rw [h1]; exact bits_or_u32 v (2 ^ k) (by omega) (by omega)

theorem room_in {per : Nat} {C : Int → Option Nat} {ks : List Int} {f : Int} (hp : 1 ≤ per) (h : room per C ks = some f) : f ∈ ks ∧ ones (val C f) < per := by
  unfold room at h
  cases h1 : ks.find? (begun per C) with
  | some x =>
    rw [h1] at h; cases h
    refine ⟨List.mem_of_find?_eq_some h1, ?_⟩
    have := List.find?_some h1
    simp only [begun, Bool.and_eq_true, decide_eq_true_eq] at this; exact this.2
  | none =>
    rw [h1] at h
    have h2 : ks.find? (vac C) = some f := h
    refine ⟨List.mem_of_find?_eq_some h2, ?_⟩
    have := List.find?_some h2
    simp only [vac, decide_eq_true_eq] at this
    rw [this, ones_zero]; omega

theorem PMap.ne_tab {w : World} {g s : Nat} {M : Int → Option Value} (m : PMap w g s M) (h : Tab w) : g ≠ 1 := by
  rintro rfl
  obtain ⟨es, cl, hm⟩ := m.isMap
  have := h 0 (by decide)
  simp [World.cell?, hm] at this

section
variable {w : World} {c b per g n m : Nat} {C : Int → Option Nat} {U : Nat → Bool} {T : Int → Option Nat} {A : Nat → Prop}

set_option maxRecDepth 100000 in
set_option maxHeartbeats 8000000 in
theorem calloc_ok (h : CA w c b per g n C U T m A) (hm : m < 10000) (hT : Tab w) (hTA : ¬ A 1) :
    Calls Tryd.prog 35 #[cp c] w fun e w' => ∃ ks, Ks C ks ∧
      ((∃ f, room per C ks = some f ∧ e = .returned (.tuple #[.int .i64 (f * per + low (val C f)), .nilIface]) ∧ CTurns w c b per g n A w' (putC C f (val C f ||| 2 ^ low (val C f))) U T m) ∨
       (room per C ks = none ∧ (∀ j r, mxb U j r → j < 0) ∧ e = .returned (.tuple #[.int .i64 0, enr 12]) ∧ Below w.heap.size w w') ∨
       (room per C ks = none ∧ ∃ k q, Best U 0 (q * 2 ^ k) k ∧ T ((q * 2 ^ k : Nat) : Int) = none ∧ e = .returned (.tuple #[.int .i64 (((q * 2 ^ k : Nat) : Int) * per), .nilIface]) ∧ CTurns w c b per g n A w' (putC C ((q * 2 ^ k : Nat) : Int) 1) (cut U 0 (q * 2 ^ k)) (fun z => if z = ((q * 2 ^ k : Nat) : Int) then some 0 else T z) (m + 1))) := by
  go_enter Tryd.func35, Tryd.ntmps35
  go_wp2_with fail
  refine (room_ok h hm).mono ?_
  rintro e w3 ⟨ks, hks, hcase⟩
  have key : (room per C ks = none ∧ (∀ j r, mxb U j r → j < 0) ∧ e = .returned (.tuple #[.int .i64 0, enr 12]) ∧ Below w.heap.size w w3) ∨
      ∃ f, e = .returned (.tuple #[.int .i64 f, .nilIface]) ∧ 0 ≤ f ∧ f < 256 ∧ Ch w3 c b per g (num C n) C ∧ ones (val C f) < per ∧ Tab w3 ∧
        ∀ w', PMap w' g (if (C f).isSome then num C n else num C n + 1) (cm (putC C f (val C f ||| 2 ^ low (val C f)))) → w3.grownBy w' (some g) →
          ((∃ f', room per C ks = some f' ∧ Ending.returned (.tuple #[.int .i64 (f * per + low (val C f)), .nilIface]) = .returned (.tuple #[.int .i64 (f' * per + low (val C f')), .nilIface]) ∧ CTurns w c b per g n A w' (putC C f' (val C f' ||| 2 ^ low (val C f'))) U T m) ∨
           (room per C ks = none ∧ ∃ k q, Best U 0 (q * 2 ^ k) k ∧ T ((q * 2 ^ k : Nat) : Int) = none ∧ Ending.returned (.tuple #[.int .i64 (f * per + low (val C f)), .nilIface]) = .returned (.tuple #[.int .i64 (((q * 2 ^ k : Nat) : Int) * per), .nilIface]) ∧ CTurns w c b per g n A w' (putC C ((q * 2 ^ k : Nat) : Int) 1) (cut U 0 (q * 2 ^ k)) (fun z => if z = ((q * 2 ^ k : Nat) : Int) then some 0 else T z) (m + 1))) := by
    rcases hcase with ⟨f, hr, rfl, hb⟩ | ⟨hr, hno, rfl, hb⟩ | ⟨hr, k, q, hB, hTn, rfl, A', a', f', s'⟩
    · obtain ⟨hf, ho⟩ := room_in h.per1 hr
      have hfw := (h.keys hks).1 f hf
      have hfn := h.within f ((hks.2 f).1 hf)
      have h3 := h.below hb
      refine .inr ⟨f, rfl, hfw.1, hfw.2, h3.ch, ho, hT.keep (hb.block _ hT.lt), fun w' pm hg => .inl ⟨f, hr, rfl, A, ?_, ?_, fun _ _ h => h⟩⟩
      · have hsf := (hks.2 f).1 hf
        rw [if_pos hsf, ← num_put_old (m := val C f ||| 2 ^ low (val C f)) hsf] at pm
        refine ⟨⟨(hg.block c h3.ch.lt (fun e => h3.ch.ne (Option.some.inj e))).trans h3.ch.head, pm⟩, ?_, h.per1, h.per16, h.most.put (put_lt (h.most.val f) (low_lt h.per16 (h.most.val f) ho)), fun x hx => ?_, h.offc, h.offg⟩
        · exact h3.pool.keep' (fun i hi => hg.block i (h3.pool.lt' hi) (fun e => h.offg (by cases e; exact hi)))
        · refine h.tk x ?_
          unfold putC at hx; split at hx
          · rename_i e; rw [e]; exact hsf
          · exact hx
      · exact ⟨hg.os.trans hb.os, hg.tape.trans hb.tape, hg.output.trans hb.output, Nat.le_trans hb.size hg.size, fun i hi hn => (hg.block i (Nat.lt_of_lt_of_le hi hb.size) (fun e => hn (.inr (Option.some.inj e)))).trans (hb.block i hi)⟩
    · exact .inl ⟨hr, hno, rfl, hb⟩
    · obtain ⟨z, hz⟩ : ∃ z, q * 2 ^ k = z := ⟨_, rfl⟩
      rw [hz] at hB hTn a'
      simp only [hz]
      have hCz : C (z : Int) = none := by
        cases e : C (z : Int) with
        | none => rfl
        | some v => have := h.tk z (by rw [e]; rfl); rw [hTn] at this; cases this
      have hvz : val C (z : Int) = 0 := by rw [val, hCz]; rfl
      obtain ⟨⟨q', hq', hx⟩, _, _⟩ := hB
      have hzn : z < n := by rw [hq']; exact h.inv.bound _ (hx.2.1 _ (first_in _ _))
      have hn := h.n256
      have hch : Ch w3 c b per g (num C n) C := h.ch.keep (f'.block c h.ch.lt h.offc) (f'.block g h.ch.mlt h.offg)
      have hl0 : low 0 = 0 := by decide +kernel
      refine .inr ⟨(z : Int), rfl, by omega, by omega, hch, by rw [hvz, ones_zero]; exact h.per1, hT.keep (f'.block _ hT.lt hTA), fun w' pm hg => .inr ⟨hr, k, q, ?_⟩⟩
      simp only [hz]
      refine ⟨⟨⟨q', hq', hx⟩, by omega, by assumption⟩, hTn, by rw [hvz, hl0]; simp, A', ?_, ?_, s'⟩
      · rw [hCz, hvz, hl0] at pm
        have hnn := num_put_new (m := 1) hzn hCz
        refine ⟨⟨(hg.block c hch.lt (fun e => hch.ne (Option.some.inj e))).trans hch.head, ?_⟩, ?_, h.per1, h.per16, h.most.put (Nat.one_lt_two_pow (by have := h.per1; omega)), fun x hx => ?_, fun hA => h.offc (s' c h.ch.lt hA), fun hA => h.offg (s' g h.ch.mlt hA)⟩
        · rw [hnn]; exact pm
        · exact a'.keep' (fun i hi => hg.block i (a'.lt' hi) (fun e => h.offg (s' g h.ch.mlt (by cases e; exact hi))))
        · unfold putC at hx; split at hx
          · rename_i e; subst e; simp
          · rename_i e; simp only [e, if_false]; exact h.tk x hx
      · exact ⟨hg.os.trans f'.os, hg.tape.trans f'.tape, hg.output.trans f'.output, Nat.le_trans f'.size hg.size, fun i hi hn => (hg.block i (Nat.lt_of_lt_of_le hi f'.size) (fun e => hn (.inr (Option.some.inj e)))).trans (f'.block i hi (fun h => hn (.inl h)))⟩
  clear hcase
  rcases key with ⟨hr, hno, rfl, hb⟩ | ⟨f, rfl, h0, h1, hc, ho, hT3, hfin⟩
  · go_wp2_with fail
    go_ret2
    exact ⟨ks, hks, .inr (.inl ⟨hr, hno, rfl, hb⟩)⟩
  · have hp := h.per16
    have hl := low_lt hp (h.most.val f) ho
    have hv : val C f < 65536 := Nat.lt_of_lt_of_le (h.most.val f) (Nat.pow_le_pow_right (by omega : 0 < 2) hp)
    have hwf : (Lit.int .i64 f).wf = true := wf_small h0 (by omega)
    have c1 := hc.c1
    have c2 := hc.c2
    have hL := low_call (val C f) hv w3 hT3
    have hfl := flip_u32 hv
    have hput := cm_put C f (val C f ||| 2 ^ low (val C f))
    have hk := (hc.keep (w' := w3.drew) rfl rfl).look f hwf
    have hcm := cm_val C f
    have hsm : num C n < maxLen := by have := num_le C n; have := h.n256; unfold maxLen; omega
    have hmap := hc.map
    have hcg : some c ≠ some g := fun e => hc.ne (Option.some.inj e)
    clear hc h ho
    generalize hlo : low (val C f) = k at *
    generalize val C f = v at *
    go_wp2_with (first
        | (at_lookup; refine wpList_klook rfl _ _ 109 rfl 115 Tryd.underlying109 _ (zero_u32 _) g (num C n) (cm C) rfl hmap f rfl hwf ?_; rw [hcm]))
    refine hL.mono ?_
    rintro e w4 ⟨rfl, h4⟩
    subst w4
    have hor := or_place hv (show k < 16 by omega)
    have hfp : 0 ≤ f * (per : Int) ∧ f * (per : Int) ≤ 4096 := by
      refine ⟨Int.mul_nonneg h0 (by omega), ?_⟩
      have := Int.mul_le_mul (show f ≤ 256 by omega) (show (per : Int) ≤ 16 by omega) (by omega) (by omega : (0 : Int) ≤ 256)
      omega
    obtain ⟨w5, hrun, pm5, g5⟩ := (hmap.keep (w' := w3.drew) rfl).put Tryd.underlying109 hsm f hwf (.int .u32 (bits BinOp.or IntKind.u32 (v : Int) ((2 : Int) ^ k % 4294967296)))
    have hg : w3.grownBy w5 (some g) := ⟨g5.os, g5.tape, g5.output, g5.size, g5.block⟩
    have c1' := hg.cell c1 hcg
    have hend := hfin w5 (by
      rw [← cm_put, ← hor, ← cm_isSome]; exact pm5) hg
    clear hL hfl hfin hput hor pm5
    obtain ⟨y, hy⟩ : ∃ y, f * (per : Int) = y := ⟨_, rfl⟩
    rw [hy] at hfp hend
    go_upto_region 7 with fail
    go_region
    go_wp2_with fail
    go_ret2
    rcases hend with hx | hx
    · exact ⟨ks, hks, .inl (by simpa using hx)⟩
    · exact ⟨ks, hks, .inr (.inr (by simpa using hx))⟩
end
end Go.Proofs.YthknommfnajeiaaDoor
