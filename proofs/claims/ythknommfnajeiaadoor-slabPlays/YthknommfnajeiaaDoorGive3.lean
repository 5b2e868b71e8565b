/- Package slab's Give, by its Go text. -/
import Derived.Test.YthknommfnajeiaaDoorAlloc3
namespace Go.Proofs.YthknommfnajeiaaDoor
open Go.RowKit Go.Shelf Go.Lib Go.Sort Go.Maps

theorem and_place {v k : Nat} (hv : v < 65536) (hk : k < 16) : bits BinOp.and IntKind.u32 (v : Int) ((2 : Int) ^ k % 4294967296) = if v.testBit k then ((2 ^ k : Nat) : Int) else 0 := by
  obtain ⟨h1, h2⟩ := pow_mod hk
  rw [h1, bits_and_u32_nat v (2 ^ k) (by omega) (by omega)]
  split
  · rename_i h
    congr 1
    apply Nat.eq_of_testBit_eq; intro i
    rw [Nat.testBit_and, Nat.testBit_two_pow]
    by_cases e : k = i
    · subst e; simp [h]
    · simp [e]
  · rename_i h
    have : v &&& 2 ^ k = 0 := by
      apply Nat.eq_of_testBit_eq; intro i
      rw [Nat.testBit_and, Nat.testBit_two_pow, Nat.zero_testBit]
      by_cases e : k = i
      · subst e; simp [h]
      · simp [e]
    rw [this]; rfl

theorem not_place {v k : Nat} (hv : v < 65536) (hk : k < 16) (h : v.testBit k = true) : bits BinOp.andNot IntKind.u32 (v : Int) ((2 : Int) ^ k % 4294967296) = ((drop v k : Nat) : Int) := by
  obtain ⟨h1, h2⟩ := pow_mod hk
  have hd : drop v k < 2 ^ 32 := Nat.lt_of_lt_of_le (drop_lt (per := 16) (by omega) hk) (by decide)
  have e1 : (BitVec.ofInt 32 (v : Int)).toNat = v := by
    rw [BitVec.ofInt_natCast, BitVec.toNat_ofNat]; exact Nat.mod_eq_of_lt (by omega)
  have e2 : (BitVec.ofInt 32 ((2 ^ k : Nat) : Int)).toNat = 2 ^ k := by
    rw [BitVec.ofInt_natCast, BitVec.toNat_ofNat]; exact Nat.mod_eq_of_lt (by omega)
  rw [h1]
  show IntKind.u32.wrap ((BitVec.ofInt 32 (v : Int) &&& ~~~ BitVec.ofInt 32 ((2 ^ k : Nat) : Int)).toNat : Int) = _
  rw [BitVec.toNat_and, BitVec.toNat_not, e1, e2, wrap_u32']
  have e3 : v &&& (2 ^ 32 - 1 - 2 ^ k) = drop v k := by
    apply Nat.eq_of_testBit_eq; intro i
    rw [drop_bit h, Nat.testBit_and, show 2 ^ 32 - 1 - 2 ^ k = 2 ^ 32 - (2 ^ k + 1) by omega, Nat.testBit_two_pow_sub_succ (by omega), Nat.testBit_two_pow]
    by_cases hi : i < 32
    · rw [decide_eq_true hi]; simp
    · rw [Nat.testBit_lt_two_pow (Nat.lt_of_lt_of_le hv (Nat.pow_le_pow_right (by omega : 0 < 2) (by omega : 16 ≤ i)))]; rfl
  rw [e3]
  generalize drop v k = d at *
  omega

theorem none_num {C : Int → Option Nat} {n : Nat} (hw : Within C n) (h : num C n = 0) (x : Int) : val C x = 0 := by
  apply val_none
  intro hx
  obtain ⟨h0, h1⟩ := hw x hx
  have := sumTo_cnt (fun f => (C f).isSome) n 0
  rw [num, this] at h
  have hz : ∀ m a, cnt (fun f : Nat => (C f).isSome) a m = 0 → ∀ i, i < m → (C ((a + i : Nat) : Int)).isSome = false := by
    intro m; induction m with
    | zero => intro a _ i hi; omega
    | succ m ih =>
      intro a h i hi
      rw [cnt] at h
      have h0 : (C (a : Int)).isSome = false := by
        cases e : (C (a : Int)).isSome with
        | false => rfl
        | true => rw [e] at h; simp at h
      by_cases e : i = 0
      · rw [e]; exact h0
      · have := ih (a + 1) (by omega) (i - 1) (by omega); rwa [show a + 1 + (i - 1) = a + i by omega] at this
  have := hz n 0 h x.toNat (by omega)
  rw [Nat.zero_add, Int.toNat_of_nonneg h0, hx] at this
  cases this

section
variable {w : World} {c b per g n m : Nat} {C : Int → Option Nat} {U : Nat → Bool} {T : Int → Option Nat} {A : Nat → Prop}

set_option maxRecDepth 100000 in
set_option maxHeartbeats 8000000 in
theorem cgive_ok (h : CA w c b per g n C U T m A) (k : Int) (hk : (Lit.int .i64 k).wf = true) :
    Calls Tryd.prog 36 #[cp c, .int .i64 k] w fun e w' => (isT per C k = false ∧ e = .returned (enr 7) ∧ Below w.heap.size w w') ∨ (isT per C k = true ∧ e = .returned .nilIface ∧ CTurns w c b per g n A w' (putC C (k / per) (drop (val C (k / per)) (k % per).toNat)) U T m) := by
  by_cases hneg : k < 0
  · go_enter Tryd.func36, Tryd.ntmps36
    go_wp2_with fail
    go_ret
    exact .inl ⟨by rw [isT, decide_eq_false (by omega)]; rfl, rfl, Below.refl _ _⟩
  · have hcount := count_ok h
    obtain ⟨K, rfl⟩ : ∃ K : Nat, k = (K : Int) := ⟨k.toNat, by omega⟩
    go_enter Tryd.func36, Tryd.ntmps36
    go_wp2_with fail
    refine hcount.mono ?_
    rintro e w2 ⟨rfl, hb⟩
    by_cases hn0 : num C n = 0
    · rw [hn0]
      go_wp2_with fail
      go_ret
      exact .inl ⟨by rw [isT, none_num h.within hn0]; simp, rfl, hb⟩
    · have hn1 : ¬ ((num C n : Nat) : Int) = 0 := by omega
      have h2 := h.below hb
      have c1 := h2.ch.c1
      have c2 := h2.ch.c2
      have hp1 := h.per1
      have hp16 := h.per16
      obtain ⟨F, hF⟩ : ∃ F, K / per = F := ⟨_, rfl⟩
      obtain ⟨R, hR⟩ : ∃ R, K % per = R := ⟨_, rfl⟩
      have hRp : R < per := by rw [← hR]; exact Nat.mod_lt _ hp1
      have hFK : F ≤ K := by rw [← hF]; exact Nat.div_le_self _ _
      have q1 : (K : Int).tdiv (per : Int) = (F : Int) := by rw [← hF]; exact (Int.ofNat_tdiv K per).symm
      have q2 : (K : Int).tmod (per : Int) = (R : Int) := by rw [← hR]; exact (Int.ofNat_tmod K per).symm
      have q3 : ¬ (per : Int) = 0 := by omega
      have hKm : (K : Int) ≤ 9223372036854775807 := by
        simp only [Lit.wf, Bool.and_eq_true, decide_eq_true_eq] at hk; exact hk.2
      have hwf : (Lit.int .i64 (F : Int)).wf = true := by
        have a : IntKind.min .i64 = -9223372036854775808 := rfl
        have b : IntKind.max .i64 = 9223372036854775807 := rfl
        simp only [Lit.wf, a, b, Bool.and_eq_true, decide_eq_true_eq]; omega
      have eF : (K : Int) / (per : Int) = (F : Int) := by rw [← hF]; rfl
      have eR : ((K : Int) % (per : Int)).toNat = R := by rw [← hR]; rfl
      have hisT : isT per C (K : Int) = (val C (F : Int)).testBit R := by rw [isT, eF, eR, decide_eq_true (by omega)]; rfl
      have fin : ∀ (e : Ending) (w' : World), (((val C (F : Int)).testBit R = false ∧ e = .returned (enr 7) ∧ Below w.heap.size w w') ∨ ((val C (F : Int)).testBit R = true ∧ e = .returned .nilIface ∧ CTurns w c b per g n A w' (putC C (F : Int) (drop (val C (F : Int)) R)) U T m)) → ((isT per C (K : Int) = false ∧ e = .returned (enr 7) ∧ Below w.heap.size w w') ∨ (isT per C (K : Int) = true ∧ e = .returned .nilIface ∧ CTurns w c b per g n A w' (putC C ((K : Int) / per) (drop (val C ((K : Int) / per)) ((K : Int) % per).toNat)) U T m)) := by
        intro e w'; rw [hisT, eF, eR]; exact id
      have hv : val C (F : Int) < 65536 := Nat.lt_of_lt_of_le (h.most.val _) (Nat.pow_le_pow_right (by omega : 0 < 2) hp16)
      have hR16 : R < 16 := by omega
      have hand := and_place hv hR16
      have hnot := not_place hv hR16
      have hcm := cm_val C (F : Int)
      have hmap := h2.ch.map
      obtain ⟨B, hB⟩ : ∃ B : Int, (2 : Int) ^ R % 4294967296 = B := ⟨_, rfl⟩
      rw [hB] at hand hnot
      clear hF hR eF eR hisT hcount hk
      go_upto_region 3 with fail
      go_quiet (fail)
      rw [hB]
      have hdl : (val C (F : Int)).testBit R = true → drop (val C (F : Int)) R < 2 ^ per := fun _ => drop_lt (h.most.val _) hRp
      have hsm : num C n < maxLen := by have := num_le C n; have := h.n256; unfold maxLen; omega
      clear hB q1 q2 q3 hKm hFK
      by_cases hbit : (val C (F : Int)).testBit R = true
      · have hsf : (C (F : Int)).isSome = true := some_of_val (fun e => by rw [e] at hbit; simp at hbit)
        have hcp := cm_put C (F : Int) (drop (val C (F : Int)) R)
        have hdl' := hdl hbit
        rw [if_pos hbit] at hand
        have hne : ¬ ((2 ^ R : Nat) : Int) = 0 := by have := Nat.two_pow_pos R; omega
        have hnot' := hnot hbit
        have fin' := fun e w' hx => fin e w' (.inr hx)
        clear hnot hdl fin
        generalize ((2 ^ R : Nat) : Int) = X at *
        have hcm' := cm_isSome C (F : Int)
        rw [hsf] at hcm'
        generalize drop (val C (F : Int)) R = d at *
        generalize hvv : val C (F : Int) = v at *
        go_wp2_with (first
          | (at_lookup; refine wpList_klook rfl _ _ 109 rfl 115 Tryd.underlying109 _ (zero_u32 _) g (num C n) (cm C) rfl (hmap.keep rfl) (F : Int) rfl hwf ?_; rw [hcm])
          | (at_mapUpdate; refine wpList_kput rfl _ _ _ 109 rfl 115 Tryd.underlying109 g (num C n) (cm C) rfl (hmap.keep rfl) hsm (F : Int) rfl hwf (.int .u32 ((d : Nat) : Int)) (by simp [Act.eval]) ?_; intro w5 pm5 g5; rw [hcm', hcp] at pm5))
        go_ret
        refine fin' _ _ ⟨hbit, rfl, A, ⟨⟨?_, ?_⟩, ?_, hp1, hp16, h.most.put hdl', fun x hx => ?_, h.offc, h.offg⟩, ?_, fun _ _ h => h⟩
        · exact (g5.block c h2.ch.lt (fun e => h2.ch.ne (Option.some.inj e))).trans h2.ch.head
        · rw [num_put_old hsf]; exact pm5
        · exact h2.pool.keep' (fun i hi => g5.block i (h2.pool.lt' hi) (fun e => h.offg (by cases e; exact hi)))
        · refine h.tk x ?_
          unfold putC at hx; split at hx
          · rename_i e; rw [e]; exact hsf
          · exact hx
        · exact ⟨g5.os.trans hb.os, g5.tape.trans hb.tape, g5.output.trans hb.output, Nat.le_trans hb.size g5.size, fun i hi hn => (g5.block i (Nat.lt_of_lt_of_le hi hb.size) (fun e => hn (.inr (Option.some.inj e)))).trans (hb.block i hi)⟩
      · have hbit' : (val C (F : Int)).testBit R = false := by simpa using hbit
        rw [if_neg hbit] at hand
        have fin' := fun e w' hx => fin e w' (.inl hx)
        clear hnot hdl fin hbit
        generalize hvv : val C (F : Int) = v at *
        go_wp2_with (first
          | (at_lookup; refine wpList_klook rfl _ _ 109 rfl 115 Tryd.underlying109 _ (zero_u32 _) g (num C n) (cm C) rfl (hmap.keep rfl) (F : Int) rfl hwf ?_; rw [hcm]))
        go_ret
        exact fin' _ _ ⟨hbit', rfl, hb.os, hb.tape, hb.output, hb.size, hb.block⟩
end
end Go.Proofs.YthknommfnajeiaaDoor
