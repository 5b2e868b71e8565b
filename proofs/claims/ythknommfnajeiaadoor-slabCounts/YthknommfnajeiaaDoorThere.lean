/- A cache beside a list of the numbers of its things. -/
import Derived.Test.YthknommfnajeiaaDoorOwn3
import Derived.Test.YthknommfnajeiaaDoorShelf6
import Derived.Maps.AppendAt
namespace Go.Proofs.YthknommfnajeiaaDoor
open Go.RowKit Go.Shelf Go.Lib Go.Sort Go.Maps

structure SW (w0 : World) (c b per g n : Nat) (w : World) (v : Value) (L : List Int) (C : Int → Option Nat) (U : Nat → Bool) (T : Int → Option Nat) (m : Nat) (A : Nat → Prop) : Prop where
  ca : CA w c b per g n C U T m A
  bel : Below w0.heap.size w0 w
  offA : ∀ i, i < w0.heap.size → ¬ A i
  offg : w0.heap.size ≤ g
  row : w.ownsRow w0.heap.size 3 1 v L.length (L.map encZ)
  off : ∀ i, v.ownBlock = some i → ¬ A i ∧ i ≠ g ∧ i ≠ c

structure KI (per n : Nat) (L : List Int) (C T : Int → Option Nat) : Prop where
  sole : Sole C T
  mem : ∀ k, k ∈ L ↔ isT per C k = true
  nd : L.Nodup
  len : L.length = tot C n

section
variable {w0 w w' : World} {c b per g n m m' : Nat} {v v' : Value} {L L' : List Int} {C C' : Int → Option Nat} {U U' : Nat → Bool} {T T' : Int → Option Nat} {A : Nat → Prop}
theorem SW.stay (S : SW w0 c b per g n w v L C U T m A) (hb : Below w.heap.size w w') : SW w0 c b per g n w' v L C U T m A := by
  refine ⟨S.ca.below hb, S.bel.trans (hb.mono S.bel.size), S.offA, S.offg, ⟨S.row.1, ?_⟩, S.off⟩
  rcases S.row.2 with h | ⟨gb, cap, cur, e, hN, hg, rest⟩
  · exact .inl h
  · exact .inr ⟨gb, cap, cur, e, hN, (hb.block gb (lt_of_heap hg)).trans hg, rest⟩
theorem SW.turn (S : SW w0 c b per g n w v L C U T m A) (t : CTurns w c b per g n A w' C' U' T' m') : ∃ A', SW w0 c b per g n w' v L C' U' T' m' A' := by
  obtain ⟨A', a, fr, sub⟩ := t
  refine ⟨A', a, S.bel.trans ⟨fr.os, fr.tape, fr.output, fr.size, fun i hi => fr.block i (Nat.lt_of_lt_of_le hi S.bel.size) (fun h => ?_)⟩, fun i hi h => S.offA i hi (sub i (Nat.lt_of_lt_of_le hi S.bel.size) h), S.offg, ⟨S.row.1, ?_⟩, ?_⟩
  · rcases h with h | h
    · exact S.offA i hi h
    · have := S.offg; omega
  · rcases S.row.2 with h | ⟨gb, cap, cur, rfl, hN, hg, rest⟩
    · exact .inl h
    · have := S.off gb rfl
      exact .inr ⟨gb, cap, cur, rfl, hN, (fr.block gb (lt_of_heap hg) (fun h => by rcases h with h | h; exact this.1 h; exact this.2.1 h)).trans hg, rest⟩
  · intro i hi
    have hl := (World.ownsRow.lt S.row i hi).2
    have := S.off i hi
    exact ⟨fun h => this.1 (sub i hl h), this.2⟩
theorem SW.relist (S : SW w0 c b per g n w v L C U T m A) (hg : w.grownBy w' v.ownBlock) (hr : w'.ownsRow w0.heap.size 3 1 v' L'.length (L'.map encZ)) (hv : ∀ i, v'.ownBlock = some i → v.ownBlock = some i ∨ w.heap.size ≤ i) : SW w0 c b per g n w' v' L' C U T m A := by
  have hlA : ∀ i, A i → i < w.heap.size := fun i hi => S.ca.pool.lt' hi
  have keep : ∀ i, i < w.heap.size → (A i ∨ i = g ∨ i = c) → w'.heap[i]? = w.heap[i]? := fun i hi ho => hg.block i hi (fun e => by
    have := S.off i e.symm
    rcases ho with h | h | h
    · exact this.1 h
    · exact this.2.1 h
    · exact this.2.2 h)
  refine ⟨⟨S.ca.ch.keep (keep c S.ca.ch.lt (.inr (.inr rfl))) (keep g S.ca.ch.mlt (.inr (.inl rfl))), S.ca.pool.keep' (fun i hi => keep i (hlA i hi) (.inl hi)), S.ca.per1, S.ca.per16, S.ca.most, S.ca.tk, S.ca.offc, S.ca.offg⟩, ?_, S.offA, S.offg, hr, fun i hi => ?_⟩
  · refine S.bel.trans ⟨hg.os, hg.tape, hg.output, hg.size, fun i hi => hg.block i (Nat.lt_of_lt_of_le hi S.bel.size) (fun e => ?_)⟩
    have := (World.ownsRow.lt S.row i e.symm).1; omega
  · rcases hv i hi with h | h
    · exact S.off i h
    · refine ⟨fun hA => ?_, fun e => ?_, fun e => ?_⟩
      · have := hlA i hA; omega
      · have := S.ca.ch.mlt; omega
      · have := S.ca.ch.lt; omega

theorem KI.add (K : KI per n L C T) {F l : Nat} (hl : l < per) (hp : per ≤ 16) (hF : F < n) (hb : (val C (F : Int)).testBit l = false) (hS : Sole (putC C (F : Int) (val C (F : Int) ||| 2 ^ l)) T') :
    ((F * per + l : Nat) : Int) ∉ L ∧ KI per n (L ++ [((F * per + l : Nat) : Int)]) (putC C (F : Int) (val C (F : Int) ||| 2 ^ l)) T' := by
  have hk : ((F * per + l : Nat) : Int) = (F : Int) * per + l := by simp
  have hd := div_at (per := per) (F : Int) hl
  have hn : ((F * per + l : Nat) : Int) ∉ L := by
    rw [K.mem, isT, hk, hd.1, hd.2]
    simp [hb]
  refine ⟨hn, hS, fun k => ?_, ?_, ?_⟩
  · rw [isT_add (by omega) hl, List.mem_append, K.mem, List.mem_singleton, hk]
  · exact List.nodup_append.2 ⟨K.nd, by simp, fun a ha b hb' => by rw [List.mem_singleton] at hb'; subst hb'; exact fun e => hn (e ▸ ha)⟩
  · rw [List.length_append, K.len, tot_put hF (ones_put (by omega) hb)]; rfl

theorem mem_cut {L : List Int} (nd : L.Nodup) {i : Nat} (hi : i < L.length) (j : Int) : j ∈ L.take i ++ L.drop (i + 1) ↔ j ∈ L ∧ j ≠ L[i] := by
  have e : L = L.take i ++ L[i] :: L.drop (i + 1) := by rw [List.getElem_cons_drop, List.take_append_drop]
  have nd' := nd
  rw [e, List.nodup_append, List.nodup_cons] at nd'
  obtain ⟨_, ⟨h2, _⟩, h3⟩ := nd'
  constructor
  · intro h
    rcases List.mem_append.1 h with h | h
    · exact ⟨List.mem_of_mem_take h, fun e' => h3 j h L[i] List.mem_cons_self e'⟩
    · exact ⟨List.mem_of_mem_drop h, fun e' => h2 (e' ▸ h)⟩
  · rintro ⟨h, hne⟩
    rw [e] at h
    rcases List.mem_append.1 h with h | h
    · exact List.mem_append_left _ h
    · rcases List.mem_cons.1 h with h | h
      · exact absurd h hne
      · exact List.mem_append_right _ h

theorem KI.del (K : KI per n L C T) (hw : Within C n) (hp1 : 1 ≤ per) (hp : per ≤ 16) {i : Nat} (hi : i < L.length) :
    KI per n (L.take i ++ L.drop (i + 1)) (putC C (L[i] / per) (drop (val C (L[i] / per)) (L[i] % per).toNat)) T ∧ isT per (putC C (L[i] / per) (drop (val C (L[i] / per)) (L[i] % per).toNat)) L[i] = false := by
  have hT := (K.mem L[i]).1 (List.getElem_mem hi)
  have hT' := hT
  unfold isT at hT'
  simp only [Bool.and_eq_true, decide_eq_true_eq] at hT'
  have hsf : (C (L[i] / per)).isSome = true := some_of_val (fun e => by rw [e] at hT'; simp at hT')
  have hf := hw _ hsf
  obtain ⟨F, hF⟩ : ∃ F : Nat, L[i] / (per : Int) = F := ⟨(L[i] / (per : Int)).toNat, by omega⟩
  have hr : (L[i] % (per : Int)).toNat < 16 := by
    have := Int.emod_lt_of_pos L[i] (show (0 : Int) < per by omega)
    have := Int.emod_nonneg L[i] (show (per : Int) ≠ 0 by omega)
    omega
  refine ⟨⟨K.sole.old hsf, fun k => ?_, ?_, ?_⟩, ?_⟩
  · rw [isT_del hp1 hT, mem_cut K.nd hi, K.mem]
  · have : (L.take i ++ L.drop (i + 1)) = L.eraseIdx i := by rw [List.eraseIdx_eq_take_drop_succ]
    rw [this]; exact K.nd.sublist (List.eraseIdx_sublist L i)
  · have hd := ones_drop hr hT'.2
    rw [hF] at hd ⊢
    have := tot_del (n := n) (show F < n by rw [hF] at hf; omega) hd
    have hl := K.len
    rw [List.length_append, List.length_take, List.length_drop]; omega
  · cases e : isT per (putC C (L[i] / per) (drop (val C (L[i] / per)) (L[i] % per).toNat)) L[i] with
    | false => rfl
    | true => exact absurd rfl ((isT_del hp1 hT L[i]).1 e).2

theorem SW.alloc (S : SW w0 c b per g n w v L C U T m A) (K : KI per n L C T) (hT : Tab w0) (hm : m < 10000) :
    Calls Tryd.prog 35 #[cp c] w fun e w' => (e = .returned (.tuple #[.int .i64 0, enr 12]) ∧ cnt U 0 n = 0 ∧ SW w0 c b per g n w' v L C U T m A) ∨
      (∃ k F : Nat, e = .returned (.tuple #[.int .i64 (k : Int), .nilIface]) ∧ (k : Int) ∉ L ∧ k < 5000 ∧ k / per = F ∧ F < n ∧ ∃ C' U' T' m' A', SW w0 c b per g n w' v L C' U' T' m' A' ∧ KI per n (L ++ [(k : Int)]) C' T' ∧ m' ≤ m + 1) := by
  have hT' : Tab w := hT.keep (S.bel.block _ hT.lt)
  have hp1 := S.ca.per1
  have hp16 := S.ca.per16
  have hn := S.ca.n256
  have hsmall : ∀ F l : Nat, F < n → l < per → F * per + l < 5000 ∧ (F * per + l) / per = F := fun F l h1 h2 => by
    have h3 := Nat.mul_le_mul (show F ≤ 256 by omega) hp16
    refine ⟨by omega, ?_⟩
    rw [Nat.mul_comm, Nat.mul_add_div (by omega), Nat.div_eq_of_lt h2, Nat.add_zero]
  refine (calloc_ok S.ca hm hT' (S.offA _ hT.lt)).mono ?_
  rintro e w' ⟨ks, hks, ⟨f, hr, rfl, t⟩ | ⟨hr, hno, rfl, hb⟩ | ⟨hr, k, q, hB, hTn, rfl, t⟩⟩
  · obtain ⟨hf, ho⟩ := room_in hp1 hr
    have hfs := (hks.2 f).1 hf
    have hfn := S.ca.within f hfs
    obtain ⟨F, rfl⟩ : ∃ F : Nat, f = (F : Int) := ⟨f.toNat, by omega⟩
    have hl := low_lt hp16 (S.ca.most.val (F : Int)) ho
    have hv : val C (F : Int) < 65536 := Nat.lt_of_lt_of_le (S.ca.most.val _) (Nat.pow_le_pow_right (by omega : 0 < 2) hp16)
    have hlb := (low_spec hv).2.1
    obtain ⟨A', S'⟩ := S.turn t
    obtain ⟨h1, h2⟩ := K.add hl hp16 (by omega) hlb (K.sole.old hfs)
    obtain ⟨h3, h4⟩ := hsmall F _ (by omega) hl
    exact .inr ⟨F * per + low (val C (F : Int)), F, by simp, h1, h3, h4, by omega, _, _, _, _, A', S', h2, by omega⟩
  · exact .inl ⟨rfl, full_cnt0 S.ca.inv.bound hno, S.stay hb⟩
  · obtain ⟨z, hz⟩ : ∃ z, q * 2 ^ k = z := ⟨_, rfl⟩
    rw [hz] at hB hTn t
    obtain ⟨⟨q', hq', hx⟩, _, _⟩ := hB
    have hzn : z < n := by rw [hq']; exact S.ca.inv.bound _ (hx.2.1 _ (first_in _ _))
    have hCz : C (z : Int) = none := by
      cases e : C (z : Int) with
      | none => rfl
      | some x => have := S.ca.tk z (by rw [e]; rfl); rw [hTn] at this; cases this
    have hvz : val C (z : Int) = 0 := by rw [val, hCz]; rfl
    obtain ⟨A', S'⟩ := S.turn t
    have h0 : (1 : Nat) = val C (z : Int) ||| 2 ^ 0 := by rw [hvz]; rfl
    rw [h0] at S'
    obtain ⟨h1, h2⟩ := K.add (l := 0) (by omega) hp16 hzn (by rw [hvz]; simp) (K.sole.new (z : Int) _)
    obtain ⟨h3, h4⟩ := hsmall z 0 hzn (by omega)
    exact .inr ⟨z * per + 0, z, by rw [hz]; simp, h1, h3, h4, hzn, _, _, _, _, A', S', h2, by omega⟩

theorem SW.give (S : SW w0 c b per g n w v L' C U T m A) (K : KI per n L C T) {i : Nat} (hi : i < L.length) :
    Calls Tryd.prog 36 #[cp c, .int .i64 L[i]] w fun e w' => e = .returned .nilIface ∧ ∃ C' A', SW w0 c b per g n w' v L' C' U T m A' ∧ KI per n (L.take i ++ L.drop (i + 1)) C' T ∧ isT per C' L[i] = false := by
  have hT := (K.mem L[i]).1 (List.getElem_mem hi)
  obtain ⟨k1, k2⟩ := K.del S.ca.within S.ca.per1 S.ca.per16 hi
  have hwf : (Lit.int .i64 L[i]).wf = true := by
    have hT' := hT
    unfold isT at hT'
    simp only [Bool.and_eq_true, decide_eq_true_eq] at hT'
    have hsf : (C (L[i] / per)).isSome = true := some_of_val (fun e => by rw [e] at hT'; simp at hT')
    have hf := S.ca.within _ hsf
    have hn := S.ca.n256
    have hp := S.ca.per1
    have hp16 := S.ca.per16
    have h1 := Int.mul_ediv_add_emod L[i] per
    have h2 := Int.emod_lt_of_pos L[i] (show (0 : Int) < per by omega)
    have h3 := Int.mul_le_mul (show (per : Int) ≤ 16 by omega) (show L[i] / (per : Int) ≤ 256 by omega) hf.1 (by omega)
    exact wf_small hT'.1 (by omega)
  refine (cgive_ok S.ca L[i] hwf).mono ?_
  rintro e w' (⟨h, _⟩ | ⟨_, rfl, t⟩)
  · rw [hT] at h; cases h
  · obtain ⟨A', S'⟩ := S.turn t
    exact ⟨rfl, _, A', S', k1, k2⟩
theorem SW.give_no (S : SW w0 c b per g n w v L C U T m A) {k : Int} (hk : (Lit.int .i64 k).wf = true) (h : isT per C k = false) :
    Calls Tryd.prog 36 #[cp c, .int .i64 k] w fun e w' => e = .returned (enr 7) ∧ SW w0 c b per g n w' v L C U T m A := by
  refine (cgive_ok S.ca k hk).mono ?_
  rintro e w' (⟨_, rfl, hb⟩ | ⟨h', _⟩)
  · exact ⟨rfl, S.stay hb⟩
  · rw [h] at h'; cases h'
theorem SW.reap (S : SW w0 c b per g n w v L' C U T m A) (K : KI per n L C T) :
    Calls Tryd.prog 38 #[cp c] w fun e w' => ∃ r : Nat, e = .returned (.int .i64 (r : Int)) ∧ ((∀ x, (C x).isSome = true → val C x ≠ 0) → r = 0) ∧ ∃ U' T' A', SW w0 c b per g n w' v L' (reap C) U' T' m A' ∧ KI per n L (reap C) T' := by
  refine (creap_ok S.ca).mono ?_
  rintro e w' ⟨ks, hks, rfl, t⟩
  obtain ⟨A', S'⟩ := S.turn t
  refine ⟨_, rfl, fun h => ?_, _, _, A', S', K.sole.reap hks, fun k => by rw [isT_reap, K.mem], K.nd, by rw [tot_reap, K.len]⟩
  rw [List.length_eq_zero_iff, List.filter_eq_nil_iff]
  intro x hx
  have := h x ((hks.2 x).1 hx)
  simp [vac, this]
theorem SW.wf (S : SW w0 c b per g n w v L' C U T m A) (K : KI per n L C T) {i : Nat} (hi : i < L.length) : (Lit.int .i64 L[i]).wf = true := by
  have hT := (K.mem L[i]).1 (List.getElem_mem hi)
  unfold isT at hT
  simp only [Bool.and_eq_true, decide_eq_true_eq] at hT
  have hsf : (C (L[i] / per)).isSome = true := some_of_val (fun e => by rw [e] at hT; simp at hT)
  have hf := S.ca.within _ hsf
  have hn := S.ca.n256
  have hp := S.ca.per1
  have hp16 := S.ca.per16
  have h1 := Int.mul_ediv_add_emod L[i] per
  have h2 := Int.emod_lt_of_pos L[i] (show (0 : Int) < per by omega)
  have h3 := Int.mul_le_mul (show (per : Int) ≤ 16 by omega) (show L[i] / (per : Int) ≤ 256 by omega) hf.1 (by omega)
  exact wf_small hT.1 (by omega)
end
end Go.Proofs.YthknommfnajeiaaDoor
