/- What a map's keys are, as a list. -/
import Derived.Test.YtpibokijbidgdabDoorSKeys
import Derived.Lib.SlKeysI
import Derived.Maps.Views
import Derived.Test.YtpibokijbidgdabDoorWAbs
namespace Go.Proofs.YtpibokijbidgdabDoor
open Go.RowKit Go.Maps

/-- What a map's keys are. -/
theorem PMap.data {w : World} {g s : Nat} {M : Int → Option Value} (m : PMap w g s M) : ∃ D : DataW Value, w.ownsMap Tryd.prog 3 self g s D ∧ Maps.size D = s ∧ (Go.intKeys D).Nodup ∧ (Go.intKeys D).length = s ∧ ∀ x, x ∈ Go.intKeys D ↔ (M x).isSome = true := by
  obtain ⟨D, hown, hs, hS, _⟩ := m
  refine ⟨D, hown, hs, ?_⟩
  obtain ⟨es, hD, hpw, _⟩ := hown.entries keyedInt
  obtain ⟨es', hD', hko⟩ := hown.keysOf
  obtain rfl : es = es' := by rw [hD] at hD'; simpa using hD'
  have hk : ∀ p ∈ es, ∃ x, p.1 = .int .i64 x := fun p hp => by
    obtain ⟨v, hv⟩ := hko p hp
    obtain ⟨x, _, hx, _⟩ := Maps.keyOf_i64 Tryd.underlying3 hv
    exact ⟨x, hx⟩
  have hnd : (es.map fun p => Go.intOf p.1).Nodup := by
    refine List.pairwise_map.2 (hpw.imp_of_mem fun {p q} hp hq hne e => hne ?_)
    obtain ⟨a, ha⟩ := hk p hp
    obtain ⟨d, hd⟩ := hk q hq
    rw [ha, hd] at e ⊢
    exact congrArg _ e
  subst hD
  refine ⟨hnd, by rw [← hs]; simp [Go.intKeys, Maps.size], fun x => ?_⟩
  rw [← hS x, has_eq, List.any_eq_true]
  show x ∈ es.map (fun p => Go.intOf p.1) ↔ _
  rw [List.mem_map]
  constructor
  · rintro ⟨p, hp, rfl⟩
    obtain ⟨a, ha⟩ := hk p hp
    exact ⟨p, hp, by rw [ha]; simp [Lit.sameKey, Go.intOf]⟩
  · rintro ⟨p, hp, hq⟩
    obtain ⟨a, ha⟩ := hk p hp
    rw [ha] at hq
    exact ⟨p, hp, by rw [ha]; simpa [Lit.sameKey, Go.intOf] using hq⟩
end Go.Proofs.YtpibokijbidgdabDoor

namespace Go.Proofs.YtpibokijbidgdabDoor
open Go.RowKit Go.Maps

/-- How many names of one node lead to k. -/
def cnt1 : Option Nd → Int → Nat
  | some (.dir C), k => (C.filter (fun x => decide (x.2 = k))).length
  | _, _ => 0
def cntTo (T : Wd) (k : Int) : Nat → Nat
  | 0 => 0
  | m + 1 => cntTo T k m + cnt1 (T m) k
/-- How many names lead to k. -/
def cntT (T : Wd) (k : Int) : Nat := cntTo T k 64

theorem cntTo_same {T T' : Wd} {k : Int} : ∀ m : Nat, (∀ i : Nat, i < m → cnt1 (T' i) k = cnt1 (T i) k) → cntTo T' k m = cntTo T k m
  | 0, _ => rfl
  | m + 1, h => by rw [cntTo, cntTo, cntTo_same m (fun i hi => h i (by omega)), h m (by omega)]
theorem cntTo_one {T T' : Wd} {k : Int} {d : Nat} (hd : ∀ i : Nat, i ≠ d → cnt1 (T' i) k = cnt1 (T i) k) : ∀ m : Nat, d < m → cntTo T' k m + cnt1 (T d) k = cntTo T k m + cnt1 (T' d) k
  | 0, h => by omega
  | m + 1, h => by
    rw [cntTo, cntTo]
    by_cases e : m = d
    · subst e
      rw [cntTo_same m (fun i hi => hd i (by omega))]; omega
    · have := cntTo_one hd m (by omega)
      rw [hd m e]; omega
/-- One node turned. -/
theorem cntT_one {T T' : Wd} {k d : Int} (h0 : 0 ≤ d) (h1 : d < 64) (h : ∀ i, i ≠ d → cnt1 (T' i) k = cnt1 (T i) k) : cntT T' k + cnt1 (T d) k = cntT T k + cnt1 (T' d) k := by
  obtain ⟨e, rfl⟩ : ∃ e : Nat, d = e := ⟨d.toNat, by omega⟩
  exact cntTo_one (fun i hi => h i (by omega)) 64 (by omega)
theorem cntT_same {T T' : Wd} {k : Int} (h : ∀ i, cnt1 (T' i) k = cnt1 (T i) k) : cntT T' k = cntT T k := cntTo_same 64 (fun i _ => h i)

theorem cntTo_pos {T : Wd} {k : Int} : ∀ m : Nat, cntTo T k m ≠ 0 → ∃ i : Nat, i < m ∧ cnt1 (T i) k ≠ 0
  | 0, h => absurd rfl h
  | m + 1, h => by
    rw [cntTo] at h
    by_cases e : cnt1 (T m) k = 0
    · obtain ⟨i, hi, h2⟩ := cntTo_pos (T := T) (k := k) m (fun e0 => h (by rw [e0, e]))
      exact ⟨i, by omega, h2⟩
    · exact ⟨m, by omega, e⟩
theorem cntTo_ge {T : Wd} {k : Int} {i : Nat} : ∀ m : Nat, i < m → cnt1 (T i) k ≤ cntTo T k m
  | 0, h => by omega
  | m + 1, h => by
    rw [cntTo]
    by_cases e : i = m
    · subst e; omega
    · have := cntTo_ge (T := T) (k := k) m (show i < m by omega); omega

theorem cnt1_pos {C : List (Nm × Int)} {k : Int} (h : cnt1 (some (.dir C)) k ≠ 0) : ∃ s, (s, k) ∈ C := by
  unfold cnt1 at h
  obtain ⟨⟨s, n⟩, hx⟩ := List.exists_mem_of_length_pos (Nat.pos_of_ne_zero h)
  rw [List.mem_filter] at hx
  have e : n = k := by simpa using hx.2
  exact ⟨s, by rw [← e]; exact hx.1⟩
theorem cnt1_mem {C : List (Nm × Int)} {s : Nm} {k : Int} (h : (s, k) ∈ C) : cnt1 (some (.dir C)) k ≠ 0 := by
  unfold cnt1
  exact Nat.ne_of_gt (List.length_pos_of_mem (List.mem_filter.2 ⟨h, by simp⟩))
theorem mem_lookup : ∀ {C : List (Nm × Int)} {s : Nm} {n : Int}, (C.map (·.1)).Nodup → (s, n) ∈ C → C.lookup s = some n
  | (a, b) :: C, s, n, hn, h => by
    rw [List.map_cons, List.nodup_cons] at hn
    rcases List.mem_cons.1 h with e | h
    · cases e; simp [List.lookup]
    · have hne : s ≠ a := fun e => hn.1 (by rw [← e]; exact List.mem_map.2 ⟨(s, n), h, rfl⟩)
      have : (s == a) = false := by simp [hne]
      rw [List.lookup, this]
      exact mem_lookup hn.2 h
/-- Led, by its count. -/
theorem led_cnt {T : Wd} (hT : TrOk T) (n : Int) : Led T n ↔ n = 0 ∨ cntT T n ≠ 0 := by
  unfold Led
  constructor
  · rintro (h | ⟨k, C, s, hk, hl⟩)
    · exact .inl h
    · right
      have hkey := hT.key k (by rw [hk]; rfl)
      obtain ⟨e, rfl⟩ : ∃ e : Nat, k = e := ⟨k.toNat, by omega⟩
      have h1 := cnt1_mem (lookup_mem hl)
      have h2 := cntTo_ge (T := T) (k := n) (i := e) 64 (by omega)
      rw [hk] at h2
      unfold cntT; omega
  · rintro (h | h)
    · exact .inl h
    · right
      obtain ⟨i, _, hi⟩ := cntTo_pos 64 h
      cases hd : T (i : Int) with
      | none => rw [hd] at hi; exact absurd rfl hi
      | some nd => cases nd with
        | file b x => rw [hd] at hi; exact absurd rfl hi
        | dir C =>
          rw [hd] at hi
          obtain ⟨s, hs⟩ := cnt1_pos hi
          exact ⟨i, C, s, hd, mem_lookup (hT.nodup _ _ hd) hs⟩

/-- What holds of every tree besides: nothing leads to the first node, and all are led to, or held. -/
structure TrLv (T : Wd) : Prop extends TrOk T where
  nr : cntT T 0 = 0
  lv : ∀ k nd, T k = some nd → k = 0 ∨ cntT T k ≠ 0 ∨ heldT nd ≠ 0

/-- One node gone. -/
def eraT (T : Wd) (n : Int) : Wd := fun k => if k = n then none else T k
theorem eraT_other {T : Wd} {n k : Int} (h : k ≠ n) : eraT T n k = T k := if_neg h
theorem eraT_same (T : Wd) (n : Int) : eraT T n n = none := if_pos rfl

theorem cnt_set_none {T : Wd} {n : Int} {x : Nd} (h : T n = none) (hx : ∀ k, cnt1 (some x) k = 0) (k : Int) : cntT (setT T n x) k = cntT T k := cntT_same (fun i => by
  by_cases e : i = n
  · subst e; rw [setT_same, h, hx]; rfl
  · rw [setT_other _ e])
theorem cnt_setF {T : Wd} {n : Int} {b b' : List UInt8} {x x' : Nat} (h : T n = some (.file b x)) (k : Int) : cntT (setT T n (.file b' x')) k = cntT T k := cntT_same (fun i => by
  by_cases e : i = n
  · subst e; rw [setT_same, h]; rfl
  · rw [setT_other _ e])
theorem cnt_era {T : Wd} {n : Int} (h : ∀ k, cnt1 (T n) k = 0) (k : Int) : cntT (eraT T n) k = cntT T k := cntT_same (fun i => by
  by_cases e : i = n
  · subst e; rw [eraT_same, h]; rfl
  · rw [eraT_other e])
theorem cnt_add {T : Wd} (hT : TrOk T) {d n : Int} {nm : Nm} {C : List (Nm × Int)} (hd : T d = some (.dir C)) (k : Int) : cntT (addT T d nm n) k = cntT T k + if k = n then 1 else 0 := by
  have hkey := hT.key d (by rw [hd]; rfl)
  rw [addT_eq hd]
  have h1 := cntT_one (T := T) (T' := setT T d (.dir ((nm, n) :: C))) (k := k) hkey.1 hkey.2 (fun i hi => by rw [setT_other _ hi])
  rw [setT_same, hd] at h1
  have h2 : cnt1 (some (.dir ((nm, n) :: C))) k = cnt1 (some (.dir C)) k + if k = n then 1 else 0 := by
    simp only [cnt1, List.filter_cons]
    by_cases e : n = k
    · subst e; simp
    · simp [e, Ne.symm e]
  omega
theorem filter_cnt {nm : Nm} {n : Int} : ∀ {C : List (Nm × Int)}, (C.map (·.1)).Nodup → C.lookup nm = some n → ∀ k, ((C.filter (fun x => x.1 != nm)).filter (fun x => decide (x.2 = k))).length + (if k = n then 1 else 0) = (C.filter (fun x => decide (x.2 = k))).length
  | (a, b) :: C, hn, hl, k => by
    rw [List.map_cons, List.nodup_cons] at hn
    by_cases e : nm = a
    · subst e
      have hb : b = n := by simpa [List.lookup] using hl
      subst hb
      have hf := filter_same hn.1
      simp only [List.filter_cons, bne_self_eq_false, Bool.false_eq_true, if_false, hf]
      by_cases e2 : b = k
      · simp [e2]
      · simp [e2, Ne.symm e2]
    · have hne : (nm == a) = false := by simp [e]
      rw [List.lookup, hne] at hl
      have ih := filter_cnt hn.2 hl k
      have hbne : (a != nm) = true := by simp [Ne.symm e]
      simp only [List.filter_cons, hbne, if_true]
      by_cases e2 : b = k
      · simp only [e2, decide_true, if_true, List.length_cons]; omega
      · simp only [e2, decide_false, Bool.false_eq_true, if_false]; omega
theorem cnt_del {T : Wd} (hT : TrOk T) {d n : Int} {nm : Nm} {C : List (Nm × Int)} (hd : T d = some (.dir C)) (hl : C.lookup nm = some n) (k : Int) : cntT (delT T d nm) k + (if k = n then 1 else 0) = cntT T k := by
  have hkey := hT.key d (by rw [hd]; rfl)
  rw [delT_eq hd]
  have h1 := cntT_one (T := T) (T' := setT T d (.dir (C.filter (fun x => x.1 != nm)))) (k := k) hkey.1 hkey.2 (fun i hi => by rw [setT_other _ hi])
  rw [setT_same, hd] at h1
  have h2 := filter_cnt (hT.nodup d C hd) hl k
  simp only [cnt1] at h1
  omega

/-- What goes when all but n are led to, or held. -/
theorem sweep_one {T : Wd} (hT : TrOk T) (n : Int) (hl : ∀ k nd, k ≠ n → T k = some nd → k = 0 ∨ cntT T k ≠ 0 ∨ heldT nd ≠ 0) (nd : Nd) (hn : T n = some nd) (h0 : n ≠ 0) :
    sweepT T = if cntT T n = 0 ∧ heldT nd = 0 then eraT T n else T := by
  have hk : ∀ k, k ≠ n → sweepT T k = T k := fun k hk => sweepT_stay (fun nd h => by
    rcases hl k nd hk h with e | e | e
    · exact .inl ((led_cnt hT k).2 (.inl e))
    · exact .inl ((led_cnt hT k).2 (.inr e))
    · exact .inr e)
  funext k
  by_cases e : k = n
  · subst e
    by_cases hz : cntT T k = 0 ∧ heldT nd = 0
    · rw [if_pos hz, eraT_same]
      exact sweepT_go hn (fun h => by
        rcases h with h | h
        · rcases (led_cnt hT k).1 h with e | e
          · exact h0 e
          · exact e hz.1
        · exact h hz.2)
    · rw [if_neg hz]
      refine sweepT_stay (fun nd' h' => ?_)
      rw [hn] at h'; cases h'
      by_cases e1 : cntT T k = 0
      · exact .inr (fun e2 => hz ⟨e1, e2⟩)
      · exact .inl ((led_cnt hT k).2 (.inr e1))
  · rw [hk k e]
    split
    · rw [eraT_other e]
    · rfl
/-- And where all are led to, or held, nothing goes. -/
theorem sweep_none {T : Wd} (hT : TrOk T) (hl : ∀ k nd, T k = some nd → k = 0 ∨ cntT T k ≠ 0 ∨ heldT nd ≠ 0) : sweepT T = T := by
  funext k
  exact sweepT_stay (fun nd h => by
    rcases hl k nd h with e | e | e
    · exact .inl ((led_cnt hT k).2 (.inl e))
    · exact .inl ((led_cnt hT k).2 (.inr e))
    · exact .inr e)
end Go.Proofs.YtpibokijbidgdabDoor
