/- A loop over a map that is keyed by texts: which keys are still to come. -/
import Derived.Test.YtjkneekfijibiabGreatDoorRangesDel
import Derived.Maps.RangeWalk
import Derived.Test.YtjkneekfijibiabGreatDoorWMake2
import Derived.Laws.IdiomRangeMap
namespace Go.Proofs.YtjkneekfijibiabGreatDoor
open Go.RowKit Go.Maps

theorem keyOf_text_inv {key : Value} {kl : Lit} (h : keyOf Tryz.prog 9 key = some kl) : ∃ x : List UInt8, key = .string ⟨x.toArray⟩ ∧ kl = .string x ∧ x.length ≤ maxLen := by
  cases key <;> simp [keyOf, Tryz.underlying9, mapKey] at h
  rename_i s
  exact ⟨s.data.toList, by simp, h.2.symm, by rw [Array.length_toList]; exact h.1⟩

/-- A loop over map g under way, its iterator at r: todo a: a is still to come. -/
def SRng (w : World) (g r s : Nat) (M : List UInt8 → Option Value) (todo : List UInt8 → Bool) (cnt : Nat) : Prop :=
  ∃ (D : DataW Value) (left : Lit → Bool), w.ranges Tryz.prog 9 self g r s D left cnt ∧ Maps.size D = s ∧ (∀ a, Maps.has D (.string a) = (M a).isSome) ∧ (∀ a z, D.atKey (.string a) (.held z) = .held ((M a).getD z)) ∧ ∀ a, left (.string a) = todo a

section
variable {w w' : World} {g r s : Nat} {M : List UInt8 → Option Value} {todo : List UInt8 → Bool} {cnt : Nat}
theorem SRng.map (h : SRng w g r s M todo cnt) : SMap w g s M := by
  obtain ⟨D, left, hr, h1, h2, h3, _⟩ := h
  exact ⟨D, hr.owns, h1, h2, h3⟩
theorem SRng.keep (h : SRng w g r s M todo cnt) (hg : w'.heap[g]? = w.heap[g]?) (hr : w'.heap[r]? = w.heap[r]?) : SRng w' g r s M todo cnt := by
  obtain ⟨D, left, ⟨es, clock, since, seen, c0, hb, F, hs, hD, hi, rest⟩, h1⟩ := h
  exact ⟨D, left, ⟨es, clock, since, seen, c0, hg.trans hb, F, hs, hD, hr.trans hi, rest⟩, h1⟩
theorem SRng.rlt (h : SRng w g r s M todo cnt) : r < w.heap.size := by obtain ⟨D, left, hr, _⟩ := h; exact hr.lt
theorem SRng.ne (h : SRng w g r s M todo cnt) : r ≠ g := by obtain ⟨D, left, hr, _⟩ := h; exact hr.ne
end

section
variable {ops : Array Oper} {rest : List Oper} {o : Oper} {a : Act} {w : World} {Q : Exit → Act → World → Prop}

/-- The loop begins. -/
theorem wpList_srange (hgd : o.guard = none) (m : Operand) (t : TypeId) (hop : o.op = Op.range t m) (e : TypeId) (ht : Tryz.prog.underlying t = some (.map 9 e)) (g n : Nat) (M : List UInt8 → Option Value) (hm : a.eval m = .map (some g)) (hown : SMap w g n M)
    (h : ∀ w', SRng w' g w.heap.size n M (fun x => (M x).isSome) n → w.grownBy w' none → w'.heap.size = w.heap.size + 1 → wpList Tryz.prog ops Q rest (a.put o.dst (.pointer (some ⟨w.heap.size, 0, none⟩))) w') : wpList Tryz.prog ops Q (o :: rest) a w := by
  obtain ⟨D, hD, h1, h2, h3⟩ := hown
  refine wpList_range_own w hgd m t hop 9 e keyedText ht self g n D hm hD (fun w' hr hg hs => h w' ⟨D, _, by rw [h1] at hr; exact hr, h1, h2, h3, fun x => h2 x⟩ hg hs)

/-- Its step: nothing is left, or an entry comes. -/
theorem wpList_snext (hgd : o.guard = none) (it : Operand) (hop : o.op = Op.next it false) (g r n : Nat) (M : List UInt8 → Option Value) (todo : List UInt8 → Bool) (cnt : Nat) (hit : a.eval it = .pointer (some ⟨r, 0, none⟩)) (hr : SRng w g r n M todo cnt)
    (hDone : (∀ x, todo x = false) → wpList Tryz.prog ops Q rest (a.put o.dst (.tuple #[.bool false])) w)
    (hMore : ∀ (x : List UInt8) (v : Value) (w' : World) (cnt' : Nat), x.length ≤ maxLen → todo x = true → M x = some v → SRng w' g r n M (fun z => todo z && !decide (z = x)) cnt' → cnt' < cnt → w.grownBy w' (some r) → w'.heap.size = w.heap.size →
      (Instr.entry (.pointer (some ⟨r, 0, none⟩))).run Tryz.prog w' = .ok (.tuple #[.string ⟨x.toArray⟩, v]) w' → wpList Tryz.prog ops Q rest (a.put o.dst (.tuple #[.bool true, .string ⟨x.toArray⟩, v])) w') : wpList Tryz.prog ops Q (o :: rest) a w := by
  obtain ⟨D, left, hrg, h1, h2, h3, h4⟩ := hr
  refine wpList_next_ranges w hgd it hop 9 keyedText self (fun x : List UInt8 => Value.string ⟨x.toArray⟩) (fun v : Value => v) (fun key kl hkey => by obtain ⟨x, rfl, _⟩ := keyOf_text_inv hkey; exact ⟨x, rfl⟩) (fun v y _ => ⟨v, rfl⟩) g r n D left cnt hit hrg (fun _ hl => hDone (fun x => by rw [← h4]; exact hl _)) ?_
  intro x v kl y w' cnt' hkey hlk hv hat hrg' hlt hg hs hen
  obtain ⟨x', ex, rfl, hwx⟩ := keyOf_text_inv hkey
  obtain rfl : x = x' := by simpa using ex
  have hy : y = (.held v, []) := by simp only [self, Option.some.injEq] at hv; exact hv.symm
  have hM : M x = some v := by
    have e1 := (h3 x (.bool true)).symm.trans (hat (.held (.bool true)))
    have e2 := (h3 x (.bool false)).symm.trans (hat (.held (.bool false)))
    rw [hy] at e1 e2
    simp only [DataW.held.injEq] at e1 e2
    cases e : M x with
    | none => rw [e] at e1 e2; simp only [Option.getD_none] at e1 e2; rw [← e1] at e2; cases e2
    | some u => rw [e] at e1; simp only [Option.getD_some] at e1; rw [e1]
  refine hMore x v w' cnt' hwx (by rw [← h4]; exact hlk) hM ⟨D, _, hrg', h1, h2, h3, fun z => ?_⟩ hlt hg hs hen
  have hsk : (Lit.string z).sameKey (.string x) = decide (z = x) := by
    by_cases e : z = x <;> simp [Lit.sameKey, e]
  show (left (.string z) && !(Lit.string z).sameKey (.string x)) = _
  rw [h4 z, hsk]
end
end Go.Proofs.YtjkneekfijibiabGreatDoor

namespace Go.Proofs.YtjkneekfijibiabGreatDoor
open Go.RowKit Go.Maps

/-- Counts, as a map holds them. -/
def cm (c : Int → Nat) (n : Int) : Option Value := if c n = 0 then none else some (.int .i64 (c n : Int))
theorem cm_get (c : Int → Nat) (n : Int) : (cm c n).getD (.int .i64 0) = .int .i64 (c n : Int) := by
  unfold cm; by_cases h : c n = 0 <;> simp [h]
theorem cm_put (c : Int → Nat) (n : Int) : (fun i => if i = n then some (Value.int .i64 ((c n : Int) + 1)) else cm c i) = cm (fun i => if i = n then c n + 1 else c i) := by
  funext i; unfold cm; by_cases e : i = n <;> simp [e]

section
variable {w w' : World} {r gN s : Nat} {T : Wd} {G : Int → Nat}

/-- Fewer nodes. -/
theorem RTr.sub {s' : Nat} {T' : Wd} (h : RTr w r gN s T G) (hs : ∀ k nd, T' k = some nd → T k = some nd) (hg : w.grownBy w' (some gN)) (pm : PMap w' gN s' (fun k => (T' k).map (ndv G k))) : RTr w' r gN s' T' G := by
  have hk : ∀ i, i < w.heap.size → i ≠ gN → w'.heap[i]? = w.heap[i]? := fun i hi hne => hg.block i hi (fun e => hne (Option.some.inj e))
  exact ⟨(hk r (h.lt (.inl rfl)) h.rne).trans h.head, pm, fun k C e => (h.dirs k C (hs k _ e)).keep (hk _ (h.dirs k C (hs k _ e)).lt (h.sep k C (hs k _ e))), fun k C e => h.sep k C (hs k _ e), fun k k' C C' e e' => h.inj k k' C C' (hs k _ e) (hs k' _ e')⟩

/-- What was counted so far: of the nodes that are no longer to come. -/
def Cnt (T : Wd) (todo : Int → Bool) (c : Int → Nat) : Prop := ∀ n, c n ≠ 0 ↔ n = 0 ∨ ∃ k C x, T k = some (.dir C) ∧ todo k = false ∧ C.lookup x = some n
/-- And of one more, of the names that are no longer to come. -/
def Cnt1 (T : Wd) (todo : Int → Bool) (C : List (Nm × Int)) (left : Nm → Bool) (c : Int → Nat) : Prop := ∀ n, c n ≠ 0 ↔ (n = 0 ∨ ∃ k C x, T k = some (.dir C) ∧ todo k = false ∧ C.lookup x = some n) ∨ ∃ x, left x = false ∧ C.lookup x = some n
theorem Cnt.start {todo : Int → Bool} {c : Int → Nat} {C : List (Nm × Int)} (h : Cnt T todo c) : Cnt1 T todo C (fun x => ((C.lookup x).map (Value.int .i64 ·)).isSome) c := fun n => by
  rw [h n]
  constructor
  · exact .inl
  · rintro (e | ⟨x, hx, e⟩)
    · exact e
    · simp [e] at hx
theorem Cnt1.stop {todo : Int → Bool} {c : Int → Nat} {C : List (Nm × Int)} {left : Nm → Bool} {k : Int} (h : Cnt1 T todo C left c) (hk : T k = some (.dir C)) (hl : ∀ x, left x = false) : Cnt T (fun z => todo z && !decide (z = k)) c := fun n => by
  rw [h n]
  constructor
  · rintro ((e | ⟨k', C', x, e1, e2, e3⟩) | ⟨x, _, e⟩)
    · exact .inl e
    · exact .inr ⟨k', C', x, e1, by simp [e2], e3⟩
    · exact .inr ⟨k, C, x, hk, by simp, e⟩
  · rintro (e | ⟨k', C', x, e1, e2, e3⟩)
    · exact .inl (.inl e)
    · by_cases ek : k' = k
      · subst ek; rw [hk] at e1; cases e1; exact .inr ⟨x, hl x, e3⟩
      · exact .inl (.inr ⟨k', C', x, e1, by simpa [ek] using e2, e3⟩)
theorem Cnt.file {todo : Int → Bool} {c : Int → Nat} {k : Int} {b : List UInt8} {x : Nat} (h : Cnt T todo c) (hk : T k = some (.file b x)) : Cnt T (fun z => todo z && !decide (z = k)) c := fun n => by
  rw [h n]
  constructor
  · rintro (e | ⟨k', C', x, e1, e2, e3⟩)
    · exact .inl e
    · exact .inr ⟨k', C', x, e1, by simp [e2], e3⟩
  · rintro (e | ⟨k', C', x, e1, e2, e3⟩)
    · exact .inl e
    · by_cases ek : k' = k
      · subst ek; rw [hk] at e1; cases e1
      · exact .inr ⟨k', C', x, e1, by simpa [ek] using e2, e3⟩
theorem Cnt1.step {todo : Int → Bool} {c : Int → Nat} {C : List (Nm × Int)} {left : Nm → Bool} {x : Nm} {m : Int} (h : Cnt1 T todo C left c) (hx : C.lookup x = some m) : Cnt1 T todo C (fun z => left z && !decide (z = x)) (fun i => if i = m then c m + 1 else c i) := fun n => by
  by_cases en : n = m
  · subst en
    simp only [if_true]
    constructor
    · intro _; exact .inr ⟨x, by simp, hx⟩
    · intro _; omega
  · simp only [en, if_false]
    rw [h n]
    constructor
    · rintro (e | ⟨y, hy, e⟩)
      · exact .inl e
      · exact .inr ⟨y, by simp [hy], e⟩
    · rintro (e | ⟨y, hy, e⟩)
      · exact .inl e
      · by_cases ey : y = x
        · subst ey; rw [hx] at e; exact absurd (Option.some.inj e).symm en
        · exact .inr ⟨y, by simpa [ey] using hy, e⟩
theorem Cnt.led {todo : Int → Bool} {c : Int → Nat} (h : Cnt T todo c) (hl : ∀ x, todo x = false) (n : Int) : c n ≠ 0 ↔ Led T n := by
  rw [h n]; unfold Led
  constructor
  · rintro (e | ⟨k, C, x, e1, _, e3⟩)
    · exact .inl e
    · exact .inr ⟨k, C, x, e1, e3⟩
  · rintro (e | ⟨k, C, x, e1, e3⟩)
    · exact .inl e
    · exact .inr ⟨k, C, x, e1, hl k, e3⟩
end
end Go.Proofs.YtjkneekfijibiabGreatDoor

namespace Go.Proofs.YtjkneekfijibiabGreatDoor
open Go.RowKit Go.Maps

section
variable {w w' : World} {r gN s : Nat} {T : Wd} {G : Int → Nat}

/-- The nodes when some are gone: those that are still to come, and those that stay. -/
theorem below_grown {B g : Nat} {w1 : World} (h : Below B w w1) (hB : B ≤ w1.heap.size) (hg : w1.grownBy w' (some g)) (hgB : B ≤ g) : Below B w w' := h.grown hg hB (fun k e => by rw [← Option.some.inj e]; exact hgB)

theorem PRng.as {g i n cnt : Nat} {M M' : Int → Option Value} {todo todo' : Int → Bool} (h : PRng w g i n M todo cnt) (e : M = M') (e' : todo = todo') : PRng w g i n M' todo' cnt := e ▸ e' ▸ h
open Classical in
noncomputable def keepT (T : Wd) (todo : Int → Bool) : Wd := fun k => if todo k = true then T k else sweepT T k
theorem keepT_start (T : Wd) (G : Int → Nat) : keepT T (fun k => ((T k).map (ndv G k)).isSome) = T := by
  funext k; unfold keepT
  cases e : T k with
  | none =>
    have e2 : sweepT T k = none := by unfold sweepT; rw [e]
    rw [e2]; split <;> rfl
  | some nd => rw [if_pos (by simp [e])]
theorem keepT_end {T : Wd} {todo : Int → Bool} (h : ∀ x, todo x = false) : keepT T todo = sweepT T := by
  funext k; unfold keepT; simp [h k]
theorem keepT_at {T : Wd} {todo : Int → Bool} {x : Int} (h : todo x = true) : keepT T todo x = T x := by unfold keepT; rw [if_pos h]
theorem keepT_stay {T : Wd} {todo : Int → Bool} {x : Int} (hx : todo x = true) (h : sweepT T x = T x) : keepT T (fun z => todo z && !decide (z = x)) = keepT T todo := by
  funext k; unfold keepT
  by_cases e : k = x
  · subst e; simp [hx, h]
  · simp [e]
theorem keepT_go {T : Wd} {todo : Int → Bool} {x : Int} (h : sweepT T x = none) : (fun i => if i = x then none else (keepT T todo i).map (ndv G i)) = fun i => (keepT T (fun z => todo z && !decide (z = x)) i).map (ndv G i) := by
  funext k; unfold keepT
  by_cases e : k = x
  · subst e; simp [h]
  · simp [e]
theorem grown_then {g a : Nat} {w1 : World} (h : w.grownBy w1 (some a)) (k : w1.grownBy w' (some g)) (hg : g = a ∨ w.heap.size ≤ g) : w.grownBy w' (some a) :=
  ⟨k.os.trans h.os, k.tape.trans h.tape, k.output.trans h.output, Nat.le_trans h.size k.size, fun i hi hne => (k.block i (Nat.lt_of_lt_of_le hi h.size) (fun e => by
    have := Option.some.inj e
    rcases hg with e1 | e1
    · exact hne (by rw [this, e1])
    · omega)).trans (h.block i hi hne)⟩

set_option maxRecDepth 100000 in
set_option maxHeartbeats 8000000 in
theorem RTr.sweep_ok (h : RTr w r gN s T G) (hT : TrOk T) (hs : s ≤ 1000) (hC : ∀ k C, T k = some (.dir C) → C.length ≤ 1000) :
    Calls Tryz.prog 97 #[wp r] w fun e w' => e = .returned (.tuple #[]) ∧ ∃ s', RTr w' r gN s' (sweepT T) G ∧ Wt (town r gN T G) w w' := by
  have hmm := @run_makeMap Tryz.prog
  obtain ⟨w0, hrun, pm0, g0⟩ := (PMap.made w).put Tryz.underlying85 (by unfold maxLen; omega) 0 (by decide) (.int .i64 1)
  have b0 : Below w.heap.size w w0 := below_grown ((Below.refl _ w).alloc (Nat.le_refl _) _) (by show _ ≤ (w.heap.push _).size; rw [Array.size_push]; omega) g0 (Nat.le_refl _)
  have hL0 : w.heap.size < w0.heap.size := Nat.lt_of_lt_of_le (by show _ < (w.heap.push _).size; rw [Array.size_push]; omega) g0.size
  have h0 := h.below b0
  have c0 := h0.c0
  have hmap0 := h0.map
  obtain ⟨gL, hgL⟩ : ∃ gL, w.heap.size = gL := ⟨_, rfl⟩
  have hpm : PMap w0 gL 1 (cm (fun i => if i = 0 then 1 else 0)) := by
    have e : (fun i => if i = (0 : Int) then some (Value.int .i64 1) else (fun _ => none) i) = cm (fun i => if i = 0 then 1 else 0) := by
      funext i; unfold cm; by_cases e : i = 0 <;> simp [e]
    rw [← e, ← hgL]; exact pm0
  have hcn : Cnt T (fun k => ((T k).map (ndv G k)).isSome) (fun i => if i = 0 then 1 else 0) := fun n => by
    constructor
    · intro e; by_cases e0 : n = 0
      · exact .inl e0
      · simp [e0] at e
    · rintro (e | ⟨k, C, x, e1, e2, _⟩)
      · simp [e]
      · simp [e1] at e2
  clear pm0 g0 h0
  rw [hgL] at hL0 hrun
  go_enter Tryz.func97, Tryz.ntmps97
  go_wp2_with (at_range; refine wpList_krange rfl _ 33 rfl 113 Tryz.underlying33 gN _ _ rfl hmap0 ?_; intro w1 hr1 hg1 hs1)
  go_frame
  have b1 : Below w.heap.size w w1 := b0.trans (Below.mono ⟨hg1.os, hg1.tape, hg1.output, hg1.size, fun i hi => hg1.block i hi (by simp)⟩ b0.size)
  have hpm1 : PMap w1 gL 1 (cm (fun i => if i = 0 then 1 else 0)) := hpm.keep (hg1.block gL hL0 (by simp))
  obtain ⟨it, hit⟩ : ∃ it, w0.heap.size = it := ⟨_, rfl⟩
  rw [hit] at hr1 hL0 ⊢
  have hiN : gN < gL := by rw [← hgL]; exact h.map.lt
  clear hpm hg1 hs1 hmap0 c0 b0 hrun hit
  go_loopg [4] s (fun mm _ wr => ∃ todo c sL, PRng wr gN it s (fun k => (T k).map (ndv G k)) todo mm ∧ PMap wr gL sL (cm c) ∧ Cnt T todo c ∧ (∀ n, c n + 1000 * mm ≤ 1 + 1000 * s) ∧ sL + 1000 * mm ≤ 1 + 1000 * s ∧ Below w.heap.size w wr)
  case atStart => exact ⟨_, _, 1, hr1, hpm1, hcn, fun n => by split <;> omega, by omega, b1⟩
  case round =>
    clear hr1 b1 hpm1 hcn
    obtain ⟨todo, c, sL, hrg, hpm, hcn, hcb, hsL, b2⟩ := hrel
    go_wp2_with (at_next; refine wpList_knext rfl _ rfl gN it _ _ _ _ rfl hrg ?_ ?_)
    · intro hl
      have h2 := h.below b2
      have c0 := h2.c0
      have hmap := h2.map
      have hLl := hpm.lt
      have hled := hcn.led hl
      have hcb2 : ∀ n, c n ≤ 1 + 1000 * s := fun n => by have := hcb n; omega
      have gw2 : w.grownBy wr (some gN) := gby_below b2
      clear hrg hcn hcb hsL h2 b2
      go_wp2_with (at_range; refine wpList_krange rfl _ 33 rfl 113 Tryz.underlying33 gN _ _ rfl hmap ?_; intro w3 hr3 hg3 hs3)
      go_frame
      obtain ⟨it3, hit3⟩ : ∃ it3, wr.heap.size = it3 := ⟨_, rfl⟩
      rw [hit3] at hr3 hLl ⊢
      have gw3 : w.grownBy w3 (some gN) := grown_then gw2 (hg3.but (some gN)) (.inl rfl)
      have hpm3 : PMap w3 gL sL (cm c) := hpm.keep (hg3.block gL hpm.lt (by simp))
      have c3 : w3.cell? ⟨r, 0, none⟩ = some (.map (some gN)) := by rw [← c0]; exact World.cell?_of_block (hg3.block r (World.block_lt_of_cell? _ _ c0) (by simp))
      clear hmap c0 gw2 hpm hg3 hs3 hit3
      go_loopg [7] s (fun mm _ wq => ∃ todo s', PRng wq gN it3 s' (fun k => (keepT T todo k).map (ndv G k)) todo mm ∧ PMap wq gL sL (cm c) ∧ wq.cell? ⟨r, 0, none⟩ = some (.map (some gN)) ∧ w.grownBy wq (some gN))
      case atStart => exact ⟨_, s, by rw [keepT_start]; exact hr3, hpm3, c3, gw3⟩
      case round =>
        clear hr3 hpm3 c3 gw3
        obtain ⟨todo', s', hrg, hpm, c0, gw⟩ := hrel
        go_wp2_with (at_next; refine wpList_knext rfl _ rfl gN it3 _ _ _ _ rfl hrg ?_ ?_)
        · intro hl3
          have hfin := h.sub (T' := sweepT T) (fun k nd e => sweepT_sub e) gw (by have := hrg.map; rw [keepT_end hl3] at this; exact this)
          clear hrg hpm
          go_wp2_with fail
          go_end0
          exact ⟨rfl, s', hfin, .grown gw (.inr (.inl rfl))⟩
        · intro x v w4 cnt4 hwx htx nd hn hv hrg4 hlt4 hg4 hs4 hen
          subst hv
          rw [keepT_at htx] at hn
          have hitl := hrg.rlt
          obtain ⟨vm, vb, vt, hvv⟩ : ∃ vm vb vt, ndv G x nd = .agg #[.map vm, .bool vb, tx vt, .int .i64 (heldT nd : Int)] := by
            cases nd with
            | dir C => exact ⟨_, _, _, rfl⟩
            | file b x => exact ⟨_, _, _, rfl⟩
          rw [hvv] at hen
          have hcm := cm_get c x
          have hlx := hled x
          have hcx := hcb2 x
          have hst : (c x = 0 ∧ heldT nd = 0 → sweepT T x = none) ∧ (¬ (c x = 0 ∧ heldT nd = 0) → sweepT T x = T x) := by
            refine ⟨fun ⟨e1, e2⟩ => sweepT_go hn (fun e => ?_), fun e => sweepT_stay (fun nd' e' => ?_)⟩
            · rcases e with e | e
              · exact hlx.2 e e1
              · exact e e2
            · rw [hn] at e'; cases e'
              by_cases e1 : c x = 0
              · exact .inr (fun e2 => e ⟨e1, e2⟩)
              · exact .inl (hlx.1 e1)
          have hhb : heldT nd ≤ 1000 := by
            cases nd with
            | dir C => exact Nat.zero_le _
            | file b y => exact (hT.small x b y hn).2
          obtain ⟨cx, hcx'⟩ : ∃ cx, c x = cx := ⟨_, rfl⟩
          obtain ⟨hd, hhd⟩ : ∃ hd, heldT nd = hd := ⟨_, rfl⟩
          rw [hcx'] at hcm hcx hst
          rw [hhd] at hhb hst hen
          have gA : w.grownBy w4 (some gN) := grown_then gw hg4 (.inr (by omega))
          have hpm4 := hpm.keep (w' := w4) (hg4.block _ hpm.lt (fun e => by have := Option.some.inj e; omega))
          have c4 : w4.cell? ⟨r, 0, none⟩ = some (.map (some gN)) := by rw [← c0]; exact World.cell?_of_block (hg4.block r (World.block_lt_of_cell? _ _ c0) (fun e => by have := Option.some.inj e; have := h.lt (.inl rfl : town r gN T G r); omega))
          have hrgA := hrg4.keep (w' := w4.alloc (.cells #[.map vm, .bool vb, tx vt, .int .i64 (hd : Int)] 113)) (Below.heap_alloc _ _ _ hrg4.map.lt) (Below.heap_alloc _ _ _ hrg4.rlt)
          have hpmA := hpm4.keep (w' := w4.alloc (.cells #[.map vm, .bool vb, tx vt, .int .i64 (hd : Int)] 113)) (Below.heap_alloc _ _ _ hpm4.lt)
          have cA : (w4.alloc (.cells #[.map vm, .bool vb, tx vt, .int .i64 (hd : Int)] 113)).cell? ⟨r, 0, none⟩ = some (.map (some gN)) := by rw [← c4]; exact World.cell?_of_block (Below.heap_alloc _ _ _ (World.block_lt_of_cell? _ _ c4))
          have gB : w.grownBy (w4.alloc (.cells #[.map vm, .bool vb, tx vt, .int .i64 (hd : Int)] 113)) (some gN) := ⟨gA.os, gA.tape, gA.output, Nat.le_trans gA.size (by show _ ≤ (w4.heap.push _).size; rw [Array.size_push]; omega), fun i hi hne => (Below.heap_alloc _ _ _ (Nat.lt_of_lt_of_le hi gA.size)).trans (gA.block i hi hne)⟩
          clear hrg hpm c0 gw hg4 hrg4 hpm4 gA hvv hlx hled hcb2
          by_cases hgo : cx = 0 ∧ hd = 0
          · obtain ⟨rfl, rfl⟩ := hgo
            have hsw := hst.1 ⟨rfl, rfl⟩
            have e0 : ((0 : Nat) : Int) = 0 := rfl
            rw [e0] at hrgA hpmA cA gB hen hcm
            have hkg := keepT_go (G := G) (todo := todo') hsw
            have hss : (fun z => todo' z && !decide (z = x) && !decide (z = x)) = fun z => todo' z && !decide (z = x) := by funext z; cases todo' z <;> simp
            clear hst e0 c4
            go_upto_region 12 with (at_lookup; refine wpList_klook rfl _ _ 85 rfl 3 Tryz.underlying85 _ (zero_num _) gL _ _ rfl hpmA x rfl hwx ?_; rw [hcm])
            obtain ⟨w5, hw5⟩ : ∃ w5, w4.alloc (.cells #[.map vm, .bool vb, tx vt, .int .i64 0] 113) = w5 := ⟨_, rfl⟩
            rw [hw5] at hrgA hpmA cA gB ⊢
            clear hw5 hen hs4
            go_wp2_with (at_delete; refine wpList_kdelr rfl _ _ 33 rfl 113 Tryz.underlying33 gN it3 _ _ _ _ rfl hrgA x rfl hwx ?_; intro w6 cnt6 hrg6 hle6 hg6)
            have hrg7 := hrg6.as hkg hss
            have hpm6 := hpmA.keep (w' := w6) (hg6.block _ hpmA.lt (fun e => by have := Option.some.inj e; omega))
            have c6 : w6.cell? ⟨r, 0, none⟩ = some (.map (some gN)) := by rw [← cA]; exact World.cell?_of_block (hg6.block r (World.block_lt_of_cell? _ _ cA) (fun e => h.rne (Option.some.inj e)))
            have g6 : w.grownBy w6 (some gN) := grown_then gB hg6 (.inl rfl)
            clear hrg6 hrgA hpmA cA gB hg6
            go_roundg cnt6
            case measure => omega
            case rel => exact ⟨_, _, hrg7, hpm6, c6, g6⟩
          · have hsw := hst.2 hgo
            have hks := keepT_stay htx hsw
            clear hst
            by_cases hc0 : cx = 0
            · have hd0 : ¬ hd = 0 := fun e => hgo ⟨hc0, e⟩
              subst hc0
              have hdq : ¬ (hd : Int) = 0 := by omega
              go_wp2_with (at_lookup; refine wpList_klook rfl _ _ 85 rfl 3 Tryz.underlying85 _ (zero_num _) gL _ _ rfl hpmA x rfl hwx ?_; rw [hcm])
              go_roundg cnt4
              case measure => exact hlt4
              case rel => exact ⟨_, s', by rw [hks]; exact hrgA, hpmA, cA, gB⟩
            · have hcq : ¬ (cx : Int) = 0 := by omega
              go_wp2_with (at_lookup; refine wpList_klook rfl _ _ 85 rfl 3 Tryz.underlying85 _ (zero_num _) gL _ _ rfl hpmA x rfl hwx ?_; rw [hcm])
              go_roundg cnt4
              case measure => exact hlt4
              case rel => exact ⟨_, s', by rw [hks]; exact hrgA, hpmA, cA, gB⟩
    · intro x v w1 cnt1 hwx htx nd hn hv hrg1 hlt hg1 hs1 hen
      subst hv
      have hitl := hrg.rlt
      have hLl := hpm.lt
      have b3 : Below w.heap.size w w1 := below_grown b2 b2.size hg1 (by omega)
      have hpm1 : PMap w1 gL sL (cm c) := hpm.keep (hg1.block gL hLl (fun e => by have := Option.some.inj e; omega))
      clear hrg hpm hg1 b2
      cases nd with
      | file fb fx =>
        simp only [ndv] at hen
        have hc2 := hcn.file hn
        have hrgn : ∀ wx : World, (Instr.range 111 (.map none)).run Tryz.prog wx = _ := fun wx => run_range_nilMap wx 111 9 3 Tryz.underlying111
        have bA : Below w.heap.size w (w1.alloc (.cells #[.map none, .bool false, tx fb, .int .i64 (fx : Int)] 113)) := b3.alloc b3.size _
        have hrgA := hrg1.keep (w' := w1.alloc (.cells #[.map none, .bool false, tx fb, .int .i64 (fx : Int)] 113)) (Below.heap_alloc _ _ _ (by have := hpm1.lt; omega)) (Below.heap_alloc _ _ _ hrg1.rlt)
        have hpmA := hpm1.keep (w' := w1.alloc (.cells #[.map none, .bool false, tx fb, .int .i64 (fx : Int)] 113)) (Below.heap_alloc _ _ _ hpm1.lt)
        clear b3 hrg1 hpm1
        have hnx : ∀ ty, (Instr.next (.pointer (some ⟨wr.heap.size + 1, 0, none⟩)) false ty).run Tryz.prog ((w1.alloc (.cells #[.map none, .bool false, tx fb, .int .i64 (fx : Int)] 113)).alloc (.mapIter none 0 #[] 0)) = .ok (.tuple #[.bool false]) ((w1.alloc (.cells #[.map none, .bool false, tx fb, .int .i64 (fx : Int)] 113)).alloc (.mapIter none 0 #[] 0)) := fun ty => by
          have := run_next_nilMap (P := Tryz.prog) (w1.alloc (.cells #[.map none, .bool false, tx fb, .int .i64 (fx : Int)] 113)) ty 0 0 #[]
          rw [show (w1.alloc (.cells #[.map none, .bool false, tx fb, .int .i64 (fx : Int)] 113)).heap.size = wr.heap.size + 1 by show (w1.heap.push _).size = _; rw [Array.size_push, hs1]] at this
          exact this
        have bI := bA.alloc bA.size (.mapIter none 0 #[] 0)
        have hrgI := hrgA.keep (w' := World.alloc _ (.mapIter none 0 #[] 0)) (Below.heap_alloc _ _ _ (by have := hpmA.lt; omega)) (Below.heap_alloc _ _ _ hrgA.rlt)
        have hpmI := hpmA.keep (w' := World.alloc _ (.mapIter none 0 #[] 0)) (Below.heap_alloc _ _ _ hpmA.lt)
        clear bA hrgA hpmA
        go_upto_region 5 with fail
        obtain ⟨wI, hwI⟩ : ∃ wI, (w1.alloc (.cells #[.map none, .bool false, tx fb, .int .i64 (fx : Int)] 113)).alloc (.mapIter none 0 #[] 0) = wI := ⟨_, rfl⟩
        rw [hwI] at hnx bI hrgI hpmI ⊢
        clear hwI hen hrgn
        go_loopg [6] 0 (fun _ _ wq => wq = wI)
        case atStart => rfl
        case round =>
          subst hrel
          go_wp2_with fail
          go_roundg cnt1
          case measure => exact hlt
          case rel => exact ⟨_, c, sL, hrgI, hpmI, hc2, fun n => by have := hcb n; omega, by omega, bI⟩
      | dir C =>
        simp only [ndv] at hen
        have hCl := hC x C hn
        have hsm := (h.below b3).dirs x C hn
        have hGl : G x < gL := by rw [← hgL]; exact (h.dirs x C hn).lt
        have hGN := h.sep x C hn
        have bA : Below w.heap.size w (w1.alloc (.cells #[.map (some (G x)), .bool true, tx [], .int .i64 0] 113)) := b3.alloc b3.size _
        have hrgA := hrg1.keep (w' := w1.alloc (.cells #[.map (some (G x)), .bool true, tx [], .int .i64 0] 113)) (Below.heap_alloc _ _ _ (by have := hpm1.lt; omega)) (Below.heap_alloc _ _ _ hrg1.rlt)
        have hpmA := hpm1.keep (w' := w1.alloc (.cells #[.map (some (G x)), .bool true, tx [], .int .i64 0] 113)) (Below.heap_alloc _ _ _ hpm1.lt)
        have hsmA := hsm.keep (w' := w1.alloc (.cells #[.map (some (G x)), .bool true, tx [], .int .i64 0] 113)) (Below.heap_alloc _ _ _ hsm.lt)
        have hszA : (w1.alloc (.cells #[.map (some (G x)), .bool true, tx [], .int .i64 0] 113)).heap.size = wr.heap.size + 1 := by show (w1.heap.push _).size = _; rw [Array.size_push, hs1]
        clear b3 hrg1 hpm1 hsm
        go_upto_region 5 with (at_range; refine wpList_srange rfl _ 111 rfl 3 Tryz.underlying111 (G x) _ _ rfl hsmA ?_; intro w2 hr2 hg2 hs2)
        go_frame
        have hb2 := hg2.block
        rw [hszA] at hr2 ⊢
        obtain ⟨it2, hit2⟩ : ∃ it2, wr.heap.size + 1 = it2 := ⟨_, rfl⟩
        rw [hit2] at hr2 ⊢
        have b4 : Below w.heap.size w w2 := bA.grown hg2 bA.size (fun k e => by cases e)
        have hrg2 := hrgA.keep (w' := w2) (hg2.block _ hrgA.map.lt (by simp)) (hg2.block _ hrgA.rlt (by simp))
        have hpm2 := hpmA.keep (w' := w2) (hg2.block _ hpmA.lt (by simp))
        have hit2g : gL < it2 ∧ it < it2 := by have := hrgA.rlt; rw [hszA] at this; omega
        have hc1 := hcn.start (C := C)
        clear bA hrgA hpmA hsmA hszA hg2 hs2 hb2 hit2 hen
        go_loopg [6] C.length (fun mi _ wq => ∃ left c' sL', SRng wq (G x) it2 C.length (fun nm => (C.lookup nm).map (.int .i64 ·)) left mi ∧ PRng wq gN it s (fun k => (T k).map (ndv G k)) (fun z => todo z && !decide (z = x)) cnt1 ∧ PMap wq gL sL' (cm c') ∧ Cnt1 T todo C left c' ∧ (∀ n, c' n + mi + 1000 * cnt1 ≤ 1 + 1000 * s) ∧ sL' + mi + 1000 * cnt1 ≤ 1 + 1000 * s ∧ Below w.heap.size w wq)
        case atStart => exact ⟨_, c, sL, hr2, hrg2, hpm2, hc1, fun n => by have := hcb n; omega, by omega, b4⟩
        case round =>
          clear hr2 hrg2 hpm2 hc1 b4 hcn hcb hsL
          obtain ⟨left, c', sL', hsr, hrg, hpm, hcn, hcb, hsL, b5⟩ := hrel
          go_wp2_with (at_next; refine wpList_snext rfl _ rfl (G x) it2 _ _ _ _ rfl hsr ?_ ?_)
          · intro hl
            have hc3 := hcn.stop hn hl
            clear hsr
            go_wp2_with fail
            go_roundg cnt1
            case measure => exact hlt
            case rel => exact ⟨_, c', sL', hrg, hpm, hc3, fun n => by have := hcb n; omega, by omega, b5⟩
          · intro y v w3 cnt2 hwy hty m hm hv hsr3 hlt2 hg3 hs3 hen
            subst hv
            have hkm := hT.key m (hT.child x C y m hn hm)
            have hwm : (Lit.int .i64 m).wf = true := wf_few hkm.1 (by omega)
            have hcm := cm_get c' m
            have hcbm := hcb m
            have hc4 := hcn.step hm
            have b6 : Below w.heap.size w w3 := below_grown b5 b5.size hg3 (by omega)
            have hrg3 := hrg.keep (w' := w3) (hg3.block _ hrg.map.lt (fun e => by have := Option.some.inj e; omega)) (hg3.block _ hrg.rlt (fun e => by have := Option.some.inj e; omega))
            have hpm3 := hpm.keep (w' := w3) (hg3.block _ hpm.lt (fun e => by have := Option.some.inj e; omega))
            have hsLm : sL' < maxLen := by unfold maxLen; omega
            obtain ⟨cc, hcc⟩ : ∃ cc, c' m = cc := ⟨_, rfl⟩
            rw [hcc] at hcm hcbm
            clear hsr hrg hpm hg3 b5 hcn
            go_wp2_with (first
              | (at_lookup; refine wpList_klook rfl _ _ 85 rfl 3 Tryz.underlying85 _ (zero_num _) gL _ _ rfl hpm3 m rfl hwm ?_; rw [hcm])
              | (refine wpList_kput rfl _ _ _ 85 rfl 3 Tryz.underlying85 gL _ _ rfl hpm3 hsLm m rfl hwm _ rfl ?_; intro w4 pm4 g4))
            have e4 := cm_put c' m
            rw [hcc] at e4
            have pm5 : PMap w4 gL _ (cm (fun i => if i = m then cc + 1 else c' i)) := e4 ▸ pm4
            rw [hcc] at hc4
            have b7 : Below w.heap.size w w4 := below_grown b6 b6.size g4 (by omega)
            have hrg4 := hrg3.keep (w' := w4) (g4.block _ hrg3.map.lt (fun e => by have := Option.some.inj e; omega)) (g4.block _ hrg3.rlt (fun e => by have := Option.some.inj e; omega))
            have hsr4 := hsr3.keep (w' := w4) (g4.block _ hsr3.map.lt (fun e => by have := Option.some.inj e; omega)) (g4.block _ hsr3.rlt (fun e => by have := Option.some.inj e; omega))
            clear hpm3 hrg3 hsr3 pm4 b6 g4
            go_roundg cnt2
            case measure => exact hlt2
            case rel => exact ⟨_, _, _, hsr4, hrg4, pm5, hc4, fun n => by have := hcb n; split <;> omega, by split <;> omega, b7⟩
end
end Go.Proofs.YtjkneekfijibiabGreatDoor

namespace Go.Proofs.YtjkneekfijibiabGreatDoor
open Go.RowKit Go.Maps

section
variable {w w' : World} {r gN s : Nat} {T : Wd} {G : Int → Nat}
/-- A name taken. -/
theorem RTr.del (h : RTr w r gN s T G) (hT : TrOk T) {d : Int} {nm : Nm} {C : List (Nm × Int)} (hd : T d = some (.dir C)) (hyes : (C.lookup nm).isSome = true) (hg : w.grownBy w' (some (G d)))
    (sm : SMap w' (G d) (if ((C.lookup nm).map (Value.int .i64 ·)).isSome then C.length - 1 else C.length) (fun i => if i = nm then none else (C.lookup i).map (.int .i64 ·))) : RTr w' r gN s (delT T d nm) G := by
  have hk : ∀ i, i < w.heap.size → i ≠ G d → w'.heap[i]? = w.heap[i]? := fun i hi hne => hg.block i hi (fun e => hne (Option.some.inj e))
  have hrG : r ≠ G d := by
    intro e
    obtain ⟨es, cl, hm⟩ := (h.dirs d C hd).isMap
    rw [← e, h.head] at hm; cases hm
  rw [delT_eq hd]
  have hold : ∀ k D, setT T d (.dir (C.filter (fun x => x.1 != nm))) k = some (.dir D) → (k = d ∧ D = C.filter (fun x => x.1 != nm)) ∨ (k ≠ d ∧ T k = some (.dir D)) := fun k D e => by
    by_cases e1 : k = d
    · subst e1; rw [setT_same] at e; cases e; exact .inl ⟨rfl, rfl⟩
    · rw [setT_other _ e1] at e; exact .inr ⟨e1, e⟩
  have hsome : ∀ k D, setT T d (.dir (C.filter (fun x => x.1 != nm))) k = some (.dir D) → ∃ D', T k = some (.dir D') := fun k D e => by
    rcases hold k D e with ⟨rfl, _⟩ | ⟨_, e⟩
    · exact ⟨C, hd⟩
    · exact ⟨D, e⟩
  refine ⟨(hk r (h.lt (.inl rfl)) hrG).trans h.head, ?_, ?_, fun k D e => ?_, fun k k' D D' e e' hG => ?_⟩
  · have e : (fun k => (setT T d (.dir (C.filter (fun x => x.1 != nm))) k).map (ndv G k)) = fun k => (T k).map (ndv G k) := by
      funext k; unfold setT; by_cases e1 : k = d
      · subst e1; simp [hd, ndv]
      · simp [e1]
    rw [e]
    exact h.map.keep (hk gN h.map.lt (fun e => h.sep d C hd e.symm))
  · intro k D e
    rcases hold k D e with ⟨rfl, rfl⟩ | ⟨e1, e⟩
    · rw [if_pos (by rw [Option.isSome_map]; exact hyes)] at sm
      rw [filter_len (hT.nodup k C hd) hyes]
      have e2 : (fun i => if i = nm then none else (C.lookup i).map (Value.int .i64 ·)) = fun i => ((C.filter (fun x => x.1 != nm)).lookup i).map (Value.int .i64 ·) := by
        funext i
        rw [lookup_del]
        by_cases ei : i = nm <;> simp [ei]
      rw [e2] at sm
      exact sm
    · exact (h.dirs k D e).keep (hk _ (h.dirs k D e).lt (fun e2 => e1 (h.inj k d D C e hd e2)))
  · obtain ⟨D', e'⟩ := hsome k D e
    exact h.sep k D' e'
  · obtain ⟨D1, e1⟩ := hsome k D e
    obtain ⟨D2, e2⟩ := hsome k' D' e'
    exact h.inj k k' D1 D2 e1 e2 hG
end
end Go.Proofs.YtjkneekfijibiabGreatDoor
