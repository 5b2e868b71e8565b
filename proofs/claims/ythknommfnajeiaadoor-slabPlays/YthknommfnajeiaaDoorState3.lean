/- Both caches, with their pools, apart from each other and from all that was there at first; an item of the script beside them. -/
import Derived.Test.YthknommfnajeiaaDoorRefCA
import Derived.Test.YthknommfnajeiaaDoorRefCR
import Derived.Test.YthknommfnajeiaaDoorBare
namespace Go.Proofs.YthknommfnajeiaaDoor
open Go.RowKit Go.Shelf Go.Lib Go.Sort Go.Maps

theorem RAt.more' {w : World} {r f g n : Nat} {U : Nat → Bool} {T : Int → Option Nat} {m m' : Nat} (h : RAt w r f g n U T m) (hm : m ≤ m') : RAt w r f g n U T m' := by
  obtain ⟨h1, h2, ⟨s, h5, h6⟩, h7, h8⟩ := h
  exact ⟨h1, h2, ⟨s, h5, Nat.le_trans h6 hm⟩, h7, h8⟩

/-- Where all lies. -/
structure Pos where
  w0 : World
  c : Nat
  b : Nat
  g : Nat
  n : Nat
  per : Nat
  rc : Nat
  r : Nat
  f : Nat
  gr : Nat
  gt : Nat

def ron (E : Pos) (vs : Value) (i : Nat) : Prop := ro E.rc E.r E.f E.gr E.gt vs i

structure BB (E : Pos) (w : World) (A : Nat → Prop) (vs : Value) (L : List Int) (C : Int → Option Nat) (U : Nat → Bool) (T : Int → Option Nat) (m : Nat) (C' : Int → Option Nat) (U' : Nat → Bool) (T' : Int → Option Nat) (m' : Nat) : Prop where
  ca : CA w E.c E.b E.per E.g E.n C U T m A
  rs : RS w E.w0.heap.size E.rc E.r E.f E.gr E.gt E.per E.n vs L C' U' T' m'
  bel : Below E.w0.heap.size E.w0 w
  apart : ∀ i, ron E vs i → ¬ A i ∧ i ≠ E.c ∧ i ≠ E.g
  offA : ∀ i, i < E.w0.heap.size → ¬ A i
  offg : E.w0.heap.size ≤ E.g
  offR : ∀ i, i < E.w0.heap.size → ¬ ron E vs i

def SS (E : Pos) (xb : Nat) (xs : Array Value) (w : World) (C : Int → Option Nat) (U : Nat → Bool) (T : Int → Option Nat) (m : Nat) (C' : Int → Option Nat) (U' : Nat → Bool) (T' : Int → Option Nat) (m' : Nat) : Prop :=
  ∃ A vs L, BB E w A vs L C U T m C' U' T' m' ∧ w.heap[xb]? = some (.cells xs 33) ∧ ¬ A xb ∧ xb ≠ E.g ∧ ¬ ron E vs xb

section
variable {E : Pos} {w w' : World} {A : Nat → Prop} {vs : Value} {L : List Int} {xb : Nat} {xs : Array Value} {C C' C1 : Int → Option Nat} {U U' U1 : Nat → Bool} {T T' T1 : Int → Option Nat} {m m' m1 : Nat}

theorem BB.stay (B : BB E w A vs L C U T m C' U' T' m') (h : Below w.heap.size w w') : BB E w' A vs L C U T m C' U' T' m' :=
  ⟨B.ca.below h, B.rs.below h, B.bel.trans (h.mono B.bel.size), B.apart, B.offA, B.offg, B.offR⟩
theorem BB.turn (B : BB E w A vs L C U T m C' U' T' m') (t : CTurns w E.c E.b E.per E.g E.n A w' C1 U1 T1 m1) : ∃ A', BB E w' A' vs L C1 U1 T1 m1 C' U' T' m' ∧ ∀ i, i < w.heap.size → ¬ A i → i ≠ E.g → w'.heap[i]? = w.heap[i]? ∧ ¬ A' i := by
  obtain ⟨A', a, fr, sub⟩ := t
  have hfr : ∀ i, i < w.heap.size → ¬ A i → i ≠ E.g → w'.heap[i]? = w.heap[i]? := fun i hi h1 h2 => fr.block i hi (fun h => by rcases h with h | h; exact h1 h; exact h2 h)
  refine ⟨A', ⟨a, B.rs.keep (fun i hi => hfr i (B.rs.lt hi) (B.apart i hi).1 (B.apart i hi).2.2), B.bel.trans ⟨fr.os, fr.tape, fr.output, fr.size, fun i hi => hfr i (Nat.lt_of_lt_of_le hi B.bel.size) (B.offA i hi) (by have := B.offg; omega)⟩, fun i hi => ⟨fun h => (B.apart i hi).1 (sub i (B.rs.lt hi) h), (B.apart i hi).2⟩, fun i hi h => B.offA i hi (sub i (Nat.lt_of_lt_of_le hi B.bel.size) h), B.offg, B.offR⟩, fun i hi h1 h2 => ⟨hfr i hi h1 h2, fun h => h1 (sub i hi h)⟩⟩
theorem BB.rturn (B : BB E w A vs L C U T m C' U' T' m') (t : RTurns w E.w0.heap.size E.rc E.r E.f E.gr E.gt E.per E.n vs w' C1 U1 T1 m1) : ∃ vs' L', BB E w' A vs' L' C U T m C1 U1 T1 m1 ∧ ∀ i, i < w.heap.size → ¬ ron E vs i → w'.heap[i]? = w.heap[i]? ∧ ¬ ron E vs' i := by
  obtain ⟨vs', L', s, fr, sub⟩ := t
  have hcl := B.ca.ch.lt
  have hgl := B.ca.ch.mlt
  have hnc : ¬ ron E vs E.c := fun h => (B.apart _ h).2.1 rfl
  have hng : ¬ ron E vs E.g := fun h => (B.apart _ h).2.2 rfl
  have hlA : ∀ i, A i → i < w.heap.size := fun i hi => B.ca.pool.lt' hi
  refine ⟨vs', L', ⟨⟨B.ca.ch.keep (fr.block _ hcl hnc) (fr.block _ hgl hng), B.ca.pool.keep' (fun i hi => fr.block i (hlA i hi) (fun h => (B.apart i h).1 hi)), B.ca.per1, B.ca.per16, B.ca.most, B.ca.tk, B.ca.offc, B.ca.offg⟩, s, B.bel.trans ⟨fr.os, fr.tape, fr.output, fr.size, fun i hi => fr.block i (Nat.lt_of_lt_of_le hi B.bel.size) (B.offR i hi)⟩, fun i hi => ?_, B.offA, B.offg, fun i hi h => B.offR i hi (sub i (Nat.lt_of_lt_of_le hi B.bel.size) h)⟩, fun i hi h => ⟨fr.block i hi h, fun h' => h (sub i hi h')⟩⟩
  by_cases hl : i < w.heap.size
  · exact B.apart i (sub i hl hi)
  · exact ⟨fun h => hl (hlA i h), fun e => hl (e ▸ hcl), fun e => hl (e ▸ hgl)⟩

theorem SS.stay (s : SS E xb xs w C U T m C' U' T' m') (h : Below w.heap.size w w') : SS E xb xs w' C U T m C' U' T' m' := by
  obtain ⟨A, vs, L, B, hx, h1, h2, h3⟩ := s
  exact ⟨A, vs, L, B.stay h, (h.block xb (lt_of_heap hx)).trans hx, h1, h2, h3⟩
theorem SS.turn (B : BB E w A vs L C U T m C' U' T' m') (hx : w.heap[xb]? = some (.cells xs 33)) (h1 : ¬ A xb) (h2 : xb ≠ E.g) (h3 : ¬ ron E vs xb) (t : CTurns w E.c E.b E.per E.g E.n A w' C1 U1 T1 m1) : SS E xb xs w' C1 U1 T1 m1 C' U' T' m' := by
  obtain ⟨A', B', k⟩ := B.turn t
  have := k xb (lt_of_heap hx) h1 h2
  exact ⟨A', vs, L, B', this.1.trans hx, this.2, h2, h3⟩
theorem SS.rturn (B : BB E w A vs L C U T m C' U' T' m') (hx : w.heap[xb]? = some (.cells xs 33)) (h1 : ¬ A xb) (h2 : xb ≠ E.g) (h3 : ¬ ron E vs xb) (t : RTurns w E.w0.heap.size E.rc E.r E.f E.gr E.gt E.per E.n vs w' C1 U1 T1 m1) : SS E xb xs w' C U T m C1 U1 T1 m1 := by
  obtain ⟨vs', L', B', k⟩ := B.rturn t
  have := k xb (lt_of_heap hx) h3
  exact ⟨A, vs', L', B', this.1.trans hx, h1, h2, this.2⟩
theorem SS.cell (s : SS E xb xs w C U T m C' U' T' m') (j : Nat) : w.cell? ⟨xb, j, none⟩ = xs[j]? := by
  obtain ⟨A, vs, L, B, hx, _⟩ := s
  exact cell_of_row w xb j _ _ _ hx
theorem SS.bel (s : SS E xb xs w C U T m C' U' T' m') : Below E.w0.heap.size E.w0 w := by
  obtain ⟨A, vs, L, B, _⟩ := s; exact B.bel
theorem SS.more (s : SS E xb xs w C U T m C' U' T' m') {m2 m3 : Nat} (h1 : m ≤ m2) (h2 : m' ≤ m3) : SS E xb xs w C U T m2 C' U' T' m3 := by
  obtain ⟨A, vs, L, B, k⟩ := s
  refine ⟨A, vs, L, ⟨⟨B.ca.ch, B.ca.pool.more' h1, B.ca.per1, B.ca.per16, B.ca.most, B.ca.tk, B.ca.offc, B.ca.offg⟩, ?_, B.bel, B.apart, B.offA, B.offg, B.offR⟩, k⟩
  exact ⟨B.rs.head, B.rs.map, B.rs.row, B.rs.pool.more' h2, B.rs.keys, B.rs.inv, B.rs.tk, B.rs.per1, B.rs.per16, B.rs.most, B.rs.rcr, B.rs.gtr, B.rs.vsr⟩
theorem SS.rcell (s : SS E xb xs w C U T m C' U' T' m') : w.cell? ⟨E.rc, 0, none⟩ = some (pp E.r) := by
  obtain ⟨A, vs, L, B, _⟩ := s; exact B.rs.c0
theorem SS.inv (s : SS E xb xs w C U T m C' U' T' m') : Inv E.n U T := by
  obtain ⟨A, vs, L, B, _⟩ := s; exact B.ca.inv

/-- An Errno, or none. -/
def errV (c : Int) : Value := if c = 0 then .nilIface else enr c
theorem bare_any (c : Int) (w : World) (hg : w.cell? ⟨0, 0, none⟩ = some errT) : Calls Tryd.prog 10 #[errV c, .int .i64 c] w fun e w' => e = .returned (.bool true) ∧ Below w.heap.size w w' := by
  by_cases h : c = 0
  · subst h; exact bare_nil w
  · rw [errV, if_neg h]; exact bare_eno c w hg

/-- What Alloc of a cache answers, and makes. -/
def AR (per : Nat) (C : Int → Option Nat) (U : Nat → Bool) (T : Int → Option Nat) (v err : Int) (C1 : Int → Option Nat) (U1 : Nat → Bool) (T1 : Int → Option Nat) (d : Nat) : Prop :=
  ∃ ks, Ks C ks ∧
    ((∃ F, room per C ks = some F ∧ v = F * per + low (val C F) ∧ err = 0 ∧ C1 = putC C F (val C F ||| 2 ^ low (val C F)) ∧ U1 = U ∧ T1 = T ∧ d = 0) ∨
     (room per C ks = none ∧ (∀ j r, mxb U j r → j < 0) ∧ v = 0 ∧ err = 12 ∧ C1 = C ∧ U1 = U ∧ T1 = T ∧ d = 0) ∨
     (room per C ks = none ∧ ∃ k q, Best U 0 (q * 2 ^ k) k ∧ v = ((q * 2 ^ k : Nat) : Int) * per ∧ err = 0 ∧ C1 = putC C ((q * 2 ^ k : Nat) : Int) 1 ∧ U1 = cut U 0 (q * 2 ^ k) ∧ T1 = (fun z => if z = ((q * 2 ^ k : Nat) : Int) then some 0 else T z) ∧ d = 1))
theorem AR.one {per : Nat} {v err v' err' : Int} {C2 : Int → Option Nat} {U2 : Nat → Bool} {T2 : Int → Option Nat} {d d' : Nat} (h : AR per C U T v err C1 U1 T1 d) (h' : AR per C U T v' err' C2 U2 T2 d') : v' = v ∧ err' = err ∧ C2 = C1 ∧ U2 = U1 ∧ T2 = T1 ∧ d' = d := by
  obtain ⟨ks, hk, h⟩ := h
  obtain ⟨ks', hk', h'⟩ := h'
  obtain rfl := hk.one hk'
  rcases h with ⟨F, hr, rfl, rfl, rfl, rfl, rfl, rfl⟩ | ⟨hr, hno, rfl, rfl, rfl, rfl, rfl, rfl⟩ | ⟨hr, k, q, hB, rfl, rfl, rfl, rfl, rfl, rfl⟩ <;> rcases h' with ⟨F', hr', rfl, rfl, rfl, rfl, rfl, rfl⟩ | ⟨hr', hno', rfl, rfl, rfl, rfl, rfl, rfl⟩ | ⟨hr', k', q', hB', rfl, rfl, rfl, rfl, rfl, rfl⟩
  all_goals first
    | (rw [hr] at hr'; cases hr')
    | skip
  · exact ⟨rfl, rfl, rfl, rfl, rfl, rfl⟩
  · exact ⟨rfl, rfl, rfl, rfl, rfl, rfl⟩
  · obtain ⟨q2, _, hx⟩ := hB'.1; exact absurd (hno _ _ hx) (by omega)
  · obtain ⟨q2, _, hx⟩ := hB.1; exact absurd (hno' _ _ hx) (by omega)
  · rw [(hB'.one hB).1]; exact ⟨rfl, rfl, rfl, rfl, rfl, rfl⟩

theorem AR.small {per : Nat} {v err : Int} {d : Nat} (h : AR per C U T v err C1 U1 T1 d) : d ≤ 1 := by
  obtain ⟨ks, hk, h⟩ := h
  rcases h with ⟨F, _, _, _, _, _, _, rfl⟩ | ⟨_, _, _, _, _, _, _, rfl⟩ | ⟨_, k, q, _, _, _, _, _, _, rfl⟩ <;> omega
theorem SS.alloc (s : SS E xb xs w C U T m C' U' T' m') (hT : Tab E.w0) (hm : m < 10000) :
    Calls Tryd.prog 35 #[cp E.c] w fun e w' => ∃ v err C1 U1 T1 d, AR E.per C U T v err C1 U1 T1 d ∧ e = .returned (.tuple #[.int .i64 v, errV err]) ∧ SS E xb xs w' C1 U1 T1 (m + d) C' U' T' m' := by
  have s' := s
  obtain ⟨A, vs, L, B, hx, h1, h2, h3⟩ := s
  refine (calloc_ok B.ca hm (hT.keep (B.bel.block _ hT.lt)) (B.offA _ hT.lt)).mono ?_
  rintro e w' ⟨ks, hks, ⟨F, hr, rfl, t⟩ | ⟨hr, hno, rfl, hb⟩ | ⟨hr, k, q, hB, hTn, rfl, t⟩⟩
  · exact ⟨_, 0, _, _, _, 0, ⟨ks, hks, .inl ⟨F, hr, rfl, rfl, rfl, rfl, rfl, rfl⟩⟩, rfl, SS.turn B hx h1 h2 h3 t⟩
  · exact ⟨0, 12, _, _, _, 0, ⟨ks, hks, .inr (.inl ⟨hr, hno, rfl, rfl, rfl, rfl, rfl, rfl⟩)⟩, rfl, s'.stay hb⟩
  · exact ⟨_, 0, _, _, _, 1, ⟨ks, hks, .inr (.inr ⟨hr, k, q, hB, rfl, rfl, rfl, rfl, rfl, rfl⟩)⟩, rfl, SS.turn B hx h1 h2 h3 t⟩
theorem SS.ralloc (s : SS E xb xs w C U T m C' U' T' m') (hm : m' < 10000) :
    Calls Tryd.prog 34 #[pp E.rc] w fun e w' => ∃ v err C1 U1 T1 d, AR E.per C' U' T' v err C1 U1 T1 d ∧ e = .returned (.tuple #[.int .i64 v, .int .i64 err]) ∧ SS E xb xs w' C U T m C1 U1 T1 (m' + d) := by
  have s' := s
  obtain ⟨A, vs, L, B, hx, h1, h2, h3⟩ := s
  refine (rcalloc_ok B.rs hm B.bel.size).mono ?_
  rintro e w' (⟨F, hr, rfl, t⟩ | ⟨hr, hno, rfl, hb⟩ | ⟨hr, k, q, hB, rfl, t⟩)
  · exact ⟨_, 0, _, _, _, 0, ⟨L, B.rs.keys, .inl ⟨F, hr, rfl, rfl, rfl, rfl, rfl, rfl⟩⟩, rfl, SS.rturn B hx h1 h2 h3 t⟩
  · exact ⟨0, 12, _, _, _, 0, ⟨L, B.rs.keys, .inr (.inl ⟨hr, hno, rfl, rfl, rfl, rfl, rfl, rfl⟩)⟩, rfl, s'.stay hb⟩
  · exact ⟨_, 0, _, _, _, 1, ⟨L, B.rs.keys, .inr (.inr ⟨hr, k, q, hB, rfl, rfl, rfl, rfl, rfl, rfl⟩)⟩, rfl, SS.rturn B hx h1 h2 h3 t⟩

/-- What Give of a cache answers, and makes. -/
def GR (per : Nat) (C : Int → Option Nat) (k err : Int) (C1 : Int → Option Nat) : Prop := (isT per C k = false ∧ err = 7 ∧ C1 = C) ∨ (isT per C k = true ∧ err = 0 ∧ C1 = putC C (k / per) (drop (val C (k / per)) (k % per).toNat))
theorem GR.one {per : Nat} {k err err' : Int} {C2 : Int → Option Nat} (h : GR per C k err C1) (h' : GR per C k err' C2) : err' = err ∧ C2 = C1 := by
  rcases h with ⟨e, rfl, rfl⟩ | ⟨e, rfl, rfl⟩ <;> rcases h' with ⟨e', rfl, rfl⟩ | ⟨e', rfl, rfl⟩
  · exact ⟨rfl, rfl⟩
  · rw [e] at e'; cases e'
  · rw [e] at e'; cases e'
  · exact ⟨rfl, rfl⟩
theorem SS.give (s : SS E xb xs w C U T m C' U' T' m') (k : Int) (hk : (Lit.int .i64 k).wf = true) :
    Calls Tryd.prog 36 #[cp E.c, .int .i64 k] w fun e w' => ∃ err C1, GR E.per C k err C1 ∧ e = .returned (errV err) ∧ SS E xb xs w' C1 U T m C' U' T' m' := by
  have s' := s
  obtain ⟨A, vs, L, B, hx, h1, h2, h3⟩ := s
  refine (cgive_ok B.ca k hk).mono ?_
  rintro e w' (⟨hi, rfl, hb⟩ | ⟨hi, rfl, t⟩)
  · exact ⟨7, C, .inl ⟨hi, rfl, rfl⟩, rfl, s'.stay hb⟩
  · exact ⟨0, _, .inr ⟨hi, rfl, rfl⟩, rfl, SS.turn B hx h1 h2 h3 t⟩
theorem SS.rgive (s : SS E xb xs w C U T m C' U' T' m') (k : Int) (hk : (Lit.int .i64 k).wf = true) :
    Calls Tryd.prog 37 #[pp E.rc, .int .i64 k] w fun e w' => ∃ err C1, GR E.per C' k err C1 ∧ e = .returned (.int .i64 err) ∧ SS E xb xs w' C U T m C1 U' T' m' := by
  have s' := s
  obtain ⟨A, vs, L, B, hx, h1, h2, h3⟩ := s
  refine (rcgive_ok B.rs k hk).mono ?_
  rintro e w' (⟨hi, rfl, hb⟩ | ⟨hi, rfl, t⟩)
  · subst hb; exact ⟨7, C', .inl ⟨hi, rfl, rfl⟩, rfl, s'⟩
  · exact ⟨0, _, .inr ⟨hi, rfl, rfl⟩, rfl, SS.rturn B hx h1 h2 h3 t⟩

/-- What Reap answers, and makes. -/
def ZR (C : Int → Option Nat) (U : Nat → Bool) (T : Int → Option Nat) (v : Int) (C1 : Int → Option Nat) (U1 : Nat → Bool) (T1 : Int → Option Nat) : Prop := ∃ ks, Ks C ks ∧ v = ((ks.filter (vac C)).length : Nat) ∧ C1 = Proofs.YthknommfnajeiaaDoor.reap C ∧ U1 = backU C U ks ∧ T1 = cutL C T ks
theorem ZR.one {v v' : Int} {C2 : Int → Option Nat} {U2 : Nat → Bool} {T2 : Int → Option Nat} (h : ZR C U T v C1 U1 T1) (h' : ZR C U T v' C2 U2 T2) : v' = v ∧ C2 = C1 ∧ U2 = U1 ∧ T2 = T1 := by
  obtain ⟨ks, hk, rfl, rfl, rfl, rfl⟩ := h
  obtain ⟨ks', hk', rfl, rfl, rfl, rfl⟩ := h'
  obtain rfl := hk.one hk'
  exact ⟨rfl, rfl, rfl, rfl⟩
theorem SS.reap (s : SS E xb xs w C U T m C' U' T' m') :
    Calls Tryd.prog 38 #[cp E.c] w fun e w' => ∃ v C1 U1 T1, ZR C U T v C1 U1 T1 ∧ e = .returned (.int .i64 v) ∧ SS E xb xs w' C1 U1 T1 m C' U' T' m' := by
  obtain ⟨A, vs, L, B, hx, h1, h2, h3⟩ := s
  refine (creap_ok B.ca).mono ?_
  rintro e w' ⟨ks, hks, rfl, t⟩
  exact ⟨_, _, _, _, ⟨ks, hks, rfl, rfl, rfl, rfl⟩, rfl, SS.turn B hx h1 h2 h3 t⟩
theorem SS.rreap (s : SS E xb xs w C U T m C' U' T' m') :
    Calls Tryd.prog 39 #[pp E.rc] w fun e w' => ∃ v C1 U1 T1, ZR C' U' T' v C1 U1 T1 ∧ e = .returned (.int .i64 v) ∧ SS E xb xs w' C U T m C1 U1 T1 m' := by
  obtain ⟨A, vs, L, B, hx, h1, h2, h3⟩ := s
  refine (rcreap_ok B.rs B.bel.size).mono ?_
  rintro e w' ⟨rfl, t⟩
  exact ⟨_, _, _, _, ⟨L, B.rs.keys, rfl, rfl, rfl, rfl⟩, rfl, SS.rturn B hx h1 h2 h3 t⟩

/-- What Alloc of a pool answers, and makes. -/
def PR (o : Int) (U : Nat → Bool) (T : Int → Option Nat) (v err : Int) (U1 : Nat → Bool) (T1 : Int → Option Nat) (d : Nat) : Prop :=
  ((o < 0 ∨ 6 < o) ∧ v = 0 ∧ err = 1 ∧ U1 = U ∧ T1 = T ∧ d = 0) ∨
  ∃ o' : Nat, o = (o' : Int) ∧ o' ≤ 6 ∧ (((∀ j r, mxb U j r → j < o') ∧ v = 0 ∧ err = 12 ∧ U1 = U ∧ T1 = T ∧ d = 0) ∨
    ∃ k q, Best U o' (q * 2 ^ k) k ∧ v = ((q * 2 ^ k : Nat) : Int) ∧ err = 0 ∧ U1 = cut U o' (q * 2 ^ (k - o')) ∧ T1 = (fun z => if z = ((q * 2 ^ k : Nat) : Int) then some o' else T z) ∧ d = 1)
theorem PR.one {o v err v' err' : Int} {U2 : Nat → Bool} {T2 : Int → Option Nat} {d d' : Nat} (h : PR o U T v err U1 T1 d) (h' : PR o U T v' err' U2 T2 d') : v' = v ∧ err' = err ∧ U2 = U1 ∧ T2 = T1 ∧ d' = d := by
  rcases h with ⟨ho, rfl, rfl, rfl, rfl, rfl⟩ | ⟨o1, rfl, ho1, h⟩
  · rcases h' with ⟨_, rfl, rfl, rfl, rfl, rfl⟩ | ⟨o2, e, ho2, h'⟩
    · exact ⟨rfl, rfl, rfl, rfl, rfl⟩
    · clear h'; omega
  · rcases h' with ⟨ho, _⟩ | ⟨o2, e, ho2, h'⟩
    · clear h; omega
    · obtain rfl : o1 = o2 := by clear h h'; omega
      rcases h with ⟨hno, rfl, rfl, rfl, rfl, rfl⟩ | ⟨k, q, hB, rfl, rfl, rfl, rfl, rfl⟩ <;> rcases h' with ⟨hno', rfl, rfl, rfl, rfl, rfl⟩ | ⟨k', q', hB', rfl, rfl, rfl, rfl, rfl⟩
      · exact ⟨rfl, rfl, rfl, rfl, rfl⟩
      · obtain ⟨⟨q2, _, hx⟩, hok, _⟩ := hB'; have := hno _ _ hx; omega
      · obtain ⟨⟨q2, _, hx⟩, hok, _⟩ := hB; have := hno' _ _ hx; omega
      · obtain ⟨e1, e2⟩ := hB'.one hB
        subst e2
        obtain rfl := Nat.eq_of_mul_eq_mul_right (Nat.two_pow_pos _) e1
        exact ⟨rfl, rfl, rfl, rfl, rfl⟩
theorem PR.small {o v err : Int} {d : Nat} (h : PR o U T v err U1 T1 d) : d ≤ 1 := by
  rcases h with ⟨_, _, _, _, _, rfl⟩ | ⟨o1, _, _, ⟨_, _, _, _, _, rfl⟩ | ⟨k, q, _, _, _, _, _, rfl⟩⟩ <;> omega
/-- A base that is taken was free. -/
theorem Best.free {o q k : Nat} (inv : Inv E.n U T) (hB : Best U o (q * 2 ^ k) k) : T ((q * 2 ^ k : Nat) : Int) = none := by
  obtain ⟨⟨q', hq', hx⟩, _, _⟩ := hB
  cases e : T ((q * 2 ^ k : Nat) : Int) with
  | none => rfl
  | some j =>
    obtain ⟨_, p, hp, hf⟩ := inv.tk _ _ e
    have hp' : q * 2 ^ k = p * 2 ^ j := by exact_mod_cast hp
    have h1 := (hf (p * 2 ^ j) (first_in j p)).2
    have h2 := hx.2.1 (q' * 2 ^ k) (first_in k q')
    rw [← hq', hp', h1] at h2; cases h2

theorem SS.palloc (s : SS E xb xs w C U T m C' U' T' m') (hm : m < 10000) (o : Int) :
    Calls Tryd.prog 22 #[pp E.b, .int .i64 o] w fun e w' => ∃ v err U1 T1 d, PR o U T v err U1 T1 d ∧ e = .returned (.tuple #[.int .i64 v, errV err]) ∧ SS E xb xs w' C U1 T1 (m + d) C' U' T' m' := by
  have s' := s
  obtain ⟨A, vs, L, B, hx, h1, h2, h3⟩ := s
  by_cases ho : o < 0 ∨ 6 < o
  · refine (alloc_arg w E.b o ho).mono ?_
    rintro e w' ⟨rfl, rfl⟩
    exact ⟨0, 1, U, T, 0, .inl ⟨ho, rfl, rfl, rfl, rfl, rfl⟩, rfl, s'⟩
  · obtain ⟨o', rfl⟩ : ∃ o' : Nat, o = (o' : Int) := ⟨o.toNat, by omega⟩
    by_cases hno : ∀ j r, mxb U j r → j < o'
    · refine (alloc_none B.ca.pool o' (by omega) hno).mono ?_
      rintro e w' ⟨rfl, rfl⟩
      exact ⟨0, 12, U, T, 0, .inr ⟨o', rfl, by omega, .inl ⟨hno, rfl, rfl, rfl, rfl, rfl⟩⟩, rfl, s'⟩
    · obtain ⟨k, q, hB, hTn⟩ := B.ca.pool.best o' hno
      refine (alloc_some B.ca.pool hm o' (by omega) k q hB).mono ?_
      rintro e w' ⟨rfl, A', a', fr, sub⟩
      refine ⟨_, 0, _, _, 1, .inr ⟨o', rfl, by omega, .inr ⟨k, q, hB, rfl, rfl, rfl, rfl, rfl⟩⟩, rfl, SS.turn B hx h1 h2 h3 ⟨A', ⟨B.ca.ch.keep (fr.block _ B.ca.ch.lt B.ca.offc) (fr.block _ B.ca.ch.mlt B.ca.offg), a', B.ca.per1, B.ca.per16, B.ca.most, fun x hx => ?_, fun h => B.ca.offc (sub _ B.ca.ch.lt h), fun h => B.ca.offg (sub _ B.ca.ch.mlt h)⟩, fr.mono (fun _ _ h => .inl h), sub⟩⟩
      have hne : x ≠ ((q * 2 ^ k : Nat) : Int) := fun e => by have := B.ca.tk x hx; rw [e, hTn] at this; cases this
      simp only [hne, if_false]; exact B.ca.tk x hx
theorem SS.rpalloc (s : SS E xb xs w C U T m C' U' T' m') (hm : m' < 10000) (o : Int) :
    Calls Tryd.prog 21 #[pp E.r, .int .i64 o] w fun e w' => ∃ v err U1 T1 d, PR o U' T' v err U1 T1 d ∧ e = .returned (.tuple #[.int .i64 v, .int .i64 err]) ∧ SS E xb xs w' C U T m C' U1 T1 (m' + d) := by
  have s' := s
  obtain ⟨A, vs, L, B, hx, h1, h2, h3⟩ := s
  by_cases ho : o < 0 ∨ 6 < o
  · refine (ralloc_arg w E.r o ho).mono ?_
    rintro e w' ⟨rfl, rfl⟩
    exact ⟨0, 1, U', T', 0, .inl ⟨ho, rfl, rfl, rfl, rfl, rfl⟩, rfl, s'⟩
  · obtain ⟨o', rfl⟩ : ∃ o' : Nat, o = (o' : Int) := ⟨o.toNat, by omega⟩
    refine (ralloc_ok B.rs.pool hm o' (by omega)).mono ?_
    rintro e w' (⟨hno, rfl, hb⟩ | ⟨k, q, hB, rfl, R, fr⟩)
    · exact ⟨0, 12, U', T', 0, .inr ⟨o', rfl, by omega, .inl ⟨hno, rfl, rfl, rfl, rfl, rfl⟩⟩, rfl, s'.stay hb⟩
    · have hTn := Best.free (E := E) B.rs.inv hB
      have hbk : blk U' o' (q * 2 ^ (k - o')) ∧ q * 2 ^ (k - o') * 2 ^ o' = q * 2 ^ k := by
        obtain ⟨⟨q', hq', hx⟩, hok, _⟩ := hB
        obtain rfl := Nat.eq_of_mul_eq_mul_right (Nat.two_pow_pos k) hq'
        exact blk_part hx.2.1 hok
      have inv' := B.rs.inv.take (by omega) hbk.1
      rw [hbk.2] at inv'
      have hrow : w'.ownsRow E.w0.heap.size 3 1 vs L.length (L.map encZ) := by
        refine ⟨B.rs.row.1, ?_⟩
        rcases B.rs.row.2 with h' | ⟨gb, cap, cur, rfl, hN, hg, rest⟩
        · exact .inl h'
        · exact .inr ⟨gb, cap, cur, rfl, hN, (fr.block gb (lt_of_heap hg) (B.rs.vsr gb rfl).1).trans hg, rest⟩
      refine ⟨_, 0, _, _, 1, .inr ⟨o', rfl, by omega, .inr ⟨k, q, hB, rfl, rfl, rfl, rfl, rfl⟩⟩, rfl, SS.rturn B hx h1 h2 h3 ⟨vs, L, ⟨(fr.block _ (B.rs.lt (.inl rfl)) B.rs.rcr).trans B.rs.head, B.rs.map.keep (fr.block _ (B.rs.lt (.inr (.inr (.inl rfl)))) B.rs.gtr), hrow, R, B.rs.keys, inv', fun x hx => ?_, B.rs.per1, B.rs.per16, B.rs.most, B.rs.rcr, B.rs.gtr, B.rs.vsr⟩, fr.mono (fun _ _ h => .inr (.inl h)), fun _ _ h => h⟩⟩
      have hne : x ≠ ((q * 2 ^ k : Nat) : Int) := fun e => by have := B.rs.tk x hx; rw [e, hTn] at this; cases this
      simp only [hne, if_false]; exact B.rs.tk x hx
end
end Go.Proofs.YthknommfnajeiaaDoor
