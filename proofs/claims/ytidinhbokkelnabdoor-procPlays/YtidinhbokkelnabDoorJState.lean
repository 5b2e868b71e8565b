/- ProcPlays: both tables of processes beside each other, and an item of the script; each call of either side. -/
import Derived.Test.YtidinhbokkelnabDoorJProg8
import Derived.Test.YtidinhbokkelnabDoorJProg4
import Derived.Test.YtidinhbokkelnabDoorJRef8
import Derived.Test.YtidinhbokkelnabDoorBare
namespace Go.Proofs.YtidinhbokkelnabDoor
open Go.RowKit Go.Maps Go.Sort

theorem bareJ (c : Int) (w : World) (hg : w.cell? ⟨0, 0, none⟩ = some errT) : Calls Tryd.prog 20 #[uev c, .int .i64 c] w fun e w' => e = .returned (.bool true) ∧ Below w.heap.size w w' := by
  by_cases h : c = 0
  · subst h; exact bare_nil w
  · rw [uev_ne h]; exact bare_eno c w hg
/-- How many there are. -/
def cnJ (P : Ps) : Nat := (pidsJ P).length
/-- Both tables, apart from each other and from all that was there at first. -/
structure JL (w0 : World) (t g r : Nat) (w : World) (P P' : Ps) : Prop where
  a : ∃ c, QJ w t g P c
  d : ∃ G c, RJ w r P' G c ∧ ¬ G.own t ∧ ¬ G.own g ∧ ∀ i, G.own i → w0.heap.size ≤ i
  bel : Below w0.heap.size w0 w
  ft : w0.heap.size ≤ t
  fg : w0.heap.size ≤ g
/-- An item besides. -/
structure JJ (w0 : World) (x : Nat) (xs : Array Value) (t g r : Nat) (w : World) (P P' : Ps) : Prop where
  a : ∃ c, QJ w t g P c
  d : ∃ G c, RJ w r P' G c ∧ ¬ G.own t ∧ ¬ G.own g ∧ ¬ G.own x ∧ ∀ i, G.own i → w0.heap.size ≤ i
  bel : Below w0.heap.size w0 w
  ft : w0.heap.size ≤ t
  fg : w0.heap.size ≤ g
  fx : w0.heap.size ≤ x ∧ x ≠ g ∧ x < w.heap.size
  item : w.heap[x]? = some (.cells xs 98)
section
variable {w0 w w' : World} {x t g r : Nat} {xs : Array Value} {P P' P1 : Ps} {n k m sig : Int}
theorem QJ.cn {c : Nat} (h : QJ w t g P c) : c = cnJ P := h.toQM.num.one h.ok.pidsN
theorem RJ.cn {c : Nat} {G : JG} (h : RJ w t P G c) : c = cnJ P := h.num.one h.ok.pidsN
theorem JL.box (h : JL w0 t g r w P P') (xs : Array Value) : JJ w0 w.heap.size xs t g r (w.alloc (.cells xs 98)) P P' := by
  have hA : Below w.heap.size w (w.alloc (.cells xs 98)) := (Below.refl _ w).alloc (Nat.le_refl _) _
  obtain ⟨c, ha⟩ := h.a
  obtain ⟨G, c2, hd, h1, h2, h3⟩ := h.d
  refine ⟨⟨c, ha.below hA⟩, ⟨G, c2, hd.below hA, h1, h2, fun z => ?_, h3⟩, h.bel.alloc h.bel.size _, h.ft, h.fg, ⟨h.bel.size, ?_, by simp⟩, ?_⟩
  · have := hd.lt _ z; omega
  · have := ha.map.lt; omega
  · show (w.heap.push _)[w.heap.size]? = _
    rw [Array.getElem?_push, if_pos rfl]
theorem JJ.jl (h : JJ w0 x xs t g r w P P') : JL w0 t g r w P P' := by
  obtain ⟨G, c2, hd, h1, h2, _, h3⟩ := h.d
  exact ⟨h.a, ⟨G, c2, hd, h1, h2, h3⟩, h.bel, h.ft, h.fg⟩
theorem JJ.cell (h : JJ w0 x xs t g r w P P') (j : Nat) : w.cell? ⟨x, j, none⟩ = xs[j]? := by simp [World.cell?, h.item]
theorem JJ.stay (h : JJ w0 x xs t g r w P P') (hb : Below w.heap.size w w') : JJ w0 x xs t g r w' P P' := by
  obtain ⟨c, ha⟩ := h.a
  obtain ⟨G, c2, hd, h1, h2, h3, h4⟩ := h.d
  exact ⟨⟨c, ha.below hb⟩, ⟨G, c2, hd.below hb, h1, h2, h3, h4⟩, h.bel.trans (hb.mono h.bel.size), h.ft, h.fg, ⟨h.fx.1, h.fx.2.1, Nat.lt_of_lt_of_le h.fx.2.2 hb.size⟩, (hb.block x h.fx.2.2).trans h.item⟩
theorem JL.stay (h : JL w0 t g r w P P') (hb : Below w.heap.size w w') : JL w0 t g r w' P P' := by
  obtain ⟨c, ha⟩ := h.a
  obtain ⟨G, c2, hd, h1, h2, h4⟩ := h.d
  exact ⟨⟨c, ha.below hb⟩, ⟨G, c2, hd.below hb, h1, h2, h4⟩, h.bel.trans (hb.mono h.bel.size), h.ft, h.fg⟩
theorem JJ.turnA (h : JJ w0 x xs t g r w P P') (ho : QJo w t g P1 w') : JJ w0 x xs t g r w' P1 P' := by
  obtain ⟨c', ha', hw⟩ := ho
  obtain ⟨G, c2, hd, h1, h2, h3, h4⟩ := h.d
  have hs := h.bel.size
  refine ⟨⟨c', ha'⟩, ⟨G, c2, hd.keep (fun i hi => hw.block i (hd.lt i hi) (fun z => h2 (z ▸ hi))) hw.size, h1, h2, h3, h4⟩, ⟨hw.os.trans h.bel.os, hw.tape.trans h.bel.tape, hw.output.trans h.bel.output, Nat.le_trans hs hw.size, fun i hi => (hw.block i (by omega) (by have := h.fg; omega)).trans (h.bel.block i hi)⟩, h.ft, h.fg, ⟨h.fx.1, h.fx.2.1, Nat.lt_of_lt_of_le h.fx.2.2 hw.size⟩, (hw.block x h.fx.2.2 h.fx.2.1).trans h.item⟩
theorem JJ.turnD (h : JJ w0 x xs t g r w P P') {G : JG} {c : Nat} (_hd : RJ w r P' G c) (h1 : ¬ G.own t) (h2 : ¬ G.own g) (h3 : ¬ G.own x) (h4 : ∀ i, G.own i → w0.heap.size ≤ i) (ho : RJo w r P1 G w') : JJ w0 x xs t g r w' P P1 := by
  obtain ⟨G', c', hr, st⟩ := ho
  obtain ⟨ca, ha⟩ := h.a
  have hs := h.bel.size
  have htl := ha.tlt
  have hgl := ha.map.lt
  have ap : ∀ i, ¬ G.own i → i < w.heap.size → ¬ G'.own i := fun i a b z => by
    rcases st.own i z with e | e
    · exact a e
    · omega
  refine ⟨⟨ca, ha.keep (st.wt.block t htl h1) (st.wt.block g hgl h2)⟩, ⟨G', c', hr, ap t h1 htl, ap g h2 hgl, ap x h3 h.fx.2.2, fun i z => ?_⟩, ⟨st.wt.os.trans h.bel.os, st.wt.tape.trans h.bel.tape, st.wt.output.trans h.bel.output, Nat.le_trans hs st.wt.size, fun i hi => (st.wt.block i (by omega) (fun z => by have := h4 i z; omega)).trans (h.bel.block i hi)⟩, h.ft, h.fg, ⟨h.fx.1, h.fx.2.1, Nat.lt_of_lt_of_le h.fx.2.2 st.wt.size⟩, (st.wt.block x h.fx.2.2 h3).trans h.item⟩
  rcases st.own i z with e | e
  · exact h4 i e
  · omega
/-- The program's calls. -/
theorem JJ.forkA (h : JJ w0 x xs t g r w P P') (n : Int) (hn : (Lit.int .i64 n).wf = true) : Calls Tryd.prog 52 #[wp t, .int .i64 n] w fun e w' => e = .returned (.tuple #[.int .i64 (forkK P n (cnJ P)), uev (forkE P n (cnJ P))]) ∧ JJ w0 x xs t g r w' (forkQ P n (cnJ P)) P' := by
  obtain ⟨c, ha⟩ := h.a
  have hc := ha.cn
  subst hc
  refine (ha.fork n hn).mono ?_
  rintro e w' ⟨rfl, ho⟩
  exact ⟨rfl, h.turnA ho⟩
theorem JJ.exitA (h : JJ w0 x xs t g r w P P') (n k : Int) (hn : (Lit.int .i64 n).wf = true) : Calls Tryd.prog 54 #[wp t, .int .i64 n, .int .i64 k] w fun e w' => e = .returned (uev (exitE P n)) ∧ JJ w0 x xs t g r w' (if exitE P n = 0 then exitP P n k else P) P' := by
  obtain ⟨c, ha⟩ := h.a
  refine (ha.exit n k hn).mono ?_
  rintro e w' ⟨rfl, ho⟩
  exact ⟨rfl, h.turnA ho⟩
theorem JJ.waitA (h : JJ w0 x xs t g r w P P') (n : Int) (hn : (Lit.int .i64 n).wf = true) : Calls Tryd.prog 56 #[wp t, .int .i64 n] w fun e w' => e = .returned (.tuple #[.int .i64 (waitO P n).1, .int .i64 (waitO P n).2.1, uev (waitO P n).2.2.1]) ∧ JJ w0 x xs t g r w' (waitO P n).2.2.2 P' := by
  obtain ⟨c, ha⟩ := h.a
  refine (ha.wait n hn).mono ?_
  rintro e w' ⟨rfl, ho⟩
  exact ⟨rfl, h.turnA ho⟩
theorem JJ.killA (h : JJ w0 x xs t g r w P P') (n k : Int) (hn : (Lit.int .i64 n).wf = true) : Calls Tryd.prog 58 #[wp t, .int .i64 n, .int .i64 k] w fun e w' => e = .returned (uev (killE P n k)) ∧ JJ w0 x xs t g r w' (if killE P n k = 0 then killP P n k else P) P' := by
  obtain ⟨c, ha⟩ := h.a
  refine (ha.kill n k hn).mono ?_
  rintro e w' ⟨rfl, ho⟩
  exact ⟨rfl, h.turnA ho⟩
theorem JJ.ignoreA (h : JJ w0 x xs t g r w P P') (n k : Int) (on : Bool) (hn : (Lit.int .i64 n).wf = true) : Calls Tryd.prog 60 #[wp t, .int .i64 n, .int .i64 k, .bool on] w fun e w' => e = .returned (uev (ignoreE P n k)) ∧ JJ w0 x xs t g r w' (if ignoreE P n k = 0 then ignoreP P n k on else P) P' := by
  obtain ⟨c, ha⟩ := h.a
  refine (ha.ignore n k on hn).mono ?_
  rintro e w' ⟨rfl, ho⟩
  exact ⟨rfl, h.turnA ho⟩
theorem JJ.takeA (h : JJ w0 x xs t g r w P P') (hT : Tab64 w0) (n : Int) (hn : (Lit.int .i64 n).wf = true) : Calls Tryd.prog 62 #[wp t, .int .i64 n] w fun e w' => e = .returned (.int .i64 (takeS P n)) ∧ JJ w0 x xs t g r w' (takeP P n) P' := by
  obtain ⟨c, ha⟩ := h.a
  refine (ha.take (hT.keep (h.bel.block _ hT.lt)) n hn).mono ?_
  rintro e w' ⟨rfl, ho⟩
  exact ⟨rfl, h.turnA ho⟩
/-- The document's. -/
theorem JJ.forkD (h : JJ w0 x xs t g r w P P') (n : Int) (hn : (Lit.int .i64 n).wf = true) : Calls Tryd.prog 53 #[wp r, .int .i64 n] w fun e w' => e = .returned (.tuple #[.int .i64 (forkK P' n (cnJ P')), .int .i64 (forkE P' n (cnJ P'))]) ∧ JJ w0 x xs t g r w' P (forkQ P' n (cnJ P')) := by
  obtain ⟨G, c, hd, h1, h2, h3, h4⟩ := h.d
  have hc := hd.cn
  subst hc
  refine (hd.fork n hn).mono ?_
  rintro e w' ⟨rfl, ho⟩
  exact ⟨rfl, h.turnD hd h1 h2 h3 h4 ho⟩
theorem JJ.exitD (h : JJ w0 x xs t g r w P P') (n k : Int) (hn : (Lit.int .i64 n).wf = true) : Calls Tryd.prog 55 #[wp r, .int .i64 n, .int .i64 k] w fun e w' => e = .returned (.int .i64 (exitE P' n)) ∧ JJ w0 x xs t g r w' P (if exitE P' n = 0 then exitP P' n k else P') := by
  obtain ⟨G, c, hd, h1, h2, h3, h4⟩ := h.d
  refine (hd.exit n k hn).mono ?_
  rintro e w' ⟨rfl, ho⟩
  exact ⟨rfl, h.turnD hd h1 h2 h3 h4 ho⟩
theorem JJ.waitD (h : JJ w0 x xs t g r w P P') (n : Int) (hn : (Lit.int .i64 n).wf = true) : Calls Tryd.prog 57 #[wp r, .int .i64 n] w fun e w' => e = .returned (.tuple #[.int .i64 (waitO P' n).1, .int .i64 (waitO P' n).2.1, .int .i64 (waitO P' n).2.2.1]) ∧ JJ w0 x xs t g r w' P (waitO P' n).2.2.2 := by
  obtain ⟨G, c, hd, h1, h2, h3, h4⟩ := h.d
  refine (hd.wait n hn).mono ?_
  rintro e w' ⟨rfl, ho⟩
  exact ⟨rfl, h.turnD hd h1 h2 h3 h4 ho⟩
theorem JJ.killD (h : JJ w0 x xs t g r w P P') (n k : Int) (hn : (Lit.int .i64 n).wf = true) : Calls Tryd.prog 59 #[wp r, .int .i64 n, .int .i64 k] w fun e w' => e = .returned (.int .i64 (killE P' n k)) ∧ JJ w0 x xs t g r w' P (if killE P' n k = 0 then killP P' n k else P') := by
  obtain ⟨G, c, hd, h1, h2, h3, h4⟩ := h.d
  refine (hd.kill n k hn).mono ?_
  rintro e w' ⟨rfl, ho⟩
  exact ⟨rfl, h.turnD hd h1 h2 h3 h4 ho⟩
theorem JJ.ignoreD (h : JJ w0 x xs t g r w P P') (n k : Int) (on : Bool) (hn : (Lit.int .i64 n).wf = true) : Calls Tryd.prog 61 #[wp r, .int .i64 n, .int .i64 k, .bool on] w fun e w' => e = .returned (.int .i64 (ignoreE P' n k)) ∧ JJ w0 x xs t g r w' P (if ignoreE P' n k = 0 then ignoreP P' n k on else P') := by
  obtain ⟨G, c, hd, h1, h2, h3, h4⟩ := h.d
  refine (hd.ignore n k on hn).mono ?_
  rintro e w' ⟨rfl, ho⟩
  exact ⟨rfl, h.turnD hd h1 h2 h3 h4 ho⟩
theorem JJ.takeD (h : JJ w0 x xs t g r w P P') (n : Int) (hn : (Lit.int .i64 n).wf = true) : Calls Tryd.prog 63 #[wp r, .int .i64 n] w fun e w' => e = .returned (.int .i64 (takeS P' n)) ∧ JJ w0 x xs t g r w' P (takeP P' n) := by
  obtain ⟨G, c, hd, h1, h2, h3, h4⟩ := h.d
  refine (hd.take n hn).mono ?_
  rintro e w' ⟨rfl, ho⟩
  exact ⟨rfl, h.turnD hd h1 h2 h3 h4 ho⟩
/-- What is asked of both. -/
theorem JJ.pidsD (h : JJ w0 x xs t g r w P P') : Calls Tryd.prog 64 #[wp r] w fun e w' => ∃ b cap, e = .returned (.slice (some ⟨b, 0, none⟩) (pidsJ P').length cap) ∧ (pidsJ P').length ≤ cap ∧ b < w'.heap.size ∧ (∀ j (hj : j < (pidsJ P').length), w'.cell? ⟨b, j, none⟩ = some (.int .i64 (pidsJ P')[j])) ∧ Below w.heap.size w w' := by
  obtain ⟨G, c, hd, _⟩ := h.d
  refine hd.pids.mono ?_
  rintro e w' ⟨b, cap, rfl, h1, h2, h3, h4, h5⟩
  exact ⟨b, cap, rfl, h1, h3, h4, h5⟩
theorem JJ.pidsA (h : JJ w0 x xs t g r w P P') : Calls Tryd.prog 66 #[wp t] w fun e w' => ∃ b cap, e = .returned (.slice (some ⟨b, 0, none⟩) (pidsJ P).length cap) ∧ (pidsJ P).length ≤ cap ∧ b < w'.heap.size ∧ (∀ j (hj : j < (pidsJ P).length), w'.cell? ⟨b, j, none⟩ = some (.int .i64 (pidsJ P)[j])) ∧ Below w.heap.size w w' := by
  obtain ⟨c, ha⟩ := h.a
  obtain ⟨p1, e1, _⟩ := ha.ok.one
  refine (ha.toQM.pids (n := 1) (by rw [e1]; rfl)).mono ?_
  rintro e w' ⟨b, cap, rfl, h1, h2, h3, h4, h5⟩
  refine ⟨b, cap, rfl, h1, h3, fun j hj => ?_, h5⟩
  have := (h4 j (by simpa using hj)).1
  rw [Nat.zero_add, getElem!_pos (pidsJ P).toArray j (by simpa using hj)] at this
  simpa using this
theorem JJ.runsA (h : JJ w0 x xs t g r w P P') (n : Int) (hn : (Lit.int .i64 n).wf = true) : Calls Tryd.prog 67 #[wp t, .int .i64 n] w fun e w' => e = .returned (uev (if runsJ P n = true then 0 else 7)) ∧ Below w.heap.size w w' := by
  obtain ⟨c, ha⟩ := h.a
  exact ha.toQM.runs n hn
theorem JJ.runsD (h : JJ w0 x xs t g r w P P') (n : Int) (hn : (Lit.int .i64 n).wf = true) : Calls Tryd.prog 68 #[wp r, .int .i64 n] w fun e w' => e = .returned (.bool (runsJ P' n)) ∧ w' = w := by
  obtain ⟨G, c, hd, _⟩ := h.d
  exact hd.runs n hn
theorem JL.stateA (h : JL w0 t g r w P P') (n : Int) (hn : (Lit.int .i64 n).wf = true) : Calls Tryd.prog 69 #[wp t, .int .i64 n] w fun e w' => e = .returned (.int .i64 (stJ P n)) ∧ Below w.heap.size w w' := by
  obtain ⟨c, ha⟩ := h.a
  exact ha.toQM.state n hn
theorem JL.parentA (h : JL w0 t g r w P P') (n : Int) (hn : (Lit.int .i64 n).wf = true) : Calls Tryd.prog 70 #[wp t, .int .i64 n] w fun e w' => e = .returned (.int .i64 (parJ P n)) ∧ Below w.heap.size w w' := by
  obtain ⟨c, ha⟩ := h.a
  exact ha.toQM.parent n hn
theorem JL.keyA (h : JL w0 t g r w P P') (hn : n ∈ pidsJ P) : 1 ≤ n ∧ n ≤ 24 := by
  obtain ⟨c, ha⟩ := h.a
  obtain ⟨p, hp⟩ := Option.isSome_iff_exists.1 (ha.ok.pids.1 hn)
  exact ha.key n p hp
/-- One of the document's, by its number. -/
theorem JL.lookD (h : JL w0 t g r w P P') (hn : n ∈ pidsJ P') : ∃ gR c a b, w.cell? ⟨r, 0, none⟩ = some (.map (some gR)) ∧ ∀ V, Below w.heap.size w V → (Instr.lookup 115 (.map (some gR)) (.int .i64 n) false).run Tryd.prog V = .ok (.agg #[.int .i64 (parJ P' n), .int .i64 (stJ P' n), .int .i64 c, .map (some a), .map (some b)]) V := by
  obtain ⟨G, c, hd, _⟩ := h.d
  obtain ⟨p, hp⟩ := Option.isSome_iff_exists.1 (hd.ok.pids.1 hn)
  have hk := hd.ok.key n p hp
  refine ⟨G.g, p.code, G.W n, G.I n, hd.c0, fun V hV => ?_⟩
  rw [(hd.below hV).lookS hp (wf64 (by omega)), parJ_some hp, stJ_some hp]
theorem JL.first (w : World) : Calls Tryd.prog 50 #[] w fun e w1 => ∃ t, e = .returned (wp t) ∧ Calls Tryd.prog 51 #[] w1 fun e w2 => ∃ g r, e = .returned (wp r) ∧ JL w t g r w2 firstJ firstJ := by
  refine (newT_ok w).mono ?_
  rintro e w1 ⟨t, g, rfl, h1, b1, l1, l2⟩
  refine ⟨t, rfl, (newProcs_ok w1).mono ?_⟩
  rintro e w2 ⟨r, G, rfl, h2, b2, l3⟩
  have := h1.tlt
  have := h1.map.lt
  have := b1.size
  exact ⟨g, r, rfl, ⟨1, h1.below b2⟩, ⟨G, 1, h2, fun z => by have := l3 _ z; omega, fun z => by have := l3 _ z; omega, fun i z => by have := l3 i z; omega⟩, b1.trans (b2.mono b1.size), l1, l2⟩
end
set_option maxRecDepth 100000 in
set_option maxHeartbeats 1000000 in
theorem sameInts_ok {w : World} {L : List Int} {a b cap cap' : Nat} (hl : L.length ≤ 100) (ha : ∀ j (hj : j < L.length), w.cell? ⟨a, j, none⟩ = some (.int .i64 L[j])) (hb : ∀ j (hj : j < L.length), w.cell? ⟨b, j, none⟩ = some (.int .i64 L[j])) :
    Calls Tryd.prog 65 #[.slice (some ⟨a, 0, none⟩) L.length cap, .slice (some ⟨b, 0, none⟩) L.length cap'] w fun e w' => e = .returned (.bool true) ∧ ∃ q, w' = w.drewN q := by
  go_enter Tryd.func65, Tryd.ntmps65
  go_wp2_with fail
  go_loopg [5] L.length (fun mm s5 wr => ∃ i q : Nat, i + mm = L.length ∧ s5 = .int .i64 (i : Int) ∧ wr = w.drewN q)
  case atStart => exact ⟨0, 0, by omega, rfl, rfl⟩
  case round =>
    obtain ⟨i, q, hi, rfl, rfl⟩ := hrel
    by_cases hlt : (i : Int) < (L.length : Int)
    · have c1 : w.cell? ⟨a, i, none⟩ = some (.int .i64 L[i]) := ha i (by omega)
      have c2 : w.cell? ⟨b, i, none⟩ = some (.int .i64 L[i]) := hb i (by omega)
      generalize L[i] = X at *
      clear ha hb
      go_upto_region 6 with fail
      go_quiet (fail)
      go_wp2_with fail
      go_roundg (gk - 1)
      case measure => omega
      case rel => exact ⟨i + 1, _, by omega, by go_num, rfl⟩
    · go_wp2_with fail
      go_ret
      exact ⟨rfl, q, rfl⟩
end Go.Proofs.YtidinhbokkelnabDoor
