/- Package desc, with several tables, call for call. -/
import Derived.Test.YtjkneekfijibiabGreatDoorQNew
import Derived.Test.YtjkneekfijibiabGreatDoorQFile
import Derived.Test.YtjkneekfijibiabGreatDoorQWrite
import Derived.Test.YtjkneekfijibiabGreatDoorUAddT
namespace Go.Proofs.YtjkneekfijibiabGreatDoor
open Go.RowKit Go.Maps

theorem Stp.cellKept {w w' : World} {A A' : Nat → Prop} (st : Stp w w' A A') {b o : Nat} {v : Value} (h : w.cell? ⟨b, o, none⟩ = some v) (hA : ¬ A b) : w'.cell? ⟨b, o, none⟩ = some v ∧ ¬ A' b := by
  have hlt : b < w.heap.size := World.block_lt_of_cell? w _ h
  obtain ⟨h1, h2⟩ := st.apart (P := fun i => i = b) (fun i e => by subst e; exact ⟨hA, hlt⟩) b rfl
  exact ⟨by rw [World.cell?_of_block (w := w) (a := ⟨b, o, none⟩) (st.keep (P := fun i => i = b) (fun i e => by subst e; exact ⟨hA, hlt⟩) b rfl)]; exact h, h1⟩
/-- The files at f, their tree at r, the tables at bs; A: all that is theirs. -/
structure KD (w : World) (m : Int) (f r : Nat) (D : DS) (bs : List Nat) (Ts : List Ns) (k : Nat) (A : Nat → Prop) : Prop where
  st : ∃ g n, QF w f D g n ∧ g.r = r ∧ (∀ j (h : j < bs.length) (h' : j < Ts.length), ∃ M, QTb w bs[j] g M Ts[j]) ∧ ∀ i, (g.kap i).isSome = true → A i
  len : bs.length = Ts.length
  nd : bs.Nodup
  bsA : ∀ b ∈ bs, A b
  inv : Inv D Ts k
  lt : ∀ i, A i → i < w.heap.size
  ml : w.cell? ⟨2, 0, none⟩ = some (.int .i64 m)
  mn : ¬ A 2
  er : w.cell? ⟨0, 0, none⟩ = some errT
  en : ¬ A 0
section
variable {w w' w2 w0 w1 : World} {f r b n k k' j : Nat} {D D' : DS} {g g' : QG} {bs : List Nat} {Ts : List Ns} {M N N' : Ns} {d m : Int} {A : Nat → Prop}
theorem QF.numE (h : QF w f D g n) : IsN D.E n := by
  obtain ⟨Dt, _, _, h1, h2, h3⟩ := h.map.data
  have h3' : ∀ x, x ∈ Go.intKeys Dt ↔ (g.K x).isSome = true := fun x => by rw [h3 x, Option.isSome_map]
  refine ⟨(Go.intKeys Dt).map (fun k => (g.K k).getD 0), ?_, by rw [List.length_map, h2], fun x => ?_⟩
  · refine List.pairwise_map.2 (h1.imp_of_mem (fun {a b} ha hb hne e => hne ?_))
    obtain ⟨x, hx⟩ := Option.isSome_iff_exists.1 ((h3' a).1 ha)
    obtain ⟨y, hy⟩ := Option.isSome_iff_exists.1 ((h3' b).1 hb)
    rw [hx, hy] at e
    have e' : x = y := e
    rw [← e'] at hy
    exact h.inj a b x hx hy
  · constructor
    · intro hx
      obtain ⟨a, ha, rfl⟩ := List.mem_map.1 hx
      obtain ⟨y, hy⟩ := Option.isSome_iff_exists.1 ((h3' a).1 ha)
      rw [hy]
      exact (h.key a y hy).1
    · intro hx
      obtain ⟨a, ha⟩ := h.has x hx
      exact List.mem_map.2 ⟨a, (h3' a).2 (by rw [ha]; rfl), by rw [ha]; rfl⟩
theorem QF.few (h : QF w f D g n) (hg : Given D) : n < 1000 := by
  have := h.numE.few hg.n0 hg.e
  have := hg.n1
  omega
/-- A call that turns one table. -/
theorem KD.call (h : KD w m f r D bs Ts k A) (hj : j < bs.length) {fn : FuncId} {args : Array Value} {Q : Ending → DS → Ns → Prop}
    (hc : ∀ g n M (h' : j < Ts.length), QF w f D g n → QTb w bs[j] g M Ts[j] → g.r = r → Calls Tryz.prog fn args w fun y w' => ∃ D' N', Q y D' N' ∧ QGo w w' f D' g bs[j] N') (hI : ∀ y D' N', Q y D' N' → Inv D' (Ts.set j N') k') :
    Calls Tryz.prog fn args w fun y w' => ∃ D' N' A', Q y D' N' ∧ KD w' m f r D' bs (Ts.set j N') k' A' ∧ Stp w w' A A' := by
  obtain ⟨g, n, h1, hr, ht, hA⟩ := h.st
  have hj' : j < Ts.length := by rw [← h.len]; exact hj
  obtain ⟨M, tj⟩ := ht j hj hj'
  refine (hc g n M hj' h1 tj hr).mono ?_
  rintro y w' ⟨D', N', hQ, ⟨⟨g', n', M', a1, a2, a3⟩, wt⟩⟩
  have I' := hI y D' N' hQ
  have hst : Stp w w' A (fun i => A i ∨ (w.heap.size ≤ i ∧ i < w'.heap.size)) := ⟨wt.mono (fun i hi => by
    rcases hi with hi | rfl
    · exact hA i hi
    · exact h.bsA _ (List.getElem_mem hj)), fun i hi => by
    rcases hi with hi | hi
    · exact .inl hi
    · exact .inr hi.1⟩
  refine ⟨D', N', _, hQ, ⟨⟨g', n', a1, a3.r.trans hr, fun x hx hx' => ?_, fun i hi => ?_⟩, by rw [List.length_set]; exact h.len, h.nd, fun b hb => .inl (h.bsA b hb), I', fun i hi => ?_, (hst.cellKept h.ml h.mn).1, (hst.cellKept h.ml h.mn).2, (hst.cellKept h.er h.en).1, (hst.cellKept h.er h.en).2⟩, hst⟩
  · by_cases e1 : x = j
    · subst e1
      rw [List.getElem_set_self]
      exact ⟨M', a2⟩
    · rw [List.length_set] at hx'
      obtain ⟨Mx, tx⟩ := ht x hx hx'
      rw [List.getElem_set_ne (Ne.symm e1)]
      have hxs : x < (Ts.set j N').length := by rw [List.length_set]; exact hx'
      have hl := I'.live hxs
      rw [List.getElem_set_ne (Ne.symm e1)] at hl
      refine ⟨Mx, tx.other a3 (wt.block _ tx.tab.lt ?_) hl⟩
      rintro (z | z)
      · rw [tx.off] at z; cases z
      · exact e1 ((List.getElem_inj h.nd).1 z)
  · by_cases e1 : i < w.heap.size
    · rw [a3.kap i e1] at hi
      exact .inl (hA i hi)
    · exact .inr ⟨by omega, a1.lt i hi⟩
  · rcases hi with hi | hi
    · exact Nat.lt_of_lt_of_le (h.lt i hi) wt.size
    · exact hi.2
/-- A call that turns nothing. -/
theorem KD.below (h : KD w m f r D bs Ts k A) (hb : Below w.heap.size w w') : KD w' m f r D bs Ts k A := by
  obtain ⟨g, n, h1, hr, ht, hA⟩ := h.st
  have hst : Stp w w' A A := .below hb
  exact ⟨⟨g, n, h1.below hb, hr, fun j hj hj' => by
    obtain ⟨M, t⟩ := ht j hj hj'
    exact ⟨M, t.below hb⟩, hA⟩, h.len, h.nd, h.bsA, h.inv, fun i hi => Nat.lt_of_lt_of_le (h.lt i hi) hb.size, (hst.cellKept h.ml h.mn).1, h.mn, (hst.cellKept h.er h.en).1, h.en⟩
theorem KD.keep (h : KD w m f r D bs Ts k A) (hk : ∀ i, A i → w'.heap[i]? = w.heap[i]?) (hs : w.heap.size ≤ w'.heap.size) (hm : w'.cell? ⟨2, 0, none⟩ = some (.int .i64 m)) (he : w'.cell? ⟨0, 0, none⟩ = some errT) : KD w' m f r D bs Ts k A := by
  obtain ⟨g, n, h1, hr, ht, hA⟩ := h.st
  exact ⟨⟨g, n, h1.keep (fun i hi => hk i (hA i hi)) hs, hr, fun j hj hj' => by
    obtain ⟨M, t⟩ := ht j hj hj'
    exact ⟨M, t.keep (hk _ (h.bsA _ (List.getElem_mem hj)))⟩, hA⟩, h.len, h.nd, h.bsA, h.inv, fun i hi => Nat.lt_of_lt_of_le (h.lt i hi) hs, hm, h.mn, he, h.en⟩
theorem KD.jT (h : KD w m f r D bs Ts k A) (hj : j < bs.length) : j < Ts.length := by rw [← h.len]; exact hj
theorem KD.numE (h : KD w m f r D bs Ts k A) : ∃ n, IsN D.E n := by
  obtain ⟨g, n, h1, _⟩ := h.st
  exact ⟨n, h1.numE⟩
theorem KD.numT (h : KD w m f r D bs Ts k A) : ∃ s, IsNum D.T s := by
  obtain ⟨g, n, h1, _⟩ := h.st
  obtain ⟨O, p, _⟩ := h1.tree
  exact p.num
theorem KD.openIs (h : KD w m f r D bs Ts k A) {n : Nat} (hn : IsN D.E n) : Calls Tryz.prog 36 #[wp f] w fun y w' => y = .returned (.int .i64 (n : Int)) ∧ w' = w := by
  obtain ⟨g, n', h1, _⟩ := h.st
  rw [hn.one h1.numE]
  exact h1.open_ok
theorem KD.used (h : KD w m f r D bs Ts k A) (hj : j < bs.length) : Calls Tryz.prog 32 #[wp bs[j]] w fun y w' => y = .returned (.int .i64 (usedN (Ts[j]'(h.jT hj)) : Int)) ∧ Below w.heap.size w w' := by
  obtain ⟨g, n', h1, _, ht, _⟩ := h.st
  obtain ⟨M, t⟩ := ht j hj (h.jT hj)
  exact t.used_ok h1
theorem KD.has (h : KD w m f r D bs Ts k A) (hj : j < bs.length) (x : Int) : Calls Tryz.prog 34 #[wp f, wp bs[j], .int .i64 x] w fun y w' => y = .returned (.bool (hasN (Ts[j]'(h.jT hj)) x)) ∧ Below w.heap.size w w' := by
  obtain ⟨g, n', h1, _, ht, _⟩ := h.st
  obtain ⟨M, t⟩ := ht j hj (h.jT hj)
  exact t.has_ok h1 x
theorem KD.nodes (h : KD w m f r D bs Ts k A) {s : Nat} (hs : IsNum D.T s) : Calls Tryz.prog 13 #[wp r] w fun y w' => y = .returned (.int .i64 (s : Int)) ∧ w' = w := by
  obtain ⟨g, n', h1, hr, _⟩ := h.st
  obtain ⟨O, p, _⟩ := h1.tree
  rw [← hr]
  exact p.nodes_ok hs
/-- The calls. -/
theorem KD.file (h : KD w m f r D bs Ts k A) (hk : k ≤ 890) (hn : D.nx < 899) (hj : j < bs.length) {n s : Nat} (hN : IsN D.E n) (hs : IsNum D.T s) (p : List UInt8) (hp : p.length < 100000) (pr : Int) (mk : Bool) :
    Calls Tryz.prog 42 #[wp f, wp bs[j], tx p, .int .i64 pr, .bool mk] w fun y w' => ∃ D' N' A', (∃ x c, y = .returned (.tuple #[.int .i64 x, uev c]) ∧ FileO D (Ts[j]'(h.jT hj)) n s p pr mk x c D' N') ∧ KD w' m f r D' bs (Ts.set j N') (k + 2) A' ∧ Stp w w' A A' := by
  refine h.call hj (Q := fun y D' N' => ∃ x c, y = .returned (.tuple #[.int .i64 x, uev c]) ∧ FileO D (Ts[j]'(h.jT hj)) n s p pr mk x c D' N') (fun g n9 M hj' q t _ => ?_) (fun y D' N' hq => ?_)
  · obtain rfl := hN.one q.numE
    refine (q.file_ok t ⟨h.inv.core.lv, hs, h.inv.core.sm.more (by omega), h.inv.core.giv, h.inv.live hj', q.few h.inv.core.giv⟩ p hp pr mk h.ml h.er).mono ?_
    rintro y w' ⟨x, c, D', N', rfl, hF, hG⟩
    exact ⟨D', N', ⟨x, c, rfl, hF⟩, hG⟩
  · obtain ⟨x, c, _, hF⟩ := hq
    exact h.inv.file hk hn (h.jT hj) hs hF
theorem KD.dup (h : KD w m f r D bs Ts k A) (hj : j < bs.length) (x : Int) :
    Calls Tryz.prog 43 #[wp f, wp bs[j], .int .i64 x] w fun y w' => ∃ D' N' A', (y = .returned (.tuple #[.int .i64 (dupK (Ts[j]'(h.jT hj)) x), uev (dupE (Ts[j]'(h.jT hj)) x)]) ∧ D' = dupD D (Ts[j]'(h.jT hj)) x ∧ N' = dupN (Ts[j]'(h.jT hj)) x) ∧ KD w' m f r D' bs (Ts.set j N') k A' ∧ Stp w w' A A' := by
  refine h.call hj (Q := fun y D' N' => y = .returned (.tuple #[.int .i64 (dupK (Ts[j]'(h.jT hj)) x), uev (dupE (Ts[j]'(h.jT hj)) x)]) ∧ D' = dupD D (Ts[j]'(h.jT hj)) x ∧ N' = dupN (Ts[j]'(h.jT hj)) x) (fun g n9 M hj' q t _ => ?_) (fun y D' N' hq => ?_)
  · refine (q.dup_ok t x (h.inv.cnted hj')).mono ?_
    rintro y w' ⟨rfl, hG⟩
    exact ⟨_, _, ⟨rfl, rfl, rfl⟩, hG⟩
  · obtain ⟨_, rfl, rfl⟩ := hq
    exact h.inv.dupO (h.jT hj) x
theorem KD.seek (h : KD w m f r D bs Ts k A) (hj : j < bs.length) (x a : Int) :
    Calls Tryz.prog 46 #[wp f, wp bs[j], .int .i64 x, .int .i64 a] w fun y w' => ∃ D' N' A', (y = .returned (uev (seekE D (Ts[j]'(h.jT hj)) x a)) ∧ D' = seekD D (Ts[j]'(h.jT hj)) x a ∧ N' = Ts[j]'(h.jT hj)) ∧ KD w' m f r D' bs (Ts.set j N') k A' ∧ Stp w w' A A' := by
  refine h.call hj (Q := fun y D' N' => y = .returned (uev (seekE D (Ts[j]'(h.jT hj)) x a)) ∧ D' = seekD D (Ts[j]'(h.jT hj)) x a ∧ N' = Ts[j]'(h.jT hj)) (fun g n9 M hj' q t _ => ?_) (fun y D' N' hq => ?_)
  · refine (q.seek_ok t x a (h.inv.live hj')).mono ?_
    rintro y w' ⟨rfl, hG⟩
    exact ⟨_, _, ⟨rfl, rfl, rfl⟩, hG⟩
  · obtain ⟨_, rfl, rfl⟩ := hq
    exact (h.inv.seek (h.jT hj) x a).setSelf (h.jT hj)
theorem KD.mark (h : KD w m f r D bs Ts k A) (hj : j < bs.length) (x : Int) (c : Bool) :
    Calls Tryz.prog 85 #[wp f, wp bs[j], .int .i64 x, .bool c] w fun y w' => ∃ D' N' A', (y = .returned (uev (if hasN (Ts[j]'(h.jT hj)) x = true then 0 else 7)) ∧ D' = D ∧ N' = markN (Ts[j]'(h.jT hj)) x c) ∧ KD w' m f r D' bs (Ts.set j N') k A' ∧ Stp w w' A A' := by
  refine h.call hj (Q := fun y D' N' => y = .returned (uev (if hasN (Ts[j]'(h.jT hj)) x = true then 0 else 7)) ∧ D' = D ∧ N' = markN (Ts[j]'(h.jT hj)) x c) (fun g n9 M hj' q t _ => ?_) (fun y D' N' hq => ?_)
  · refine (q.mark_ok t x c).mono ?_
    rintro y w' ⟨rfl, hG⟩
    exact ⟨_, _, ⟨rfl, rfl, rfl⟩, hG⟩
  · obtain ⟨_, rfl, rfl⟩ := hq
    exact h.inv.mark (h.jT hj) x c
end
end Go.Proofs.YtjkneekfijibiabGreatDoor

namespace Go.Proofs.YtjkneekfijibiabGreatDoor
open Go.RowKit Go.Maps

section
variable {w w' w2 w0 w1 : World} {f r b n k k' j : Nat} {D D' : DS} {g g' : QG} {bs : List Nat} {Ts : List Ns} {M N N' : Ns} {d m : Int} {A : Nat → Prop}
theorem KD.close (h : KD w m f r D bs Ts k A) (hk : k ≤ 900) (hj : j < bs.length) (x : Int) :
    Calls Tryz.prog 47 #[wp f, wp bs[j], .int .i64 x] w fun y w' => ∃ D' N' A', (y = .returned (uev (if hasN (Ts[j]'(h.jT hj)) x = true then 0 else 7)) ∧ D' = closeD D (Ts[j]'(h.jT hj)) x ∧ N' = closeN (Ts[j]'(h.jT hj)) x) ∧ KD w' m f r D' bs (Ts.set j N') k A' ∧ Stp w w' A A' := by
  have hI := h.inv.closeO hk (h.jT hj) x
  refine h.call hj (Q := fun y D' N' => y = .returned (uev (if hasN (Ts[j]'(h.jT hj)) x = true then 0 else 7)) ∧ D' = closeD D (Ts[j]'(h.jT hj)) x ∧ N' = closeN (Ts[j]'(h.jT hj)) x) (fun g n9 M hj' q t _ => ?_) (fun y D' N' hq => ?_)
  · by_cases hx : hasN (Ts[j]'hj') x = true
    · obtain ⟨i, rfl, hi, hiL, h0⟩ := hasN_at hx t.len
      obtain ⟨e, cl⟩ := h.inv.cl hj' hiL h0
      have e1 : closeD D (Ts[j]'hj') i = closeK D (Ts[j]'hj')[i].1 := by unfold closeD; rw [if_pos hx, getD_in hiL]
      have e2 : closeN (Ts[j]'hj') i = (Ts[j]'hj').set i (0, false) := by unfold closeN; rw [if_pos hx, show (i : Int).toNat = i by omega]
      have hjs : j < (Ts.set j (closeN (Ts[j]'hj') i)).length := by rw [List.length_set]; exact hj'
      have hl := hI.live hjs
      rw [getT_set hj' _ hjs, e1, e2] at hl
      refine (q.close_ok t hi hiL h0 cl hl).mono ?_
      rintro y w' ⟨rfl, hG⟩
      exact ⟨_, _, ⟨by rw [if_pos hx]; rfl, rfl, rfl⟩, by rw [e1, e2]; exact hG⟩
    · have hx' : hasN (Ts[j]'hj') x = false := by simpa using hx
      refine (q.close_no t x hx').mono ?_
      rintro y w' ⟨rfl, hG⟩
      exact ⟨_, _, ⟨by rw [if_neg hx]; rfl, (if_neg hx).symm, (if_neg hx).symm⟩, hG⟩
  · obtain ⟨_, rfl, rfl⟩ := hq
    exact hI
theorem KD.dup2 (h : KD w m f r D bs Ts k A) (hk : k ≤ 900) (hj : j < bs.length) (x y9 : Int) :
    Calls Tryz.prog 83 #[wp f, wp bs[j], .int .i64 x, .int .i64 y9] w fun y w' => ∃ D' N' A', (y = .returned (uev (dup2E (Ts[j]'(h.jT hj)) x y9)) ∧ D' = dup2D D (Ts[j]'(h.jT hj)) x y9 ∧ N' = dup2N (Ts[j]'(h.jT hj)) x y9) ∧ KD w' m f r D' bs (Ts.set j N') k A' ∧ Stp w w' A A' := by
  have hI := h.inv.dup2O hk (h.jT hj) x y9
  refine h.call hj (Q := fun y D' N' => y = .returned (uev (dup2E (Ts[j]'(h.jT hj)) x y9)) ∧ D' = dup2D D (Ts[j]'(h.jT hj)) x y9 ∧ N' = dup2N (Ts[j]'(h.jT hj)) x y9) (fun g n9 M hj' q t _ => ?_) (fun y D' N' hq => ?_)
  · by_cases hx : hasN (Ts[j]'hj') x = true
    · by_cases hy : 0 ≤ y9 ∧ y9 ≤ 7
      · have e0 : dup2E (Ts[j]'hj') x y9 = 0 := by unfold dup2E; rw [if_pos hx, if_pos hy]
        by_cases hne : x = y9
        · subst hne
          have e1 : dup2D D (Ts[j]'hj') x x = D := if_neg (fun z => z.2 rfl)
          have e2 : dup2N (Ts[j]'hj') x x = Ts[j]'hj' := if_neg (fun z => z.2 rfl)
          refine (q.dup2_same t x hx).mono ?_
          rintro y w' ⟨rfl, hG⟩
          exact ⟨_, _, ⟨by rw [e0]; rfl, rfl, rfl⟩, by rw [e1, e2]; exact hG⟩
        · obtain ⟨i, rfl, hi, hiL, h0⟩ := hasN_at hx t.len
          obtain ⟨i2, rfl⟩ : ∃ i2 : Nat, y9 = i2 := ⟨y9.toNat, by omega⟩
          have hiL2 : i2 < (Ts[j]'hj').length := by rw [t.len]; omega
          have e1 : dup2D D (Ts[j]'hj') i i2 = if (Ts[j]'hj')[i2].1 = 0 then incR D (Ts[j]'hj')[i].1 else closeK (incR D (Ts[j]'hj')[i].1) (Ts[j]'hj')[i2].1 := by
            unfold dup2D; rw [if_pos ⟨e0, hne⟩, getD_in hiL, getD_in hiL2]
          have e2 : dup2N (Ts[j]'hj') i i2 = (Ts[j]'hj').set i2 ((Ts[j]'hj')[i].1, false) := by
            unfold dup2N; rw [if_pos ⟨e0, hne⟩, getD_in hiL, show (i2 : Int).toNat = i2 by omega]
          have hjs : j < (Ts.set j (dup2N (Ts[j]'hj') i i2)).length := by rw [List.length_set]; exact hj'
          have hl := hI.live hjs
          rw [getT_set hj' _ hjs, e2] at hl
          have hnn := h.inv.nn hj' _ (List.getElem_mem hiL2)
          refine (q.dup2_go t hi (j := i2) (by omega) hiL hiL2 (fun z => hne (by rw [z])) h0 (h.inv.cnted hj') (D2 := dup2D D (Ts[j]'hj') i i2) ?_ hl).mono ?_
          · by_cases z0 : (Ts[j]'hj')[i2].1 = 0
            · exact .inl ⟨z0, by rw [e1, if_pos z0]⟩
            · refine .inr ⟨by omega, by rw [e1, if_neg z0], ?_⟩
              exact (h.inv.dup2 hk hj' hiL2 (by omega) h0 (cntS_pos hj' hiL)).2
          · rintro y w' ⟨rfl, hG⟩
            exact ⟨_, _, ⟨by rw [e0]; rfl, rfl, rfl⟩, by rw [e2]; exact hG⟩
      · have e0 : dup2E (Ts[j]'hj') x y9 = 2 := by unfold dup2E; rw [if_pos hx, if_neg hy]
        refine (q.dup2_range t x y9 hx hy).mono ?_
        rintro y w' ⟨rfl, hG⟩
        exact ⟨_, _, ⟨by rw [e0]; rfl, (if_neg (fun z => by rw [e0] at z; omega)).symm, (if_neg (fun z => by rw [e0] at z; omega)).symm⟩, hG⟩
    · have hx' : hasN (Ts[j]'hj') x = false := by simpa using hx
      have e0 : dup2E (Ts[j]'hj') x y9 = 7 := if_neg hx
      refine (q.dup2_no t x y9 hx').mono ?_
      rintro y w' ⟨rfl, hG⟩
      exact ⟨_, _, ⟨by rw [e0]; rfl, (if_neg (fun z => by rw [e0] at z; omega)).symm, (if_neg (fun z => by rw [e0] at z; omega)).symm⟩, hG⟩
  · obtain ⟨_, rfl, rfl⟩ := hq
    exact hI
theorem KD.pipe (h : KD w m f r D bs Ts k A) (hn : D.nx < 890) (hj : j < bs.length) {n : Nat} (hN : IsN D.E n) :
    Calls Tryz.prog 80 #[wp f, wp bs[j]] w fun z w' => ∃ D' N' A', (∃ x y c, z = .returned (.tuple #[.int .i64 x, .int .i64 y, uev c]) ∧ PipeO D (Ts[j]'(h.jT hj)) n x y c D' N') ∧ KD w' m f r D' bs (Ts.set j N') k A' ∧ Stp w w' A A' := by
  refine h.call hj (Q := fun z D' N' => ∃ x y c, z = .returned (.tuple #[.int .i64 x, .int .i64 y, uev c]) ∧ PipeO D (Ts[j]'(h.jT hj)) n x y c D' N') (fun g n9 M hj' q t _ => ?_) (fun y D' N' hq => ?_)
  · obtain rfl := hN.one q.numE
    by_cases hf : noPipe (Ts[j]'hj') n
    · refine (q.pipe_no t hf (q.few h.inv.core.giv)).mono ?_
      rintro y w' ⟨rfl, hG⟩
      exact ⟨_, _, ⟨0, 0, 12, rfl, .inl ⟨hf, rfl, rfl, rfl, rfl, rfl⟩⟩, hG⟩
    · obtain ⟨l1, l2⟩ := h.inv.pipe_room hj' hf
      have g := h.inv.core.giv
      refine (q.pipe_yes t g hn (fun d e he => ?_) hf l1 l2 (h.inv.live hj')).mono ?_
      · by_cases hk : e.kind = 1
        · exact .inr hk
        · have := ((h.inv.core.ent d e he).pipe hk).2.1
          exact .inl (by omega)
      · rintro y w' ⟨rfl, hG⟩
        exact ⟨_, _, ⟨_, _, 0, rfl, .inr ⟨hf, rfl, rfl, rfl, rfl, rfl⟩⟩, hG⟩
  · obtain ⟨x, y, c, _, hP⟩ := hq
    rcases hP with ⟨_, _, _, _, rfl, rfl⟩ | ⟨hf, _, _, _, rfl, rfl⟩
    · exact h.inv.setSelf (h.jT hj)
    · obtain ⟨l1, l2⟩ := h.inv.pipe_room (h.jT hj) hf
      exact h.inv.pipe hn (h.jT hj) l1 l2
theorem KD.read (h : KD w m f r D bs Ts k A) (hj : j < bs.length) (x a : Int) :
    Calls Tryz.prog 45 #[wp f, wp bs[j], .int .i64 x, .int .i64 a] w fun y w' => ∃ D' N' A', (y = .returned (.tuple #[tx (readO D (Ts[j]'(h.jT hj)) x a).1, uev (readO D (Ts[j]'(h.jT hj)) x a).2.1]) ∧ D' = (readO D (Ts[j]'(h.jT hj)) x a).2.2 ∧ N' = Ts[j]'(h.jT hj)) ∧ KD w' m f r D' bs (Ts.set j N') k A' ∧ Stp w w' A A' := by
  refine h.call hj (Q := fun y D' N' => y = .returned (.tuple #[tx (readO D (Ts[j]'(h.jT hj)) x a).1, uev (readO D (Ts[j]'(h.jT hj)) x a).2.1]) ∧ D' = (readO D (Ts[j]'(h.jT hj)) x a).2.2 ∧ N' = Ts[j]'(h.jT hj)) (fun g n9 M hj' q t _ => ?_) (fun y D' N' hq => ?_)
  · by_cases hx : hasN (Ts[j]'hj') x = true
    · obtain ⟨i, rfl, hi, hiL, h0⟩ := hasN_at hx t.len
      obtain ⟨e, he⟩ := Option.isSome_iff_exists.1 (h.inv.live hj' i hiL h0)
      have ok := h.inv.core.ent _ e he
      by_cases hp2 : e.prot = 2
      · rw [readO_false hi hiL h0 he hp2]
        refine (q.read_no t i a 13 (by omega) (q.usable_false t hi hiL h0 he 1 (.inl ⟨rfl, hp2⟩))).mono ?_
        rintro y w' ⟨rfl, hG⟩
        exact ⟨_, _, ⟨rfl, rfl, rfl⟩, hG⟩
      · by_cases hk : e.kind = 1
        · obtain ⟨a1, a2, a3, a4, a5, a6⟩ := ok.file hk
          rw [readO_file hi hiL h0 he hk hp2]
          have hl := readS_end (x := e.node) (c := a) h.inv.core.sm a5 a6
          refine (q.read_file t hi hiL h0 he a hk (by omega) ⟨a3, a4⟩ ⟨a5, a6⟩ (by omega)).mono ?_
          rintro y w' ⟨rfl, hG⟩
          exact ⟨_, _, ⟨rfl, rfl, rfl⟩, hG⟩
        · obtain ⟨a1, a2, p, a3, a4, a5, a6, a7, a8⟩ := ok.pipe hk
          have hpr : e.prot = 1 := by
            rcases ok.kind with z | z | z
            · exact absurd z hk
            · exact ok.frm z
            · exact absurd (ok.into z) hp2
          rw [readO_end hi hiL h0 he hk hp2 a3]
          refine (q.read_end t hi hiL h0 he a hk (.inl hpr) a3 a7).mono ?_
          rintro y w' ⟨rfl, hG⟩
          exact ⟨_, _, ⟨rfl, rfl, rfl⟩, hG⟩
    · have hx' : hasN (Ts[j]'hj') x = false := by simpa using hx
      rw [readO_no hx']
      refine (q.read_no t x a 7 (by omega) (q.usable_no t x 1 hx')).mono ?_
      rintro y w' ⟨rfl, hG⟩
      exact ⟨_, _, ⟨rfl, rfl, rfl⟩, hG⟩
  · obtain ⟨_, rfl, rfl⟩ := hq
    exact (h.inv.read (h.jT hj) x a).setSelf (h.jT hj)
theorem KD.write (h : KD w m f r D bs Ts k A) (hj : j < bs.length) (x : Int) (s : List UInt8) (hs : s.length < 100000) (a : Int) :
    Calls Tryz.prog 44 #[wp f, wp bs[j], .int .i64 x, tx s, .int .i64 a] w fun y w' => ∃ D' N' A', (y = .returned (.tuple #[.int .i64 (writeO D (Ts[j]'(h.jT hj)) x s a).1, uev (writeO D (Ts[j]'(h.jT hj)) x s a).2.1]) ∧ D' = (writeO D (Ts[j]'(h.jT hj)) x s a).2.2 ∧ N' = Ts[j]'(h.jT hj)) ∧ KD w' m f r D' bs (Ts.set j N') (k + 1) A' ∧ Stp w w' A A' := by
  refine h.call hj (Q := fun y D' N' => y = .returned (.tuple #[.int .i64 (writeO D (Ts[j]'(h.jT hj)) x s a).1, uev (writeO D (Ts[j]'(h.jT hj)) x s a).2.1]) ∧ D' = (writeO D (Ts[j]'(h.jT hj)) x s a).2.2 ∧ N' = Ts[j]'(h.jT hj)) (fun g n9 M hj' q t _ => ?_) (fun y D' N' hq => ?_)
  · by_cases hx : hasN (Ts[j]'hj') x = true
    · obtain ⟨i, rfl, hi, hiL, h0⟩ := hasN_at hx t.len
      obtain ⟨e, he⟩ := Option.isSome_iff_exists.1 (h.inv.live hj' i hiL h0)
      have ok := h.inv.core.ent _ e he
      by_cases hp1 : e.prot = 1
      · rw [writeO_false hi hiL h0 he hp1]
        refine (q.write_no t i s a 13 (by omega) (q.usable_false t hi hiL h0 he 2 (.inr ⟨rfl, hp1⟩))).mono ?_
        rintro y w' ⟨rfl, hG⟩
        exact ⟨_, _, ⟨rfl, rfl, rfl⟩, hG⟩
      · by_cases hk : e.kind = 1
        · obtain ⟨a1, a2, a3, a4, a5, a6⟩ := ok.file hk
          by_cases hl : tooMuch s a e.pos
          · rw [writeO_limit hi hiL h0 he hk hp1 hl]
            refine (q.write_limit t hi hiL h0 he s a hk (by omega) ⟨a5, a6⟩ hs hl).mono ?_
            rintro y w' ⟨rfl, hG⟩
            exact ⟨_, _, ⟨rfl, rfl, rfl⟩, hG⟩
          · refine (q.write_file t hi hiL h0 he s a hk (by omega) ⟨a3, a4⟩ ⟨a5, a6⟩ hs h.inv.core.lv hl).mono ?_
            rintro y w' (⟨hE, rfl, hG⟩ | ⟨hE, rfl, hG⟩)
            · rw [writeO_bad hi hiL h0 he hk hp1 hl hE]
              exact ⟨_, _, ⟨by rw [uev_ne hE], rfl, rfl⟩, hG⟩
            · rw [writeO_file hi hiL h0 he hk hp1 hl hE]
              exact ⟨_, _, ⟨rfl, rfl, rfl⟩, hG⟩
        · obtain ⟨a1, a2, p, a3, a4, a5, a6, a7, a8⟩ := ok.pipe hk
          have hpr : e.prot = 2 := by
            rcases ok.kind with z | z | z
            · exact absurd z hk
            · exact absurd (ok.frm z) hp1
            · exact ok.into z
          rw [writeO_end hi hiL h0 he hk hp1 a3]
          refine (q.write_end t hi hiL h0 he s a hk (.inl hpr) a3).mono ?_
          rintro y w' ⟨rfl, hG⟩
          exact ⟨_, _, ⟨rfl, rfl, rfl⟩, hG⟩
    · have hx' : hasN (Ts[j]'hj') x = false := by simpa using hx
      rw [writeO_no hx']
      refine (q.write_no t x s a 7 (by omega) (q.usable_no t x 2 hx')).mono ?_
      rintro y w' ⟨rfl, hG⟩
      exact ⟨_, _, ⟨rfl, rfl, rfl⟩, hG⟩
  · obtain ⟨_, rfl, rfl⟩ := hq
    exact (h.inv.write (h.jT hj) x s a).setSelf (h.jT hj)
theorem KD.clear (h : KD w m f r D bs Ts k A) (hk : k ≤ 900) (hj : j < bs.length) :
    Calls Tryz.prog 41 #[wp f, wp bs[j]] w fun y w' => ∃ D' N' A', (y = .returned (.tuple #[]) ∧ D' = (freeS true D (Ts[j]'(h.jT hj)) 8).1 ∧ N' = (freeS true D (Ts[j]'(h.jT hj)) 8).2) ∧ KD w' m f r D' bs (Ts.set j N') k A' ∧ Stp w w' A A' := by
  refine h.call hj (Q := fun y D' N' => y = .returned (.tuple #[]) ∧ D' = (freeS true D (Ts[j]'(h.jT hj)) 8).1 ∧ N' = (freeS true D (Ts[j]'(h.jT hj)) 8).2) (fun g n9 M hj' q t _ => ?_) (fun y D' N' hq => ?_)
  · refine (q.clear_ok t h.inv hk hj' rfl).mono ?_
    rintro y w' ⟨rfl, hG⟩
    exact ⟨_, _, ⟨rfl, rfl, rfl⟩, hG⟩
  · obtain ⟨_, rfl, rfl⟩ := hq
    exact h.inv.free hk (h.jT hj) true 8 (by omega)
theorem KD.exec (h : KD w m f r D bs Ts k A) (hk : k ≤ 900) (hj : j < bs.length) :
    Calls Tryz.prog 91 #[wp f, wp bs[j]] w fun y w' => ∃ D' N' A', (y = .returned (.tuple #[]) ∧ D' = (freeS false D (Ts[j]'(h.jT hj)) 8).1 ∧ N' = (freeS false D (Ts[j]'(h.jT hj)) 8).2) ∧ KD w' m f r D' bs (Ts.set j N') k A' ∧ Stp w w' A A' := by
  refine h.call hj (Q := fun y D' N' => y = .returned (.tuple #[]) ∧ D' = (freeS false D (Ts[j]'(h.jT hj)) 8).1 ∧ N' = (freeS false D (Ts[j]'(h.jT hj)) 8).2) (fun g n9 M hj' q t _ => ?_) (fun y D' N' hq => ?_)
  · refine (q.exec_ok t h.inv hk hj' rfl).mono ?_
    rintro y w' ⟨rfl, hG⟩
    exact ⟨_, _, ⟨rfl, rfl, rfl⟩, hG⟩
  · obtain ⟨_, rfl, rfl⟩ := hq
    exact h.inv.free hk (h.jT hj) false 8 (by omega)
theorem KD.fork (h : KD w m f r D bs Ts k A) (hf : Ts.length < 8) (hj : j < bs.length) :
    Calls Tryz.prog 29 #[wp f, wp bs[j]] w fun y w' => ∃ A', y = .returned (wp w.heap.size) ∧ KD w' m f r (forkD D (Ts[j]'(h.jT hj))) (bs ++ [w.heap.size]) (Ts ++ [Ts[j]'(h.jT hj)]) k A' ∧ Stp w w' A A' := by
  obtain ⟨g, n, h1, hr, ht, hA⟩ := h.st
  have hj' := h.jT hj
  obtain ⟨M, tj⟩ := ht j hj hj'
  refine (h1.fork_ok tj h.inv hj' rfl).mono ?_
  rintro y w' ⟨rfl, a1, a2, a3, wt⟩
  have hst : Stp w w' A (fun i => A i ∨ (w.heap.size ≤ i ∧ i < w'.heap.size)) := ⟨wt.mono hA, fun i hi => by
    rcases hi with hi | hi
    · exact .inl hi
    · exact .inr hi.1⟩
  have hbl : ∀ x ∈ bs, x < w.heap.size := fun x hx => h.lt x (h.bsA x hx)
  refine ⟨_, rfl, ⟨⟨g, n, a1, hr, fun x hx hx' => ?_, fun i hi => .inl (hA i hi)⟩, by rw [List.length_append, List.length_append, h.len]; rfl, ?_, fun b hb => ?_, h.inv.fork hf hj', fun i hi => ?_, (hst.cellKept h.ml h.mn).1, (hst.cellKept h.ml h.mn).2, (hst.cellKept h.er h.en).1, (hst.cellKept h.er h.en).2⟩, hst⟩
  · by_cases e1 : x < bs.length
    · have e2 : x < Ts.length := by rw [← h.len]; exact e1
      rw [List.getElem_append_left e1, List.getElem_append_left e2]
      obtain ⟨Mx, tx⟩ := ht x e1 e2
      exact ⟨Mx, tx.keep (wt.block _ tx.tab.lt (by rw [tx.off]; simp))⟩
    · have e3 : x = bs.length := by rw [List.length_append] at hx; simp at hx; omega
      have e4 : x = Ts.length := by rw [← h.len]; exact e3
      subst e3
      rw [List.getElem_concat_length rfl]
      have : (Ts ++ [Ts[j]])[bs.length]'hx' = Ts[j] := by
        rw [List.getElem_append_right (by omega)]
        simp
      rw [this]
      exact ⟨M, a3⟩
  · rw [List.nodup_append]
    exact ⟨h.nd, by simp, fun a ha b hb e => by rw [List.mem_singleton.1 hb] at e; have := hbl a ha; omega⟩
  · rcases List.mem_append.1 hb with z | z
    · exact .inl (h.bsA b z)
    · rw [List.mem_singleton.1 z]
      exact .inr ⟨Nat.le_refl _, a3.tab.lt⟩
  · rcases hi with hi | hi
    · exact Nat.lt_of_lt_of_le (h.lt i hi) wt.size
    · exact hi.2
/-- The tree's own Unlink. -/
theorem KD.unlink (h : KD w m f r D bs Ts k A) (hk : k ≤ 900) (p : List UInt8) (hp : p.length < 100000) :
    Calls Tryz.prog 22 #[wp r, tx p] w fun y w' => ∃ A', y = .returned (uev (unlinkE D.T p)) ∧ KD w' m f r { D with T := unlinkN D.T p } bs Ts (k + 1) A' ∧ Stp w w' A A' := by
  obtain ⟨g, n, h1, hr, ht, hA⟩ := h.st
  obtain ⟨O, pt, hO⟩ := h1.tree
  rw [← hr]
  refine (pt.unlink_ok h.inv.core.lv p hp m h.ml (fun i C e => by have := h.inv.core.sm.1 i C e; omega)).mono ?_
  rintro y w' ⟨rfl, p', st⟩
  obtain ⟨g', a1, a2, a3, a4, _⟩ := h1.turn hO p' st
  have hst : Stp w w' A (fun i => A i ∨ (w.heap.size ≤ i ∧ i < w'.heap.size)) := ⟨st.wt.mono (fun i hi => hA i (by rw [hO i hi]; rfl)), fun i hi => by
    rcases hi with hi | hi
    · exact .inl hi
    · exact .inr hi.1⟩
  refine ⟨_, rfl, ⟨⟨g', n, a1, a4, fun x hx hx' => ?_, fun i hi => ?_⟩, h.len, h.nd, fun b hb => .inl (h.bsA b hb), h.inv.unlink p, fun i hi => ?_, (hst.cellKept h.ml h.mn).1, (hst.cellKept h.ml h.mn).2, (hst.cellKept h.er h.en).1, (hst.cellKept h.er h.en).2⟩, hst⟩
  · obtain ⟨Mx, tx⟩ := ht x hx hx'
    exact ⟨Mx, tx.sameK (st.wt.block _ tx.tab.lt (fun o => by have := hO _ o; rw [tx.off] at this; cases this)) a2 a3⟩
  · by_cases e1 : i < w.heap.size
    · rw [a2 i e1] at hi; exact .inl (hA i hi)
    · exact .inr ⟨by omega, a1.lt i hi⟩
  · rcases hi with hi | hi
    · exact Nat.lt_of_lt_of_le (h.lt i hi) st.wt.size
    · exact hi.2
end
end Go.Proofs.YtjkneekfijibiabGreatDoor
