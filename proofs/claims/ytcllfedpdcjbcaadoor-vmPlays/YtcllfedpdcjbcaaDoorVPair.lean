/- Both sides' spaces in one memory: the program's, and the document's. -/
import Derived.Test.YtcllfedpdcjbcaaDoorVRefD
import Derived.Test.YtcllfedpdcjbcaaDoorVSpace
import Derived.Maps.AppendAt
namespace Go.Proofs.YtcllfedpdcjbcaaDoor
open Go.RowKit Go.Shelf Go.Lib Go.Sort Go.Maps

/-- What the others have, at least what each of them has. -/
theorem oth_ge {M : List Sq} {k j : Nat} (hk : k < M.length) (hj : j < M.length) (hne : j ≠ k) {f : Int} (hf : 0 ≤ f) : sh M[j].2.2 f ≤ oth M k hk f := by
  obtain ⟨x, hx⟩ : ∃ x : Sq, x.2.2 = fun _ => none := ⟨(0, 0, fun _ => none), rfl⟩
  have h1 := totS_set hk x f
  rw [hx, sh_empty hf] at h1
  have hl : j < (M.set k x).length := by rw [List.length_set]; exact hj
  have h2 := totS_at hl f
  rw [List.getElem_set_ne (Ne.symm hne) hl] at h2
  have h3 := oth_add hk f
  omega

/-- The document's spaces over one memory. -/
structure Dl (w : World) (rm gR n nx : Nat) (M : List Sq) (D : Nat → Nat → Int) (φ : Int → Int) : Prop where
  sp : ∀ i (hi : i < M.length), RF w rm gR n nx M[i].2.1 M[i].2.2 D φ (totS M)
  apart : ∀ i j (hi : i < M.length) (hj : j < M.length), M[i].2.1 = M[j].2.1 → i = j
  pos : 0 < M.length

/-- Their blocks. -/
def down (rm gR : Nat) (M : List Sq) (i : Nat) : Prop := i = rm ∨ i = gR ∨ ∃ x ∈ M, i = x.2.1

section
variable {w w' : World} {rm gR n nx : Nat} {M : List Sq} {D : Nat → Nat → Int} {φ : Int → Int}

theorem RF.keep {gs : Nat} {P : PM} {t : Int → Nat} (h : RF w rm gR n nx gs P D φ t) (h1 : w'.heap[rm]? = w.heap[rm]?) (h2 : w'.heap[gR]? = w.heap[gR]?) (h3 : w'.heap[gs]? = w.heap[gs]?) : RF w' rm gR n nx gs P D φ t := by
  obtain ⟨Rr, s, m, r⟩ := h.mem
  exact ⟨⟨Rr, s, m.keep h1 h2, r⟩, h.sp.keep h3, h.ok, h.sub, h.ngr, h.ngm, h.n256, h.nx9⟩
theorem Dl.mem (h : Dl w rm gR n nx M D φ) : ∃ Rr s, RM w rm gR n nx Rr s ∧ Rel n nx (totS M) φ Rr s := (h.sp 0 h.pos).mem
theorem Dl.lt (h : Dl w rm gR n nx M D φ) {i : Nat} (hd : down rm gR M i) : i < w.heap.size := by
  obtain ⟨Rr, s, m, _⟩ := h.mem
  rcases hd with rfl | rfl | ⟨x, hx, rfl⟩
  · exact m.lt
  · exact m.glt
  · obtain ⟨j, hj, rfl⟩ := List.mem_iff_getElem.1 hx
    exact (h.sp j hj).lt
theorem down_at {i : Nat} (hi : i < M.length) : down rm gR M M[i].2.1 := .inr (.inr ⟨M[i], List.getElem_mem hi, rfl⟩)
theorem Dl.keep (h : Dl w rm gR n nx M D φ) (hk : ∀ i, down rm gR M i → w'.heap[i]? = w.heap[i]?) : Dl w' rm gR n nx M D φ :=
  ⟨fun i hi => (h.sp i hi).keep (hk _ (.inl rfl)) (hk _ (.inr (.inl rfl))) (hk _ (down_at hi)), h.apart, h.pos⟩

/-- One of them turned. -/
theorem Dl.turn (h : Dl w rm gR n nx M D φ) {k : Nat} (hk : k < M.length) {nx' : Nat} {P' : PM} {D' : Nat → Nat → Int} {φ' : Int → Int} {t' : Int → Nat}
    (r : RF w' rm gR n nx' M[k].2.1 P' D' φ' t') (ht : ∀ f, 0 ≤ f → t' f = sh P' f + oth M k hk f) (hφ : ∀ f, 0 ≤ f → oth M k hk f ≠ 0 → φ' f = φ f ∧ D' f.toNat = D f.toNat) (fr : Fr (rwr rm gR M[k].2.1) w w') :
    Dl w' rm gR n nx' (M.set k (M[k].1, M[k].2.1, P')) D' φ' := by
  have hl : (M.set k (M[k].1, M[k].2.1, P')).length = M.length := by simp
  have htot : ∀ f, 0 ≤ f → t' f = totS (M.set k (M[k].1, M[k].2.1, P')) f := fun f hf => by
    have h1 := totS_set hk (M[k].1, M[k].2.1, P') f
    have h2 := oth_add hk f
    rw [ht f hf]; simp only at h1; omega
  have r' := r.congr htot
  refine ⟨fun j hj => ?_, fun i j hi hj e => ?_, by rw [hl]; exact h.pos⟩
  · have hj' : j < M.length := by simpa using hj
    by_cases e : j = k
    · subst e
      have e1 : (M.set j (M[j].1, M[j].2.1, P'))[j] = (M[j].1, M[j].2.1, P') := by simp
      rw [e1]; exact r'
    · have e1 : (M.set k (M[k].1, M[k].2.1, P'))[j] = M[j] := by simp [Ne.symm e]
      have vj := h.sp j hj'
      have hb : w'.heap[M[j].2.1]? = w.heap[M[j].2.1]? := fr.block _ vj.lt (fun ho => by
        rcases ho with ho | ho | ho
        · exact vj.ngr ho
        · exact e (h.apart j k hj' hk ho)
        · exact vj.ngm ho)
      have hv : rpv M[j].2.2 D' φ' = rpv M[j].2.2 D φ := by
        funext i
        refine rpv_keep ?_
        rcases vj.ok.frame i with e2 | e2
        · exact .inl e2
        · right
          have hne : frm M[j].2.2 i ≠ -1 := by omega
          have h1 := sh_pos (a := i) vj.ok hne
          have h2 := oth_ge hk hj' e e2.1
          have h3 := hφ _ e2.1 (by omega)
          exact ⟨h3.2, h3.1⟩
      have hs := totS_at (L := M.set k (M[k].1, M[k].2.1, P')) hj
      rw [e1] at hs ⊢
      exact ⟨r'.mem, by rw [hv]; exact vj.sp.keep hb, vj.ok, fun f _ => hs f, vj.ngr, vj.ngm, r'.n256, r'.nx9⟩
  · have hi' : i < M.length := by simpa using hi
    have hj' : j < M.length := by simpa using hj
    refine h.apart i j hi' hj' ?_
    have g : ∀ m (hm : m < M.length), (M.set k (M[k].1, M[k].2.1, P'))[m]'(by simpa using hm) = if k = m then (M[k].1, M[k].2.1, P') else M[m] := fun m hm => by rw [List.getElem_set]
    rw [g i hi', g j hj'] at e
    by_cases e1 : k = i <;> by_cases e2 : k = j
    · subst e1; subst e2; rfl
    · subst e1; simpa [e2] using e
    · subst e2; simpa [e1] using e
    · simpa [e1, e2] using e

theorem down_set {k : Nat} (hk : k < M.length) (P' : PM) (i : Nat) : down rm gR (M.set k (M[k].1, M[k].2.1, P')) i → down rm gR M i := by
  rintro (h | h | ⟨x, hx, rfl⟩)
  · exact .inl h
  · exact .inr (.inl h)
  · rcases List.mem_or_eq_of_mem_set hx with hx | rfl
    · exact .inr (.inr ⟨x, hx, rfl⟩)
    · exact down_at hk
theorem rwr_down {k : Nat} (hk : k < M.length) {i : Nat} (h : rwr rm gR M[k].2.1 i) : down rm gR M i := by
  rcases h with h | h | h
  · exact .inr (.inl h)
  · rw [h]; exact down_at hk
  · exact .inl h

/-- One of them forked. -/
theorem Dl.forked (h : Dl w rm gR n nx M D φ) {k : Nat} (hk : k < M.length) (r1 : RF w' rm gR n nx M[k].2.1 M[k].2.2 D φ (fun f => totS M f + sh M[k].2.2 f)) (r2 : RF w' rm gR n nx w.heap.size M[k].2.2 D φ (fun f => totS M f + sh M[k].2.2 f)) (fr : Fr (· = gR) w w') :
    Dl w' rm gR n nx (M ++ [(0, w.heap.size, M[k].2.2)]) D φ := by
  have htot : ∀ f, 0 ≤ f → totS M f + sh M[k].2.2 f = totS (M ++ [(0, w.heap.size, M[k].2.2)]) f := fun f _ => by rw [totS_app]
  have lt : ∀ m (hm : m < M.length), M[m].2.1 < w.heap.size := fun m hm => (h.sp m hm).lt
  have g : ∀ m (hm : m < M.length), (M ++ [(0, w.heap.size, M[k].2.2)])[m]'(by simp; omega) = M[m] := fun m hm => by rw [List.getElem_append_left hm]
  have g' : ∀ m (hm : m < (M ++ [(0, w.heap.size, M[k].2.2)]).length), ¬ m < M.length → (M ++ [(0, w.heap.size, M[k].2.2)])[m] = (0, w.heap.size, M[k].2.2) := fun m hm hn => by
    have : m = M.length := by simp at hm; omega
    subst this; simp
  refine ⟨fun j hj => ?_, fun i j hi hj e => ?_, by simp⟩
  · by_cases e : j < M.length
    · have vj := h.sp j e
      have hs := totS_at (L := M ++ [(0, w.heap.size, M[k].2.2)]) hj
      rw [g j e] at hs ⊢
      exact ⟨(r1.congr htot).mem, vj.sp.keep (fr.block _ vj.lt vj.ngr), vj.ok, fun f _ => hs f, vj.ngr, vj.ngm, vj.n256, vj.nx9⟩
    · rw [g' j hj e]
      exact r2.congr htot
  · by_cases e1 : i < M.length <;> by_cases e2 : j < M.length
    · rw [g i e1, g j e2] at e; exact h.apart i j e1 e2 e
    · rw [g i e1, g' j hj e2] at e; have := lt i e1; simp only at e; omega
    · rw [g' i hi e1, g j e2] at e; have := lt j e2; simp only at e; omega
    · simp at hi hj; omega
theorem down_app {g : Nat} {P : PM} (i : Nat) (h : down rm gR (M ++ [(0, g, P)]) i) : down rm gR M i ∨ i = g := by
  rcases h with h | h | ⟨x, hx, rfl⟩
  · exact .inl (.inl h)
  · exact .inl (.inr (.inl h))
  · rcases List.mem_append.1 hx with hx | hx
    · exact .inl (.inr (.inr ⟨x, hx, rfl⟩))
    · simp at hx; subst hx; exact .inr rfl
end

/-- All spaces, where all blocks that they lie in are as they were. -/
theorem Al.hold {E : St} {w w' : World} {D : Nat → Nat → Int} {A : Nat → Prop} {L : List Sq} (h : Al E w D A L) (hk : ∀ i, aown E A L i → w'.heap[i]? = w.heap[i]?) (hb : w'.heap[E.b]? = w.heap[E.b]?) (hm : w'.heap[E.bm]? = w.heap[E.bm]?) (hc : ∀ i (hi : i < L.length), w'.heap[L[i].1]? = w.heap[L[i].1]?) : Al E w' D A L :=
  ⟨fun i hi => (h.sp i hi).keep (fun j hj => hk j (.inl hj)) hb hm (hc i hi) (hk _ (.inr ⟨L[i], List.getElem_mem hi, rfl⟩)), h.apart, h.pos⟩

/-- Both; F: blocks that neither writes. -/
structure BV (F : Nat → Prop) (E : St) (w : World) (A : Nat → Prop) (D : Nat → Nat → Int) (L : List Sq) (rm gR nx : Nat) (D2 : Nat → Nat → Int) (M : List Sq) (φ : Int → Int) : Prop where
  al : Al E w D A L
  dl : Dl w rm gR E.n nx M D2 φ
  sep : ∀ i, down rm gR M i → ¬ aown E A L i ∧ i ≠ E.b ∧ i ≠ E.bm ∧ ∀ x ∈ L, i ≠ x.1
  fix : ∀ i, F i → i < w.heap.size ∧ ¬ aown E A L i ∧ ¬ down rm gR M i

section
variable {F : Nat → Prop} {E : St} {w w' : World} {A : Nat → Prop} {D D' : Nat → Nat → Int} {L L' : List Sq} {rm gR nx nx' : Nat} {D2 D2' : Nat → Nat → Int} {M M' : List Sq} {φ φ' : Int → Int}

/-- The program's side turned. -/
theorem BV.stepA (h : BV F E w A D L rm gR nx D2 M φ) (t : ATurn E w A L w' D' L') (hc : ∀ x ∈ L', (∃ y ∈ L, x.1 = y.1) ∨ w.heap.size ≤ x.1) : ∃ A', BV F E w' A' D' L' rm gR nx D2 M φ ∧ Fr (aown E A L) w w' := by
  obtain ⟨A', a, f, s⟩ := t
  refine ⟨A', ⟨a, h.dl.keep (fun i hi => f.block i (h.dl.lt hi) (h.sep i hi).1), fun i hi => ?_, fun i hi => ?_⟩, f⟩
  · have h1 := h.sep i hi
    have hl := h.dl.lt hi
    refine ⟨fun ho => h1.1 (s i hl ho), h1.2.1, h1.2.2.1, fun x hx e => ?_⟩
    rcases hc x hx with ⟨y, hy, e2⟩ | e2
    · exact h1.2.2.2 y hy (e.trans e2)
    · omega
  · have h1 := h.fix i hi
    exact ⟨Nat.lt_of_lt_of_le h1.1 f.size, fun ho => h1.2.1 (s i h1.1 ho), h1.2.2⟩

/-- The document's side turned. -/
theorem BV.stepD (h : BV F E w A D L rm gR nx D2 M φ) (d : Dl w' rm gR E.n nx' M' D2' φ') (f : Fr (down rm gR M) w w') (s : ∀ i, down rm gR M' i → down rm gR M i ∨ w.heap.size ≤ i) : BV F E w' A D L rm gR nx' D2' M' φ' := by
  have st := h.al.st
  refine ⟨h.al.hold (fun i hi => f.block i (h.al.olt hi) (fun hd => (h.sep i hd).1 hi)) (f.block _ st.blt (fun hd => (h.sep _ hd).2.1 rfl)) (f.block _ st.mlt (fun hd => (h.sep _ hd).2.2.1 rfl)) (fun i hi => f.block _ (h.al.sp i hi).sp.lt (fun hd => (h.sep _ hd).2.2.2 _ (List.getElem_mem hi) rfl)), d, fun i hi => ?_, fun i hi => ?_⟩
  · rcases s i hi with hd | hd
    · exact h.sep i hd
    · refine ⟨fun ho => by have := h.al.olt ho; omega, fun e => by have := st.blt; omega, fun e => by have := st.mlt; omega, fun x hx e => ?_⟩
      obtain ⟨j, hj, rfl⟩ := List.mem_iff_getElem.1 hx
      have := (h.al.sp j hj).sp.lt; omega
  · have h1 := h.fix i hi
    refine ⟨Nat.lt_of_lt_of_le h1.1 f.size, h1.2.1, fun hd => ?_⟩
    rcases s i hd with hd | hd
    · exact h1.2.2 hd
    · omega
theorem BV.below (h : BV F E w A D L rm gR nx D2 M φ) (hb : Below w.heap.size w w') : BV F E w' A D L rm gR nx D2 M φ :=
  ⟨h.al.below hb, h.dl.keep (fun i hi => hb.block i (h.dl.lt hi)), h.sep, fun i hi => ⟨Nat.lt_of_lt_of_le (h.fix i hi).1 hb.size, (h.fix i hi).2⟩⟩
/-- Another set of blocks that neither writes. -/
theorem BV.fixed {F' : Nat → Prop} (h : BV F E w A D L rm gR nx D2 M φ) (hF : ∀ i, F' i → F i ∨ (i < w.heap.size ∧ ¬ aown E A L i ∧ ¬ down rm gR M i)) : BV F' E w A D L rm gR nx D2 M φ :=
  ⟨h.al, h.dl, h.sep, fun i hi => (hF i hi).elim (h.fix i) id⟩
end
end Go.Proofs.YtcllfedpdcjbcaaDoor

namespace Go.Proofs.YtcllfedpdcjbcaaDoor
open Go.RowKit Go.Shelf Go.Lib Go.Sort Go.Maps

section
variable {w w' : World} {c b gc : Nat} {P : PM}
set_option maxHeartbeats 1000000 in
theorem Sp.len (h : Sp w c b gc P) : Calls Tryd.prog 72 #[vp c] w fun e w' => e = .returned (.int .i64 (lenP P : Nat)) ∧ w' = w := by
  have c1 := h.c1
  have hm := h.map
  clear h
  go_enter Tryd.func72, Tryd.ntmps72
  go_wp2_with (at_len; refine wpList_klen rfl _ 166 rfl 172 Tryd.underlying166 gc _ _ rfl hm ?_)
  go_ret
  exact ⟨rfl, rfl⟩
end
end Go.Proofs.YtcllfedpdcjbcaaDoor

namespace Go.Proofs.YtcllfedpdcjbcaaDoor
open Go.RowKit Go.Shelf Go.Lib Go.Sort Go.Maps

/-- A row in a block of its own, where that block is as it was. -/
theorem orow_keep {w w' : World} {base : Nat} {T : TypeId} {v : Value} {n : Nat} {xs : List Value} (h : w.ownsRow base T 1 v n xs) (hk : ∀ g, v.ownBlock = some g → g < w.heap.size → w'.heap[g]? = w.heap[g]?) : w'.ownsRow base T 1 v n xs := by
  refine ⟨h.1, ?_⟩
  rcases h.2 with h0 | ⟨g, cap, cur, e, hN, hg, rest⟩
  · exact .inl h0
  · exact .inr ⟨g, cap, cur, e, hN, (hk g (by rw [e]; rfl) (lt_of_heap hg)).trans hg, rest⟩
theorem orow_block {w : World} {base : Nat} {T : TypeId} {v : Value} {n : Nat} {xs : List Value} (h : w.ownsRow base T 1 v n xs) {g : Nat} (hv : v.ownBlock = some g) : base ≤ g ∧ ∃ cur, w.heap[g]? = some (.cells cur T) := by
  rcases h.2 with ⟨rfl, _⟩ | ⟨g', cap, cur, e, hN, hg, _⟩
  · cases hv
  · rw [e] at hv; cases hv; exact ⟨hN, cur, hg⟩
theorem orow_read {w : World} {base : Nat} {T : TypeId} {v : Value} {n : Nat} {xs : List Value} (h : w.ownsRow base T 1 v n xs) (hp : 0 < n) : ∃ g cap, v = .slice (some ⟨g, 0, none⟩) n cap ∧ n ≤ cap ∧ g < w.heap.size ∧ ∀ j, j < n → w.cell? ⟨g, j, none⟩ = xs[j]? := by
  rcases h.2 with ⟨_, h0⟩ | ⟨g, cap, cur, e, hN, hg, h1, h2, h3, h4⟩
  · omega
  · refine ⟨g, cap, e, h1, lt_of_heap hg, fun j hj => ?_⟩
    rw [cell_of_row w g j _ _ _ hg, ← Array.getElem?_toList, ← h4, Nat.mul_one, List.getElem?_take, if_pos hj]

/-- Blocks that neither side writes. -/
def Fx (w0 : World) (v1 v2 : Value) (X : Nat → Prop) (i : Nat) : Prop := i < w0.heap.size ∨ v1.ownBlock = some i ∨ v2.ownBlock = some i ∨ X i

structure BS (X : Nat → Prop) (w0 : World) (E : St) (w : World) (A : Nat → Prop) (D : Nat → Nat → Int) (L : List Sq) (rm gR nx : Nat) (D2 : Nat → Nat → Int) (M : List Sq) (φ : Int → Int) (v1 v2 : Value) (cs ds : List Nat) : Prop where
  bv : BV (Fx w0 v1 v2 X) E w A D L rm gR nx D2 M φ
  bel : Below w0.heap.size w0 w
  r1 : w.ownsRow w0.heap.size 107 1 v1 cs.length (cs.map vp)
  r2 : w.ownsRow w0.heap.size 114 1 v2 ds.length (ds.map fun g => .map (some g))

section
variable {X : Nat → Prop} {w0 : World} {E : St} {w w' : World} {A : Nat → Prop} {D D' : Nat → Nat → Int} {L L' : List Sq} {rm gR nx nx' : Nat} {D2 D2' : Nat → Nat → Int} {M M' : List Sq} {φ φ' : Int → Int} {v1 v2 v' : Value} {cs ds : List Nat}

/-- What is fixed is as it was. -/
theorem BS.moved {B : Nat → Prop} (h : BS X w0 E w A D L rm gR nx D2 M φ v1 v2 cs ds) (f : Fr B w w') (hB : ∀ i, Fx w0 v1 v2 X i → ¬ B i) : Below w0.heap.size w0 w' ∧ w'.ownsRow w0.heap.size 107 1 v1 cs.length (cs.map vp) ∧ w'.ownsRow w0.heap.size 114 1 v2 ds.length (ds.map fun g => .map (some g)) ∧ ∀ i, X i → w'.heap[i]? = w.heap[i]? := by
  have hk : ∀ i, Fx w0 v1 v2 X i → w'.heap[i]? = w.heap[i]? := fun i hi => f.block i (h.bv.fix i hi).1 (hB i hi)
  refine ⟨⟨f.os.trans h.bel.os, f.tape.trans h.bel.tape, f.output.trans h.bel.output, Nat.le_trans h.bel.size f.size, fun i hi => (hk i (.inl hi)).trans (h.bel.block i hi)⟩, orow_keep h.r1 (fun g hg _ => hk g (.inr (.inl hg))), orow_keep h.r2 (fun g hg _ => hk g (.inr (.inr (.inl hg)))), fun i hi => hk i (.inr (.inr (.inr hi)))⟩

theorem BS.stepA (h : BS X w0 E w A D L rm gR nx D2 M φ v1 v2 cs ds) (t : ATurn E w A L w' D' L') (hc : ∀ x ∈ L', (∃ y ∈ L, x.1 = y.1) ∨ w.heap.size ≤ x.1) : ∃ A', BS X w0 E w' A' D' L' rm gR nx D2 M φ v1 v2 cs ds ∧ ∀ i, X i → w'.heap[i]? = w.heap[i]? := by
  obtain ⟨A', b, f⟩ := h.bv.stepA t hc
  obtain ⟨h1, h2, h3, h4⟩ := h.moved f (fun i hi => (h.bv.fix i hi).2.1)
  exact ⟨A', ⟨b, h1, h2, h3⟩, h4⟩
theorem BS.stepD (h : BS X w0 E w A D L rm gR nx D2 M φ v1 v2 cs ds) (d : Dl w' rm gR E.n nx' M' D2' φ') (f : Fr (down rm gR M) w w') (s : ∀ i, down rm gR M' i → down rm gR M i ∨ w.heap.size ≤ i) : BS X w0 E w' A D L rm gR nx' D2' M' φ' v1 v2 cs ds ∧ ∀ i, X i → w'.heap[i]? = w.heap[i]? := by
  obtain ⟨h1, h2, h3, h4⟩ := h.moved f (fun i hi => (h.bv.fix i hi).2.2)
  exact ⟨⟨h.bv.stepD d f s, h1, h2, h3⟩, h4⟩
theorem BS.stay (h : BS X w0 E w A D L rm gR nx D2 M φ v1 v2 cs ds) (hb : Below w.heap.size w w') : BS X w0 E w' A D L rm gR nx D2 M φ v1 v2 cs ds ∧ ∀ i, X i → w'.heap[i]? = w.heap[i]? := by
  obtain ⟨h1, h2, h3, h4⟩ := h.moved (B := fun _ => False) (fr_below hb) (fun _ _ e => e)
  exact ⟨⟨h.bv.below hb, h1, h2, h3⟩, h4⟩
theorem BS.drop {X' : Nat → Prop} (h : BS X w0 E w A D L rm gR nx D2 M φ v1 v2 cs ds) (hX : ∀ i, X' i → X i) : BS X' w0 E w A D L rm gR nx D2 M φ v1 v2 cs ds :=
  ⟨h.bv.fixed (fun i hi => .inl (hi.imp id (fun hi => hi.imp id (fun hi => hi.imp id (hX i))))), h.bel, h.r1, h.r2⟩
/-- A new block. -/
theorem BS.more (h : BS (fun _ => False) w0 E w A D L rm gR nx D2 M φ v1 v2 cs ds) (o : Obj) : BS (· = w.heap.size) w0 E (w.alloc o) A D L rm gR nx D2 M φ v1 v2 cs ds := by
  obtain ⟨h1, _⟩ := h.stay ((Below.refl _ w).alloc (Nat.le_refl _) o)
  refine ⟨h1.bv.fixed (fun i hi => ?_), h1.bel, h1.r1, h1.r2⟩
  rcases hi with hi | hi | hi | hi
  · exact .inl (.inl hi)
  · exact .inl (.inr (.inl hi))
  · exact .inl (.inr (.inr (.inl hi)))
  · refine .inr ⟨by rw [hi]; simp, fun ho => ?_, fun hd => ?_⟩
    · have := h.bv.al.olt ho; omega
    · have := h.bv.dl.lt hd; omega

/-- One space of the program's turned. -/
theorem BS.turnA (h : BS X w0 E w A D L rm gR nx D2 M φ v1 v2 cs ds) {k : Nat} (hk : k < L.length) {P' : PM} (t : STurn E w L[k].1 L[k].2.1 A w' D' P' (oth L k hk)) : ∃ A', BS X w0 E w' A' D' (L.set k (L[k].1, L[k].2.1, P')) rm gR nx D2 M φ v1 v2 cs ds ∧ ∀ i, X i → w'.heap[i]? = w.heap[i]? :=
  h.stepA (h.bv.al.turn hk t) (fun x hx => by
    rcases List.mem_or_eq_of_mem_set hx with hx | rfl
    · exact .inl ⟨x, hx, rfl⟩
    · exact .inl ⟨L[k], List.getElem_mem hk, rfl⟩)
/-- One of the document's turned. -/
theorem BS.turnD (h : BS X w0 E w A D L rm gR nx D2 M φ v1 v2 cs ds) {k : Nat} (hk : k < M.length) {P' : PM} {t' : Int → Nat}
    (r : RF w' rm gR E.n nx' M[k].2.1 P' D2' φ' t') (ht : ∀ f, 0 ≤ f → t' f = sh P' f + oth M k hk f) (hφ : ∀ f, 0 ≤ f → oth M k hk f ≠ 0 → φ' f = φ f ∧ D2' f.toNat = D2 f.toNat) (fr : Fr (rwr rm gR M[k].2.1) w w') : BS X w0 E w' A D L rm gR nx' D2' (M.set k (M[k].1, M[k].2.1, P')) φ' v1 v2 cs ds ∧ ∀ i, X i → w'.heap[i]? = w.heap[i]? :=
  h.stepD (h.bv.dl.turn hk r ht hφ fr) (fr.mono (fun _ _ hi => rwr_down hk hi)) (fun i hi => .inl (down_set hk P' i hi))

/-- A block that belongs to neither side turned. -/
theorem BV.other {F : Nat → Prop} (h : BV F E w A D L rm gR nx D2 M φ) {r : Option Nat} (g : w.grownBy w' r) (hA : ∀ i, r = some i → ¬ aown E A L i ∧ ¬ down rm gR M i ∧ i ≠ E.b ∧ i ≠ E.bm ∧ ∀ x ∈ L, i ≠ x.1) : BV F E w' A D L rm gR nx D2 M φ := by
  have st := h.al.st
  have hk : ∀ i, i < w.heap.size → r ≠ some i → w'.heap[i]? = w.heap[i]? := fun i hi hn => g.block i hi (fun e => hn e.symm)
  exact ⟨h.al.hold (fun i hi => hk i (h.al.olt hi) (fun e => (hA i e).1 hi)) (hk _ st.blt (fun e => (hA _ e).2.2.1 rfl)) (hk _ st.mlt (fun e => (hA _ e).2.2.2.1 rfl)) (fun i hi => hk _ (h.al.sp i hi).sp.lt (fun e => (hA _ e).2.2.2.2 _ (List.getElem_mem hi) rfl)), h.dl.keep (fun i hi => hk i (h.dl.lt hi) (fun e => (hA i e).2.1 hi)), h.sep, fun i hi => ⟨Nat.lt_of_lt_of_le (h.fix i hi).1 g.size, (h.fix i hi).2⟩⟩

/-- A block with cells of one's own type is none of the program's fixed ones. -/
theorem BV.apart {F : Nat → Prop} (h : BV F E w A D L rm gR nx D2 M φ) {i : Nat} {cur : Array Value} {T : TypeId} (hc : w.heap[i]? = some (.cells cur T)) (h1 : T ≠ 165) (h2 : T ≠ 168) (h3 : ∀ a n c, cur[0]? ≠ some (.slice a n c)) : i ≠ E.b ∧ i ≠ E.bm ∧ ∀ x ∈ L, i ≠ x.1 := by
  have st := h.al.st
  refine ⟨fun e => ?_, fun e => ?_, fun x hx e => ?_⟩
  · have := st.head; rw [← e, hc] at this; simp at this; exact h1 this.2
  · have := st.mem.head
    rw [← e, cell_of_row w i 0 _ _ _ hc] at this
    exact h3 _ _ _ this
  · obtain ⟨j, hj, rfl⟩ := List.mem_iff_getElem.1 hx
    have := (h.al.sp j hj).sp.head; rw [← e, hc] at this; simp at this; exact h2 this.2

theorem orow_first {base : Nat} {T : TypeId} {v : Value} {n : Nat} {xs : List Value} (h : w.ownsRow base T 1 v n xs) (hp : 0 < n) {g : Nat} (hv : v.ownBlock = some g) : ∃ cur, w.heap[g]? = some (.cells cur T) ∧ cur[0]? = xs[0]? := by
  rcases h.2 with ⟨rfl, _⟩ | ⟨g', cap, cur, e, hN, hg, h1, h2, h3, h4⟩
  · cases hv
  · rw [e] at hv; cases hv
    refine ⟨cur, hg, ?_⟩
    rw [← Array.getElem?_toList, ← h4, Nat.mul_one, List.getElem?_take, if_pos hp]

/-- One more in the first list. -/
theorem BS.push1 (h : BS X w0 E w A D L rm gR nx D2 M φ v1 v2 cs ds) (hp : 0 < cs.length) (hX : ∀ i, X i → ∀ c, w.heap[i]? ≠ some (.cells c 107)) {c : Nat} (hg : w.grownBy w' v1.ownBlock) (hr : w'.ownsRow w0.heap.size 107 1 v' (cs.length + 1) (cs.map vp ++ [vp c])) (hv : v'.ownBlock = v1.ownBlock ∨ v'.ownBlock = some w.heap.size) : BS X w0 E w' A D L rm gR nx D2 M φ v' v2 (cs ++ [c]) ds ∧ ∀ i, X i → w'.heap[i]? = w.heap[i]? := by
  have hk : ∀ i, i < w.heap.size → v1.ownBlock ≠ some i → w'.heap[i]? = w.heap[i]? := fun i hi hn => hg.block i hi (fun e => hn e.symm)
  have hA : ∀ i, v1.ownBlock = some i → ¬ aown E A L i ∧ ¬ down rm gR M i ∧ i ≠ E.b ∧ i ≠ E.bm ∧ ∀ x ∈ L, i ≠ x.1 := fun i hi => by
    have h1 := h.bv.fix i (.inr (.inl hi))
    obtain ⟨cur, hc, h0⟩ := orow_first h.r1 hp hi
    refine ⟨h1.2.1, h1.2.2, h.bv.apart hc (by decide) (by decide) (fun a n c e => ?_)⟩
    rw [h0, List.getElem?_map] at e
    cases e2 : cs[0]? with
    | none => rw [e2] at e; cases e
    | some y => rw [e2] at e; cases e
  have hsz := h.bel.size
  have n2 : ∀ i, v2.ownBlock = some i → v1.ownBlock ≠ some i := fun i hi e => by
    obtain ⟨_, c1, e1⟩ := orow_block h.r1 e
    obtain ⟨_, c2, e2⟩ := orow_block h.r2 hi
    rw [e1] at e2; simp at e2
  have nX : ∀ i, X i → v1.ownBlock ≠ some i := fun i hi e => by
    obtain ⟨_, c1, e1⟩ := orow_block h.r1 e
    exact hX i hi c1 e1
  have fx : ∀ i, X i → i < w.heap.size := fun i hi => (h.bv.fix i (.inr (.inr (.inr hi)))).1
  refine ⟨⟨(h.bv.other hg hA).fixed (fun i hi => ?_), ⟨hg.os.trans h.bel.os, hg.tape.trans h.bel.tape, hg.output.trans h.bel.output, Nat.le_trans hsz hg.size, fun i hi => (hk i (by omega) (fun e => by have := (orow_block h.r1 e).1; omega)).trans (h.bel.block i hi)⟩, ?_, orow_keep h.r2 (fun g hg' hl => hk g hl (n2 g hg'))⟩, fun i hi => hk i (fx i hi) (nX i hi)⟩
  · rcases hi with hi | hi | hi | hi
    · exact .inl (.inl hi)
    · rcases hv with e | e
      · exact .inl (.inr (.inl (by rw [← e]; exact hi)))
      · rw [hi] at e; cases e
        refine .inr ⟨?_, fun ho => by have := h.bv.al.olt ho; omega, fun hd => by have := h.bv.dl.lt hd; omega⟩
        obtain ⟨_, cur, hc⟩ := orow_block hr hi
        exact lt_of_heap hc
    · exact .inl (.inr (.inr (.inl hi)))
    · exact .inl (.inr (.inr (.inr hi)))
  · rw [List.length_append, List.map_append]; exact hr

/-- One more in the second list. -/
theorem BS.push2 (h : BS X w0 E w A D L rm gR nx D2 M φ v1 v2 cs ds) (hp : 0 < ds.length) (hX : ∀ i, X i → ∀ c, w.heap[i]? ≠ some (.cells c 114)) {c : Nat} (hg : w.grownBy w' v2.ownBlock) (hr : w'.ownsRow w0.heap.size 114 1 v' (ds.length + 1) (ds.map (fun g => .map (some g)) ++ [.map (some c)])) (hv : v'.ownBlock = v2.ownBlock ∨ v'.ownBlock = some w.heap.size) : BS X w0 E w' A D L rm gR nx D2 M φ v1 v' cs (ds ++ [c]) ∧ ∀ i, X i → w'.heap[i]? = w.heap[i]? := by
  have hk : ∀ i, i < w.heap.size → v2.ownBlock ≠ some i → w'.heap[i]? = w.heap[i]? := fun i hi hn => hg.block i hi (fun e => hn e.symm)
  have hA : ∀ i, v2.ownBlock = some i → ¬ aown E A L i ∧ ¬ down rm gR M i ∧ i ≠ E.b ∧ i ≠ E.bm ∧ ∀ x ∈ L, i ≠ x.1 := fun i hi => by
    have h1 := h.bv.fix i (.inr (.inr (.inl hi)))
    obtain ⟨cur, hc, h0⟩ := orow_first h.r2 hp hi
    refine ⟨h1.2.1, h1.2.2, h.bv.apart hc (by decide) (by decide) (fun a n c e => ?_)⟩
    rw [h0, List.getElem?_map] at e
    cases e2 : ds[0]? with
    | none => rw [e2] at e; cases e
    | some y => rw [e2] at e; cases e
  have hsz := h.bel.size
  have n2 : ∀ i, v1.ownBlock = some i → v2.ownBlock ≠ some i := fun i hi e => by
    obtain ⟨_, c1, e1⟩ := orow_block h.r2 e
    obtain ⟨_, c2, e2⟩ := orow_block h.r1 hi
    rw [e1] at e2; simp at e2
  have nX : ∀ i, X i → v2.ownBlock ≠ some i := fun i hi e => by
    obtain ⟨_, c1, e1⟩ := orow_block h.r2 e
    exact hX i hi c1 e1
  have fx : ∀ i, X i → i < w.heap.size := fun i hi => (h.bv.fix i (.inr (.inr (.inr hi)))).1
  refine ⟨⟨(h.bv.other hg hA).fixed (fun i hi => ?_), ⟨hg.os.trans h.bel.os, hg.tape.trans h.bel.tape, hg.output.trans h.bel.output, Nat.le_trans hsz hg.size, fun i hi => (hk i (by omega) (fun e => by have := (orow_block h.r2 e).1; omega)).trans (h.bel.block i hi)⟩, orow_keep h.r1 (fun g hg' hl => hk g hl (n2 g hg')), ?_⟩, fun i hi => hk i (fx i hi) (nX i hi)⟩
  · rcases hi with hi | hi | hi | hi
    · exact .inl (.inl hi)
    · exact .inl (.inr (.inl hi))
    · rcases hv with e | e
      · exact .inl (.inr (.inr (.inl (by rw [← e]; exact hi))))
      · rw [hi] at e; cases e
        refine .inr ⟨?_, fun ho => by have := h.bv.al.olt ho; omega, fun hd => by have := h.bv.dl.lt hd; omega⟩
        obtain ⟨_, cur, hc⟩ := orow_block hr hi
        exact lt_of_heap hc
    · exact .inl (.inr (.inr (.inr hi)))
  · rw [List.length_append, List.map_append]; exact hr
end
end Go.Proofs.YtcllfedpdcjbcaaDoor

namespace Go.Proofs.YtcllfedpdcjbcaaDoor
open Go.RowKit Go.Shelf Go.Lib Go.Sort Go.Maps

/-- Both sides' pages are the same. -/
def Same (L M : List Sq) : Prop := L.map (·.2.2) = M.map (·.2.2)
section
variable {L M : List Sq}
theorem Same.len (h : Same L M) : L.length = M.length := by simpa using congrArg List.length h
theorem Same.at (h : Same L M) {k : Nat} (h1 : k < L.length) (h2 : k < M.length) : L[k].2.2 = M[k].2.2 := by
  have e := congrArg (fun l => l[k]?) h
  simp only [List.getElem?_map, List.getElem?_eq_getElem h1, List.getElem?_eq_getElem h2, Option.map_some] at e
  exact Option.some.inj e
theorem Same.tot (h : Same L M) : totS L = totS M := by
  funext f
  have e := congrArg (fun l => (l.map fun P => sh P f).sum) h
  simp only [List.map_map] at e
  exact e
theorem Same.oth (h : Same L M) {k : Nat} (h1 : k < L.length) (h2 : k < M.length) : oth L k h1 = oth M k h2 := by
  funext f; unfold Proofs.YtcllfedpdcjbcaaDoor.oth; rw [h.tot, h.at h1 h2]
theorem Same.set (h : Same L M) (k : Nat) {x y : Sq} (e : x.2.2 = y.2.2) : Same (L.set k x) (M.set k y) := by
  have h' : L.map (·.2.2) = M.map (·.2.2) := h
  unfold Same; rw [List.map_set, List.map_set, h', e]
theorem Same.app (h : Same L M) {x y : Sq} (e : x.2.2 = y.2.2) : Same (L ++ [x]) (M ++ [y]) := by
  have h' : L.map (·.2.2) = M.map (·.2.2) := h
  unfold Same; simp only [List.map_append, h', List.map_cons, List.map_nil, e]
end

/-- Frames, as they were. -/
theorem sh_frm {P P' : PM} (h : ∀ a, frm P' a = frm P a) (f : Int) : sh P' f = sh P f := by unfold sh; simp only [h]
theorem frm_mapP (P : PM) (a n prot : Int) (x : Int) : frm (mapP P a n prot) x = frm P x := by
  unfold mapP
  by_cases hE : mapE P a n prot = 0
  · rw [if_pos hE]
    unfold mapE at hE
    by_cases h1 : areP a n = false
    · rw [if_pos h1] at hE; omega
    · rw [if_neg h1] at hE
      by_cases h2 : isU prot = false
      · rw [if_pos h2] at hE; omega
      · rw [if_neg h2] at hE
        by_cases h3 : hasP P a n.toNat = 0
        · unfold mapTo
          by_cases hx : a ≤ x ∧ x < a + (n.toNat : Nat)
          · have := hasP_none h3 (x - a).toNat (by omega)
            rw [show a + (((x - a).toNat : Nat) : Int) = x by omega] at this
            rw [frm_none this]; unfold frm; simp only [hx, and_self, if_true]
          · unfold frm; simp only [hx, if_false]
        · rw [if_neg h3] at hE; omega
  · rw [if_neg hE]
theorem frm_proP (P : PM) (a n prot : Int) (x : Int) : frm (proP P a n prot) x = frm P x := by
  unfold proP
  by_cases hE : proE P a n prot = 0
  · rw [if_pos hE]
    unfold proTo frm
    by_cases hx : a ≤ x ∧ x < a + (n.toNat : Nat)
    · simp only [hx, and_self, if_true]; cases P x <;> rfl
    · simp only [hx, if_false]
  · rw [if_neg hE]

/-- Both sides, and an item of the script. -/
structure BI (x : Nat) (xs : Array Value) (w0 : World) (E : St) (w : World) (A : Nat → Prop) (D : Nat → Nat → Int) (L : List Sq) (rm gR nx : Nat) (D2 : Nat → Nat → Int) (M : List Sq) (φ : Int → Int) (v1 v2 : Value) (cs ds : List Nat) : Prop where
  s : BS (· = x) w0 E w A D L rm gR nx D2 M φ v1 v2 cs ds
  item : w.heap[x]? = some (.cells xs 117)

section
variable {x : Nat} {xs : Array Value} {w0 : World} {E : St} {w w' : World} {A : Nat → Prop} {D : Nat → Nat → Int} {L : List Sq} {rm gR nx : Nat} {D2 : Nat → Nat → Int} {M : List Sq} {φ : Int → Int} {v1 v2 : Value} {cs ds : List Nat}

theorem BI.cell (h : BI x xs w0 E w A D L rm gR nx D2 M φ v1 v2 cs ds) (j : Nat) : w.cell? ⟨x, j, none⟩ = xs[j]? := by simp [World.cell?, h.item]
theorem BI.stay (h : BI x xs w0 E w A D L rm gR nx D2 M φ v1 v2 cs ds) (hb : Below w.heap.size w w') : BI x xs w0 E w' A D L rm gR nx D2 M φ v1 v2 cs ds := by
  obtain ⟨s, k⟩ := h.s.stay hb
  exact ⟨s, (k x rfl).trans h.item⟩
theorem BI.turnA (h : BI x xs w0 E w A D L rm gR nx D2 M φ v1 v2 cs ds) {k : Nat} (hk : k < L.length) {P' : PM} {D' : Nat → Nat → Int} (t : STurn E w L[k].1 L[k].2.1 A w' D' P' (oth L k hk)) : ∃ A', BI x xs w0 E w' A' D' (L.set k (L[k].1, L[k].2.1, P')) rm gR nx D2 M φ v1 v2 cs ds := by
  obtain ⟨A', s, kk⟩ := h.s.turnA hk t
  exact ⟨A', s, (kk x rfl).trans h.item⟩
theorem BI.turnD (h : BI x xs w0 E w A D L rm gR nx D2 M φ v1 v2 cs ds) {k : Nat} (hk : k < M.length) {nx' : Nat} {P' : PM} {D2' : Nat → Nat → Int} {φ' : Int → Int} {t' : Int → Nat}
    (r : RF w' rm gR E.n nx' M[k].2.1 P' D2' φ' t') (ht : ∀ f, 0 ≤ f → t' f = sh P' f + oth M k hk f) (hφ : ∀ f, 0 ≤ f → oth M k hk f ≠ 0 → φ' f = φ f ∧ D2' f.toNat = D2 f.toNat) (fr : Fr (rwr rm gR M[k].2.1) w w') : BI x xs w0 E w' A D L rm gR nx' D2' (M.set k (M[k].1, M[k].2.1, P')) φ' v1 v2 cs ds := by
  obtain ⟨s, kk⟩ := h.s.turnD hk r ht hφ fr
  exact ⟨s, (kk x rfl).trans h.item⟩

/- The program's calls. -/
theorem BI.map_A (h : BI x xs w0 E w A D L rm gR nx D2 M φ v1 v2 cs ds) {k : Nat} (hk : k < L.length) (a n prot : Int) (hn : n ≤ 9223372036854775807) : Calls Tryd.prog 60 #[vp L[k].1, .int .i64 a, .int .i64 n, .int .i64 prot] w fun e w' => e = .returned (errV (mapE L[k].2.2 a n prot)) ∧ ∃ A', BI x xs w0 E w' A' D (L.set k (L[k].1, L[k].2.1, mapP L[k].2.2 a n prot)) rm gR nx D2 M φ v1 v2 cs ds := by
  refine ((h.s.bv.al.sp k hk).map_ok a n prot hn).mono ?_
  rintro e w' ⟨rfl, t⟩
  exact ⟨rfl, h.turnA hk t⟩
theorem BI.unmap_A (h : BI x xs w0 E w A D L rm gR nx D2 M φ v1 v2 cs ds) {k : Nat} (hk : k < L.length) (a n : Int) (hn : n ≤ 9223372036854775807) : Calls Tryd.prog 62 #[vp L[k].1, .int .i64 a, .int .i64 n] w fun e w' => e = .returned (errV (unE L[k].2.2 a n)) ∧ ∃ A', BI x xs w0 E w' A' D (L.set k (L[k].1, L[k].2.1, unP L[k].2.2 a n)) rm gR nx D2 M φ v1 v2 cs ds := by
  refine ((h.s.bv.al.sp k hk).unmap_ok a n hn).mono ?_
  rintro e w' ⟨rfl, t⟩
  exact ⟨rfl, h.turnA hk t⟩
theorem BI.protect_A (h : BI x xs w0 E w A D L rm gR nx D2 M φ v1 v2 cs ds) {k : Nat} (hk : k < L.length) (a n prot : Int) (hn : n ≤ 9223372036854775807) : Calls Tryd.prog 63 #[vp L[k].1, .int .i64 a, .int .i64 n, .int .i64 prot] w fun e w' => e = .returned (errV (proE L[k].2.2 a n prot)) ∧ ∃ A', BI x xs w0 E w' A' D (L.set k (L[k].1, L[k].2.1, proP L[k].2.2 a n prot)) rm gR nx D2 M φ v1 v2 cs ds := by
  refine ((h.s.bv.al.sp k hk).protect_ok a n prot hn).mono ?_
  rintro e w' ⟨rfl, t⟩
  exact ⟨rfl, h.turnA hk t⟩
theorem BI.clear_A (h : BI x xs w0 E w A D L rm gR nx D2 M φ v1 v2 cs ds) {k : Nat} (hk : k < L.length) : Calls Tryd.prog 70 #[vp L[k].1] w fun e w' => e = .returned (.tuple #[]) ∧ ∃ A', BI x xs w0 E w' A' D (L.set k (L[k].1, L[k].2.1, fun _ => none)) rm gR nx D2 M φ v1 v2 cs ds := by
  refine ((h.s.bv.al.sp k hk).clear_ok).mono ?_
  rintro e w' ⟨rfl, t⟩
  exact ⟨rfl, h.turnA hk t⟩
theorem BI.store_A (h : BI x xs w0 E w A D L rm gR nx D2 M φ v1 v2 cs ds) {k : Nat} (hk : k < L.length) (a kk v : Int) (ha : (Lit.int .i64 a).wf = true) : Calls Tryd.prog 66 #[vp L[k].1, .int .i64 a, .int .i64 kk, .int .i64 v] w fun e w' => ∃ er P' D', StR E.n L[k].2.2 (oth L k hk) D a kk v er P' D' ∧ e = .returned (errV er) ∧ ∃ A', BI x xs w0 E w' A' D' (L.set k (L[k].1, L[k].2.1, P')) rm gR nx D2 M φ v1 v2 cs ds := by
  refine ((h.s.bv.al.sp k hk).store_ok a kk v ha).mono ?_
  rintro e w' ⟨er, P', D', hs, rfl, t⟩
  exact ⟨er, P', D', hs, rfl, h.turnA hk t⟩
theorem BI.fork_A (h : BI x xs w0 E w A D L rm gR nx D2 M φ v1 v2 cs ds) {k : Nat} (hk : k < L.length) (hl : L.length ≤ 50) : Calls Tryd.prog 68 #[vp L[k].1] w fun e w' => ∃ c', e = .returned (vp c') ∧ ∃ A' gc', BI x xs w0 E w' A' D (L ++ [(c', gc', L[k].2.2)]) rm gR nx D2 M φ v1 v2 cs ds := by
  refine (h.s.bv.al.fork_ok hl hk).mono ?_
  rintro e w' ⟨c', rfl, gc', t, lc⟩
  obtain ⟨A', s, kk⟩ := h.s.stepA t (fun y hy => by
    rcases List.mem_append.1 hy with hy | hy
    · exact .inl ⟨y, hy, rfl⟩
    · simp at hy; subst hy; exact .inr lc)
  exact ⟨c', rfl, A', gc', s, (kk x rfl).trans h.item⟩

/- The document's. -/
theorem BI.map_D (h : BI x xs w0 E w A D L rm gR nx D2 M φ v1 v2 cs ds) {k : Nat} (hk : k < M.length) (a n prot : Int) : Calls Tryd.prog 61 #[.map (some M[k].2.1), vp rm, .int .i64 0, .int .i64 a, .int .i64 n, .int .i64 prot] w fun e w' => e = .returned (.int .i64 (mapE M[k].2.2 a n prot)) ∧ BI x xs w0 E w' A D L rm gR nx D2 (M.set k (M[k].1, M[k].2.1, mapP M[k].2.2 a n prot)) φ v1 v2 cs ds := by
  refine ((h.s.bv.dl.sp k hk).map_ok a n prot).mono ?_
  rintro e w' ⟨rfl, r, fr⟩
  exact ⟨rfl, h.turnD hk r (fun f hf => by rw [sh_frm (frm_mapP _ a n prot), oth_add hk f]) (fun _ _ _ => ⟨rfl, rfl⟩) fr⟩
theorem BI.protect_D (h : BI x xs w0 E w A D L rm gR nx D2 M φ v1 v2 cs ds) {k : Nat} (hk : k < M.length) (a n prot : Int) : Calls Tryd.prog 61 #[.map (some M[k].2.1), vp rm, .int .i64 2, .int .i64 a, .int .i64 n, .int .i64 prot] w fun e w' => e = .returned (.int .i64 (proE M[k].2.2 a n prot)) ∧ BI x xs w0 E w' A D L rm gR nx D2 (M.set k (M[k].1, M[k].2.1, proP M[k].2.2 a n prot)) φ v1 v2 cs ds := by
  refine ((h.s.bv.dl.sp k hk).protect_ok a n prot).mono ?_
  rintro e w' ⟨rfl, r, fr⟩
  exact ⟨rfl, h.turnD hk r (fun f hf => by rw [sh_frm (frm_proP _ a n prot), oth_add hk f]) (fun _ _ _ => ⟨rfl, rfl⟩) fr⟩
theorem BI.unmap_D (h : BI x xs w0 E w A D L rm gR nx D2 M φ v1 v2 cs ds) {k : Nat} (hk : k < M.length) (a n : Int) : Calls Tryd.prog 61 #[.map (some M[k].2.1), vp rm, .int .i64 1, .int .i64 a, .int .i64 n, .int .i64 0] w fun e w' => e = .returned (.int .i64 (unE M[k].2.2 a n)) ∧ BI x xs w0 E w' A D L rm gR nx D2 (M.set k (M[k].1, M[k].2.1, unP M[k].2.2 a n)) φ v1 v2 cs ds := by
  refine ((h.s.bv.dl.sp k hk).unmap_ok a n).mono ?_
  rintro e w' ⟨rfl, t', r, ht, fr⟩
  exact ⟨rfl, h.turnD hk r (fun f hf => by have h1 := ht f hf; have h2 := oth_add hk f; omega) (fun _ _ _ => ⟨rfl, rfl⟩) fr⟩
theorem BI.clear_D (h : BI x xs w0 E w A D L rm gR nx D2 M φ v1 v2 cs ds) {k : Nat} (hk : k < M.length) : Calls Tryd.prog 71 #[.map (some M[k].2.1), vp rm] w fun e w' => e = .returned (.tuple #[]) ∧ BI x xs w0 E w' A D L rm gR nx D2 (M.set k (M[k].1, M[k].2.1, fun _ => none)) φ v1 v2 cs ds := by
  refine ((h.s.bv.dl.sp k hk).clear_ok).mono ?_
  rintro e w' ⟨rfl, ⟨t', r, ht⟩, fr⟩
  exact ⟨rfl, h.turnD hk r (fun f hf => by have h1 := ht f hf; have h2 := oth_add hk f; rw [sh_empty hf]; omega) (fun _ _ _ => ⟨rfl, rfl⟩) fr⟩
theorem BI.store_D (h : BI x xs w0 E w A D L rm gR nx D2 M φ v1 v2 cs ds) {k : Nat} (hk : k < M.length) (a kk v : Int) (ha : (Lit.int .i64 a).wf = true) (hnx : nx < 900) {er : Int} {P' : PM} {D' : Nat → Nat → Int} (hst : StR E.n M[k].2.2 (oth M k hk) D2 a kk v er P' D') : Calls Tryd.prog 67 #[.map (some M[k].2.1), vp rm, .int .i64 a, .int .i64 kk, .int .i64 v] w fun e w' => e = .returned (.int .i64 er) ∧ ∃ nx' φ', nx' ≤ nx + 1 ∧ BI x xs w0 E w' A D L rm gR nx' D' (M.set k (M[k].1, M[k].2.1, P')) φ' v1 v2 cs ds := by
  refine ((h.s.bv.dl.sp k hk).store_ok (o := oth M k hk) (fun f _ => (oth_add hk f).symm) a kk v ha hnx hst).mono ?_
  rintro e w' ⟨rfl, nx', φ', t', h1, r, ht, hφ, fr⟩
  exact ⟨rfl, nx', φ', h1, h.turnD hk r ht hφ fr⟩
theorem BI.fork_D (h : BI x xs w0 E w A D L rm gR nx D2 M φ v1 v2 cs ds) {k : Nat} (hk : k < M.length) (hb : ∀ f, 0 ≤ f → totS M f + sh M[k].2.2 f ≤ 1000) : Calls Tryd.prog 69 #[.map (some M[k].2.1), vp rm] w fun e w' => ∃ g', e = .returned (.map (some g')) ∧ BI x xs w0 E w' A D L rm gR nx D2 (M ++ [(0, g', M[k].2.2)]) φ v1 v2 cs ds := by
  refine ((h.s.bv.dl.sp k hk).fork_ok hb).mono ?_
  rintro e w' ⟨rfl, r1, r2, fr⟩
  obtain ⟨s, kk⟩ := h.s.stepD (h.s.bv.dl.forked hk r1 r2 fr) (fr.mono (fun i _ hi => .inr (.inl hi))) (fun i hi => (down_app i hi).imp id (fun e => by omega))
  exact ⟨w.heap.size, rfl, s, (kk x rfl).trans h.item⟩
/-- How many frames are left, both tell alike. -/
theorem BS.left_D {X : Nat → Prop} (h : BS X w0 E w A D L rm gR nx D2 M φ v1 v2 cs ds) (hs : Same L M) : Calls Tryd.prog 76 #[vp rm] w fun e w' => e = .returned (.int .i64 ((E.n - used (totS L) E.n : Nat) : Int)) ∧ ∃ q, w' = w.drewN q := by
  obtain ⟨Rr, s, m, r⟩ := h.bv.dl.mem
  have hn := (h.bv.dl.sp 0 h.bv.dl.pos).n256
  have hle := used_le (totS M) E.n
  rw [hs.tot, ← r.size]
  exact m.left (by rw [r.size]; exact hle) hn
end
end Go.Proofs.YtcllfedpdcjbcaaDoor
