/- Lists of asks in memory of their own, and appends to them. -/
import Derived.Test.YtfejiehkpikieaaDoorRefAcct
import Derived.Test.YtfejiehkpikieaaDoorCharged
import Derived.Maps.AppendAt
import Derived.Maps.Range
import Derived.Deep.Upon
namespace Go.Proofs.YtfejiehkpikieaaDoor
open Go.RowKit

/-- An ask's two cells. -/
def pe (x : Want) : List Value := [.int .i64 x.kind, .int .i64 x.n]
/-- A list of asks, cell by cell. -/
def pcl (L : List Want) : List Value := L.flatMap pe
/-- A list of asks that lies in memory of its own, at N or beyond. -/
def PL (w : World) (N : Nat) (t : TypeId) (v : Value) (L : List Want) : Prop := w.ownsRow N t 2 v L.length (pcl L)

theorem pe_one (x : Want) : ∀ v ∈ pe x, v.oneCell' = true := by
  intro v hv; simp only [pe, List.mem_cons, List.not_mem_nil, or_false] at hv; rcases hv with rfl | rfl <;> rfl
theorem pcl_one (L : List Want) : ∀ u ∈ pcl L, u.oneCell' = true := by
  intro u hu
  obtain ⟨x, _, hx⟩ := List.mem_flatMap.1 hu
  exact pe_one x u hx
theorem pcl_len (L : List Want) : (pcl L).length = L.length * 2 := by
  induction L with
  | nil => rfl
  | cons a l ih => simp only [pcl, List.flatMap_cons, List.length_append, List.length_cons] at *; simp only [pe, List.length_cons, List.length_nil]; omega
theorem pcl_app (L M : List Want) : pcl (L ++ M) = pcl L ++ pcl M := by simp [pcl]
theorem pcl_get : ∀ (L : List Want) (j : Nat) (x : Want), L[j]? = some x → (pcl L)[j * 2]? = some (.int .i64 x.kind) ∧ (pcl L)[j * 2 + 1]? = some (.int .i64 x.n)
  | [], j, x, h => by simp at h
  | a :: l, 0, x, h => by simp at h; subst h; exact ⟨rfl, rfl⟩
  | a :: l, j + 1, x, h => by
    have ih := pcl_get l j x (by simpa using h)
    have e : pcl (a :: l) = .int .i64 a.kind :: .int .i64 a.n :: pcl l := rfl
    rw [e, show (j + 1) * 2 = j * 2 + 1 + 1 by omega, show j * 2 + 1 + 1 + 1 = (j * 2 + 1) + 1 + 1 by omega]
    simpa using ih

/-- A list as asks by number. -/
def nth (L : List Want) (i : Nat) : Want := L.getD i ⟨0, 0⟩

theorem PL.asks {w : World} {N : Nat} {t : TypeId} {v : Value} {L : List Want} (h : PL w N t v L) : ∃ ad cap, v = .slice ad L.length cap ∧ Asks w ad L.length (nth L) := by
  rcases h.2 with ⟨rfl, h0⟩ | ⟨g, cap, cur, rfl, hb, hg, hcap, hml, hsz, htake⟩
  · exact ⟨none, 0, by rw [h0], .inl h0⟩
  · refine ⟨_, cap, rfl, .inr ⟨g, 0, rfl, ?_, fun i hi => ?_⟩⟩
    · by_cases e : g < w.heap.size
      · exact e
      · rw [Array.getElem?_eq_none (by omega)] at hg; cases hg
    · have hc : ∀ j u, (pcl L)[j]? = some u → w.cell? ⟨g, j, none⟩ = some u := by
        intro j u hu
        have hj : j < L.length * 2 := by have := (List.getElem?_eq_some_iff.1 hu).1; rwa [pcl_len] at this
        have : cur.toList[j]? = some u := by rw [← hu, ← htake, List.getElem?_take, if_pos hj]
        simp [World.cell?, hg]
        simpa using this
      have hr := pcl_get L i L[i] (by simp [hi])
      have e : nth L i = L[i] := by simp [nth, hi]
      rw [e]
      refine ⟨?_, ?_⟩
      · rw [show 0 + i * 2 = i * 2 by omega]; exact hc _ _ hr.1
      · rw [show 0 + i * 2 + 1 = i * 2 + 1 by omega]; exact hc _ _ hr.2

/-- The first k asks of an array, as a list. -/
def upto (q : Nat → Want) (k : Nat) : List Want := (List.range k).map q
theorem upto_len (q : Nat → Want) (k : Nat) : (upto q k).length = k := by simp [upto]
theorem upto_next (q : Nat → Want) (k : Nat) : upto q k ++ [q k] = upto q (k + 1) := by simp [upto, List.range_succ]

/-- The cells of an array's first k asks. -/
theorem Asks.cells {w : World} {blk off len : Nat} {q : Nat → Want} (h : ∀ i, i < len → w.cell? ⟨blk, off + i * 2, none⟩ = some (.int .i64 (q i).kind) ∧ w.cell? ⟨blk, off + i * 2 + 1, none⟩ = some (.int .i64 (q i).n)) {k : Nat} (hk : k ≤ len) :
    ∀ j u, (pcl (upto q k))[j]? = some u → w.cell? ((⟨blk, off, none⟩ : Addr).add j) = some u := by
  intro j u hu
  have hj : j < k * 2 := by have := (List.getElem?_eq_some_iff.1 hu).1; rwa [pcl_len, upto_len] at this
  have hg := pcl_get (upto q k) (j / 2) (q (j / 2)) (by rw [upto, List.getElem?_map, List.getElem?_range (by omega)]; rfl)
  have hc := h (j / 2) (by omega)
  rw [Addr.add_lit]
  rcases Nat.mod_two_eq_zero_or_one j with h0 | h0
  · have e : j = j / 2 * 2 := by omega
    rw [e] at hu ⊢
    rw [hg.1] at hu
    cases hu
    exact hc.1
  · have e : j = j / 2 * 2 + 1 := by omega
    rw [e] at hu ⊢
    rw [hg.2] at hu
    cases hu
    rw [show off + (j / 2 * 2 + 1) = off + j / 2 * 2 + 1 by omega]
    exact hc.2

/-- What is to be appended: an array's first m asks, or nothing at all. -/
def Source (w : World) (oa : Option Addr) (m : Nat) (news : List Value) : Prop :=
  (oa = none ∧ m = 0 ∧ news = []) ∨ ∃ ad, oa = some ad ∧ ∀ j u, news[j]? = some u → w.cell? (ad.add j) = some u

/-- append onto a list of one's own, inside a region that draws, of whatever came in. -/
theorem step_append_from {P : Program} {ops : Array Oper} {o : Oper} {a : Act} {w : World} {K : Act → World → Prop} {Q : Exit → Act → World → Prop} {E : Prop}
    (hg : o.guard = none) (s x : Operand) (t : TypeId) (hop : o.op = Op.call { callee := Callee.builtin Builtin.append, args := #[s, x], argTypes := #[t, t] })
    (base : Nat) (e : TypeId) (i : TypeInfo) (z : Value) (size bytes : Nat) (h1 : P.underlying t = some (.slice e)) (h2 : P.info? e = some i) (h3 : i.zero = some z) (h4 : i.size = size) (h5 : i.bytes = bytes) (h6 : z.cells.size = size) (h7 : 0 < size)
    (v : Value) (n : Nat) (xs : List Value) (hs : a.eval s = v) (hown : w.ownsRow base e size v n xs)
    (oa : Option Addr) (m c : Nat) (news : List Value) (hx : a.eval x = .slice oa m c) (hn : news.length = m * size) (hc : Source w oa m news) (h1c : ∀ u ∈ news, u.oneCell' = true)
    (b1 : n + m ≤ maxLen) (b2 : (n + m) * bytes ≤ 140737488355328) (hbase : base ≤ w.heap.size)
    (hK : ∀ v' w', w'.ownsRow base e size v' (n + m) (xs ++ news) → w.grownBy w' v.ownBlock → (v'.ownBlock = v.ownBlock ∨ v'.ownBlock = some w.heap.size) → K (a.put o.dst v') w') :
    if Region.wanted o (yielded ops a.tmps) = true then Oper.wp P o a w K Q else E := by
  have hw : Region.wanted o (yielded ops a.tmps) = true := by simp [Region.wanted, hg]
  rw [if_pos hw]
  rcases hc with ⟨rfl, rfl, rfl⟩ | ⟨ad, rfl, hc⟩
  · have hrun : (Builtin.append_ #[t, t] o.type #[v, .slice none 0 c]).run P w = .ok v w := by
      rcases hown.2 with ⟨rfl, _⟩ | ⟨g, cap, cur, rfl, _, _, hcap, _⟩
      · exact run_append_nothing w t t o.type e i h1 h2 none 0 0 (Nat.le_refl _) _ (Src.ofNil w h1 c)
      · exact run_append_nothing w t t o.type e i h1 h2 (some ⟨g, 0, none⟩) n cap hcap _ (Src.ofNil w h1 c)
    unfold Oper.wp
    simp [execOp, hop, resolve, invoke, builtin, hs, hx, hrun, Result.andThen]
    exact hK v w (by simpa using hown) ⟨rfl, rfl, rfl, Nat.le_refl _, fun _ _ _ => rfl⟩ (.inl rfl)
  · obtain ⟨v', w', hrun, r1, r2, _, r4⟩ := run_append_own_at (P := P) w base t o.type e i z size bytes h1 h2 h3 h4 h5 h6 h7 v n xs hown ad m c news hn hc h1c b1 b2 hbase
    unfold Oper.wp
    simp [execOp, hop, resolve, invoke, builtin, hs, hx, hrun, Result.andThen]
    exact hK v' w' r1 r2 r4
end Go.Proofs.YtfejiehkpikieaaDoor
