/- Lists of candidates in memory of their own. -/
import Derived.Test.YtgbdoeopgdhgoacORef
import Derived.Maps.AppendAt
import Derived.Maps.Range
namespace Go.Proofs.Ytgbdoeopgdhgoac
open Go.RowKit

/-- A candidate's three cells. -/
def ce (c : Cd) : List Value := [.int .i64 c.pid, .int .i64 c.res, .int .i64 c.adj]
def ccl (L : List Cd) : List Value := L.flatMap ce
/-- A list of candidates that lies in memory of its own, at N or beyond. -/
def CL (w : World) (N : Nat) (t : TypeId) (v : Value) (L : List Cd) : Prop := w.ownsRow N t 3 v L.length (ccl L)
theorem ccl_one (L : List Cd) : ∀ u ∈ ccl L, u.oneCell' = true := by
  intro u hu
  obtain ⟨x, _, hx⟩ := List.mem_flatMap.1 hu
  simp only [ce, List.mem_cons, List.not_mem_nil, or_false] at hx
  rcases hx with rfl | rfl | rfl <;> rfl
theorem ccl_len (L : List Cd) : (ccl L).length = L.length * 3 := by
  induction L with
  | nil => rfl
  | cons a l ih => simp only [ccl, List.flatMap_cons, List.length_append, List.length_cons] at *; simp only [ce, List.length_cons, List.length_nil]; omega
theorem ccl_app (L M : List Cd) : ccl (L ++ M) = ccl L ++ ccl M := by simp [ccl]
theorem ccl_get : ∀ (L : List Cd) (j : Nat) (x : Cd), L[j]? = some x → (ccl L)[j * 3]? = some (.int .i64 x.pid) ∧ (ccl L)[j * 3 + 1]? = some (.int .i64 x.res) ∧ (ccl L)[j * 3 + 2]? = some (.int .i64 x.adj)
  | [], j, x, h => by simp at h
  | a :: l, 0, x, h => by simp at h; subst h; exact ⟨rfl, rfl, rfl⟩
  | a :: l, j + 1, x, h => by
    have ih := ccl_get l j x (by simpa using h)
    have e : ccl (a :: l) = .int .i64 a.pid :: .int .i64 a.res :: .int .i64 a.adj :: ccl l := rfl
    rw [e, show (j + 1) * 3 = j * 3 + 1 + 1 + 1 by omega, show j * 3 + 1 + 1 + 1 + 1 = (j * 3 + 1) + 1 + 1 + 1 by omega, show j * 3 + 1 + 1 + 1 + 2 = (j * 3 + 2) + 1 + 1 + 1 by omega]
    simpa using ih
theorem CL.cds {w : World} {N : Nat} {t : TypeId} {v : Value} {L : List Cd} (h : CL w N t v L) : ∃ ad cap, v = .slice ad L.length cap ∧ L.length ≤ cap ∧ Cds w ad L := by
  rcases h.2 with ⟨rfl, h0⟩ | ⟨g, cap, cur, rfl, hb, hg, hcap, hml, hsz, htake⟩
  · exact ⟨none, 0, by rw [h0], by omega, .inl (List.eq_nil_of_length_eq_zero h0)⟩
  · refine ⟨_, cap, rfl, hcap, .inr ⟨g, 0, rfl, ?_, fun i hi => ?_⟩⟩
    · by_cases e : g < w.heap.size
      · exact e
      · rw [Array.getElem?_eq_none (by omega)] at hg; cases hg
    · have hc : ∀ j u, (ccl L)[j]? = some u → w.cell? ⟨g, j, none⟩ = some u := by
        intro j u hu
        have hj : j < L.length * 3 := by have := (List.getElem?_eq_some_iff.1 hu).1; rwa [ccl_len] at this
        have : cur.toList[j]? = some u := by rw [← hu, ← htake, List.getElem?_take, if_pos hj]
        simp [World.cell?, hg]
        simpa using this
      have hr := ccl_get L i L[i] (by simp [hi])
      rw [show 0 + i * 3 = i * 3 by omega]
      exact ⟨hc _ _ hr.1, hc _ _ hr.2.1, hc _ _ hr.2.2⟩
end Go.Proofs.Ytgbdoeopgdhgoac
