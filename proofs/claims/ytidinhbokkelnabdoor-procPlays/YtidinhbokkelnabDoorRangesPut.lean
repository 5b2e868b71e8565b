/- A loop over a map that is keyed by int, and a key of it that gets another element on the way. -/
import Derived.Test.YtidinhbokkelnabDoorRanges
import Derived.ChangeMaps5
namespace Go.Proofs.YtidinhbokkelnabDoor
open Go.RowKit Go.Maps Go.ChangeMaps Go.WideElems

theorem left_born (a : Array MapEntry) (seen : Array Nat) : (leftOf a seen).size = ((a.toList.map (·.born)).filter fun z => !seen.contains z).length := by
  unfold leftOf
  rw [← Array.length_toList, Array.toList_filter, List.filter_map, List.length_map]
  rfl
theorem set_born {l : List MapEntry} {j : Nat} {e x : MapEntry} (h : l[j]? = some e) (hx : x.born = e.born) : (l.set j x).map (·.born) = l.map (·.born) := by
  obtain ⟨hj, rfl⟩ := List.getElem?_eq_some_iff.1 h
  rw [List.map_set, hx, show l[j].born = (l.map (·.born))[j]'(by simpa using hj) by simp, List.set_getElem_self]

section
variable {H : Type} {P : Program} {k t e : TypeId} {R : Value → Option (DataW H × List MemPlace)} {w : World} {b r n cnt : Nat} {D : DataW H} {left : Lit → Bool}
/-- A store at a key that is there: what is still to come stays. -/
theorem ranges_put (h : w.ranges P k R b r n D left cnt) (K : Keyed P k) (ht : P.underlying t = some (.map k e)) (hn : n < maxLen) {key val : Value} {kl : Lit} (hk : keyOf P k key = some kl) {d : DataW H} {ps : List MemPlace} (hv : R val = some (d, ps)) (hin : Maps.has D kl = true) :
    ∃ w', (Instr.mapUpdate t (.map (some b)) key val).run P w = .ok () w' ∧ w'.ranges P k R b r n (D.put kl d) left cnt ∧ w.grownBy w' (some b) := by
  obtain ⟨w1, hr1, pm, hg⟩ := h.owns.update K ht hn hk hv
  have hne := h.ne
  obtain ⟨es, clock, since, seen, c0, hb, F, hs, hD, hi, hold, hc, hl1, hl2, hsc, hsk⟩ := h
  refine ⟨w1, hr1, ?_, hg⟩
  rcases K.find w hk es.toList F.keys with ⟨f1, f2⟩ | ⟨j, e0, f1, f2, f3⟩
  · exfalso
    rw [hD] at hin
    obtain ⟨p, hp, hpk⟩ := List.any_eq_true.1 hin
    obtain ⟨x, hx, rfl⟩ := List.mem_map.1 (mem_sorted.1 hp)
    obtain ⟨y, hy⟩ := F.reads x hx
    have e1 := WideAt.sameKey_eq hpk
    rw [rg_of hy] at e1
    exact f2 x hx (K.inj (e1 ▸ rd_key hy) hk)
  · have hj : es[j]? = some e0 := by simpa using f2
    have hlist : (es.modify j (fun e' => { e' with key := key, val := val })).toList = es.toList.set j { e0 with key := key, val := val } := by rw [Array.toList_modify, modify_eq_set _ _ _ _ f2]
    have hrun2 : (Instr.mapUpdate t (.map (some b)) key val).run P w = .ok () (setBlock w b (.map (es.modify j (fun e' => { e' with key := key, val := val })) clock)) := by
      simp [Instr.mapUpdate, run_underlying ht, MapKept.run_getObj_map hb, K.check w false hk, f1, hj, f3, K.stays w hk, MapKept.run_setObj_map _ hb, Result.andThen, setBlock]
    have ew : w1 = setBlock w b (.map (es.modify j (fun e' => { e' with key := key, val := val })) clock) := by
      rw [hr1] at hrun2; cases hrun2; rfl
    subst ew
    obtain ⟨es2, clock2, hb2, F2, hs2, hD2⟩ := pm
    rw [heap_setBlock_same hb] at hb2
    cases hb2
    have who : ∀ x ∈ es.toList.set j { e0 with key := key, val := val }, ∃ y ∈ es.toList, y.born = x.born ∧ y.key = x.key := by
      intro x hx
      obtain ⟨i, hi', ex⟩ := List.getElem_of_mem hx
      rw [List.getElem_set] at ex
      split at ex
      · subst ex
        exact ⟨e0, List.mem_of_getElem? f2, rfl, f3⟩
      · exact ⟨x, ex ▸ List.getElem_mem _, rfl, rfl⟩
    have who2 : ∀ y ∈ es.toList, ∃ x ∈ es.toList.set j { e0 with key := key, val := val }, y.born = x.born ∧ y.key = x.key := by
      intro y hy
      obtain ⟨i, hi', ex⟩ := List.getElem_of_mem hy
      by_cases e : j = i
      · subst e
        have : e0 = y := by
          rw [List.getElem?_eq_getElem hi'] at f2
          exact (Option.some.inj f2).symm.trans ex
        subst this
        exact ⟨{ e0 with key := key, val := val }, List.mem_iff_getElem.2 ⟨j, by simpa using hi', by rw [List.getElem_set_self]⟩, rfl, f3⟩
      · exact ⟨y, List.mem_iff_getElem.2 ⟨i, by simpa using hi', by rw [List.getElem_set_ne e]; exact ex⟩, rfl, rfl⟩
    have hkk : ∀ x ∈ es.toList.set j { e0 with key := key, val := val }, ∀ y ∈ es.toList, y.key = x.key → (rg P k R x).1 = (rg P k R y).1 := by
      intro x hx y hy e
      obtain ⟨z, hz⟩ := F2.reads x (by rw [hlist]; exact hx)
      obtain ⟨z2, hz2⟩ := F.reads y hy
      have m1 := rd_key hz
      have m2 := rd_key hz2
      rw [e, m1] at m2
      rw [rg_of hz, rg_of hz2]
      exact Option.some.inj m2
    refine ⟨_, clock, since, seen, c0, heap_setBlock_same hb _, F2, by simpa using hs, hD2, (heap_setBlock_other hb _ hne).trans hi, fun x hx => ?_, ?_, fun x hx => ?_, fun kl hkl => ?_, hsc, hsk⟩
    · rw [hlist] at hx
      obtain ⟨y, hy, e1, _⟩ := who x hx
      rw [← e1]; exact hold y hy
    · rw [left_born, hlist, set_born f2 (x := { e0 with key := key, val := val }) rfl, ← left_born]; exact hc
    · rw [hlist] at hx
      obtain ⟨y, hy, e1, e2⟩ := who x hx
      rw [hkk x hx y hy e2, hl1 y hy, e1]
    · obtain ⟨y, hy, e1⟩ := hl2 kl hkl
      obtain ⟨x, hx, _, e3⟩ := who2 y hy
      exact ⟨x, by rw [hlist]; exact hx, by rw [hkk x hx y hy e3]; exact e1⟩
end
section
variable {w : World} {g r s cnt : Nat} {M : Int → Option Value} {todo : Int → Bool} {t e : TypeId}
theorem PRng.put (h : PRng w g r s M todo cnt) (ht : Tryd.prog.underlying t = some (.map 3 e)) (hn : s < maxLen) (a : Int) (ha : (Lit.int .i64 a).wf = true) (hin : (M a).isSome = true) (v : Value) :
    ∃ w', (Instr.mapUpdate t (.map (some g)) (.int .i64 a) v).run Tryd.prog w = .ok () w' ∧ PRng w' g r s (fun i => if i = a then some v else M i) todo cnt ∧ w.grownBy w' (some g) := by
  have hk := keyOf_int_mk Tryd.underlying3 ha
  obtain ⟨D, left, hr, h1, h2, h3, h4⟩ := h
  obtain ⟨w', hrun, r1, r2⟩ := ranges_put hr keyedInt ht hn hk (val := v) (d := .held v) (ps := []) rfl ((h2 a).trans hin)
  have hsz := size_put (k := .int .i64 a) (hr.owns.tidy keyedInt) (DataW.held v)
  rw [h2 a, h1, hin] at hsz
  refine ⟨w', hrun, ⟨_, left, r1, hsz, fun i => ?_, fun i z => ?_, h4⟩, r2⟩
  · by_cases e : i = a
    · subst e; rw [has_put_same hr.owns.isMap (keyedInt.key hk)]; simp
    · rw [has_put_other (by simpa using e), h2 i]; simp [e]
  · by_cases e : i = a
    · subst e
      rw [atKey_put_same hr.owns.isMap (keyedInt.key hk)]; simp
    · rw [atKey_put_other (by simpa using e), h3 i]; simp [e]
end
end Go.Proofs.YtidinhbokkelnabDoor
