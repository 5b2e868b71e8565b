/- The document's Free, by its Go text. -/
import Derived.Test.YthknommfnajeiaaDoorRef
namespace Go.Proofs.YthknommfnajeiaaDoor
open Go.RowKit Go.Shelf Go.Lib Go.Sort

theorem scan_at (U : Nat → Bool) (n g f : Nat) (hf : f < n) (hg : 0 < g) : scan U n g f = if U f then (f, ordr U f 6) :: scan U n (g - 1) (f + 2 ^ ordr U f 6) else scan U n (g - 1) (f + 1) := by
  obtain ⟨g', rfl⟩ : ∃ g', g = g' + 1 := ⟨g - 1, by omega⟩
  rw [scan, if_pos hf]; rfl
theorem scan_end (U : Nat → Bool) (n g f : Nat) (hf : ¬ f < n) : scan U n g f = [] := by
  cases g with
  | zero => rfl
  | succ g => rw [scan, if_neg hf]

theorem rem_all : ((List.range 7).all fun k => (List.range 256).all fun f => (Int.tmod (f : Int) (wrap64 (2 ^ k)) == ((f % 2 ^ k : Nat) : Int)) && !(wrap64 (2 ^ k) == 0)) = true := by kernel_rfl
theorem rem_at {k f : Nat} (hk : k ≤ 6) (hf : f < 256) : Int.tmod (f : Int) (wrap64 (2 ^ k)) = ((f % 2 ^ k : Nat) : Int) ∧ (wrap64 (2 ^ k) == 0) = false := by
  have := List.all_eq_true.1 (List.all_eq_true.1 rem_all k (List.mem_range.2 (by omega))) f (List.mem_range.2 hf)
  simpa using this

theorem ordr_hit {U : Nat → Bool} {f : Nat} : ∀ {k : Nat}, okb U f k = true → ordr U f k = k
  | 0, _ => rfl
  | k + 1, h => by rw [ordr, if_pos h]
theorem ordr_miss {U : Nat → Bool} {f k : Nat} (hU : U f = true) (h : okb U f k = false) : ∃ k', k = k' + 1 ∧ ordr U f k = ordr U f k' := by
  cases k with
  | zero => simp [okb, hU, Nat.mod_one] at h
  | succ k => exact ⟨k, rfl, by rw [ordr, if_neg (by simp [h])]⟩

set_option maxRecDepth 100000 in
set_option maxHeartbeats 4000000 in
theorem rfree_ok {w : World} {r f g n : Nat} {U : Nat → Bool} {T : Int → Option Nat} {m : Nat} (h : RAt w r f g n U T m) :
    Calls Tryd.prog 20 #[pp r] w fun e w' => ∃ v, e = .returned v ∧ BL w' w.heap.size v ((blocks U n).map toInt) ∧ Below w.heap.size w w' := by
  obtain ⟨cap, c0, _, hcap⟩ := h.cells
  have hn := h.small
  have hrl : r < w.heap.size := h.lt (.inl rfl)
  have hfl : f < w.heap.size := h.lt (.inr (.inl rfl))
  obtain ⟨i0, hi, hz0, hz1, hz2⟩ := info_parts (P := Tryd.prog) (e := 62) (z := .agg #[.int .i64 0, .int .i64 0]) (size := 2) (bytes := 16) (by kernel_rfl)
  go_enter Tryd.func20, Tryd.ntmps20
  go_wp2_with fail
  go_loopg [3, 4] n (fun mm s3 s4 wr => ∃ (j : Nat) (L : List (Nat × Nat)), n ≤ j + mm ∧ j ≤ 256 ∧ L.length ≤ j ∧ blocks U n = L ++ scan U n mm j ∧ BL wr w.heap.size s3 (L.map toInt) ∧ s4 = .int .i64 j ∧ Below w.heap.size w wr)
  case atStart => exact ⟨0, [], by omega, by omega, by simp, rfl, World.ownsRow_nil _ _ _ _, rfl, Below.refl _ _⟩
  case round =>
    rename_i v3
    obtain ⟨j, L, hj, hj6, hL, hbl, hB, rfl, hw⟩ := hrel
    have c0' : wr.cell? ⟨r, 0, none⟩ = some (.slice (some ⟨f, 0, none⟩) n cap) := by rw [hw.cell (p := ⟨r, 0, none⟩) hrl]; exact c0
    by_cases hlt : (j : Int) < n
    · have hlt' : j < n := by omega
      have hb := (h.bit (i := j) hlt').1
      rw [← hw.cell (p := ⟨f, j, none⟩) hfl] at hb
      have hsc := scan_at U n gk j hlt' (by omega)
      cases hU : U j with
      | false =>
        rw [hU] at hb hsc
        go_wp2_with fail
        go_roundg (gk - 1)
        case measure => omega
        case rel => exact ⟨j + 1, L, by omega, by omega, by omega, by rw [hbl, hsc]; rfl, hB, by go_num, hw⟩
      | true =>
        rw [hU] at hb hsc
        go_wp2_with fail
        obtain ⟨G0, rfl⟩ : ∃ G0, G0 = gk := ⟨_, rfl⟩
        go_loopg [5] 7 (fun mm s5 w2 => ∃ k : Nat, k + 1 = mm ∧ k ≤ 6 ∧ s5 = .int .i64 k ∧ w2 = wr ∧ ordr U j 6 = ordr U j k)
        case atStart => exact ⟨6, rfl, by omega, rfl, rfl, rfl⟩
        case round =>
          rename_i wx
          obtain ⟨k, hk, hk6, rfl, hwx, hord⟩ := hrel
          subst hwx
          have hj256 : j < 256 := by omega
          have hW := whole_ok (h.keep (w' := wr) (fun i hi => hw.block i (h.lt hi))) j k hj256 hk6
          by_cases hA : j % 2 ^ k = 0
          · cases hall : (List.range (2 ^ k)).all fun i => U (j + i) with
            | true =>
              rw [hall] at hW
              have hok : okb U j k = true := by simp [okb, hA, hall]
              rw [ordr_hit hok] at hord
              have hpos := Nat.two_pow_pos k
              have hend : j + 2 ^ k ≤ n := by
                have := List.all_eq_true.1 hall (2 ^ k - 1) (List.mem_range.2 (by omega))
                have := h.bound _ this; omega
              rw [if_pos trivial, hord] at hsc
              have hnews := new_two wr (j : Int) (k : Int) 62
              have hll : (L.map toInt).length + 1 ≤ 257 := by simp; omega
              have h63 : (L.map toInt).length + 1 ≤ maxLen := by unfold maxLen; omega
              have hby : ((L.map toInt).length + 1) * 16 ≤ 140737488355328 := by omega
              have hbase : ∀ o, w.heap.size ≤ (wr.alloc o).heap.size := fun o => by have := hw.size; simp; omega
              have e1 : n ≤ j + 2 ^ k + (G0 - 1) := by omega
              have e2 : j + 2 ^ k ≤ 256 := by omega
              have e3 : (L ++ [(j, k)]).length ≤ j + 2 ^ k := by simp; omega
              have e4 : G0 - 1 < G0 := by omega
              have e5 : blocks U n = (L ++ [(j, k)]) ++ scan U n (G0 - 1) (j + 2 ^ k) := by rw [hbl, hsc]; simp
              obtain ⟨hr1, hr2⟩ := rem_at (k := k) (f := j) hk6 hj256
              have hr3 : ¬ wrap64 (2 ^ k) = 0 := by simpa using hr2
              rw [hA] at hr1
              have hpw := pow_wrap (z := j) (j := k) hj256 hk6
              clear hall hr2 hord hok hsc hbl hj hL hll hend hpos
              go_wp2_with (first | (go_at_call 54; refine hW.mono ?_; rintro e w3 ⟨rfl, h3⟩; subst w3) | (at_builtin; refine wpList_append_own _ rfl _ _ 48 rfl w.heap.size 62 i0 (.agg #[.int .i64 0, .int .i64 0]) 2 16 Tryd.underlying48 hi hz0 hz1 hz2 rfl (by decide) _ _ _ rfl (hB.alloc _) ⟨wr.heap.size, 0, none⟩ 1 1 (be ((j : Int), (k : Int))) rfl rfl hnews (be_one _) h63 hby (hbase _) ?_; intro v5 w5 hown5 hg5 hnil5))
              go_roundg (G0 - 1)
              case measure => exact e4
              case rel =>
                clear hr1 hr3
                refine ⟨j + 2 ^ k, L ++ [(j, k)], e1, e2, e3, e5, ?_, by rw [hpw]; simp, ?_⟩
                · unfold BL
                  rw [List.map_append, bc_app, List.length_append]
                  exact hown5
                · exact (hw.alloc hw.size _).grown hg5 (hbase _) (fun i hi => (World.ownsRow.lt hB i hi).1)
            | false =>
              rw [hall] at hW
              have hok : okb U j k = false := by simp [okb, hall]
              obtain ⟨k', rfl, hmiss⟩ := ordr_miss hU hok
              have hm : k' + 1 < gk := by omega
              have hk6' : k' ≤ 6 := by omega
              obtain ⟨hr1, hr2⟩ := rem_at (k := k' + 1) (f := j) hk6 hj256
              have hr3 : ¬ wrap64 (2 ^ (k' + 1)) = 0 := by simpa using hr2
              rw [hA] at hr1
              clear hall hr2 hok
              go_wp2_with (go_at_call 54; refine hW.mono ?_; rintro e w3 ⟨rfl, h3⟩; subst w3)
              go_roundg (k' + 1)
              case measure => exact hm
              case rel =>
                clear hr1 hr3
                exact ⟨k', rfl, hk6', by go_num, rfl, hord.trans hmiss⟩
          · have hr4 : ¬ ((j % 2 ^ k : Nat) : Int) = 0 := by omega
            have hok : okb U j k = false := by simp [okb, hA]
            obtain ⟨k', rfl, hmiss⟩ := ordr_miss hU hok
            have hm : k' + 1 < gk := by omega
            have hk6' : k' ≤ 6 := by omega
            obtain ⟨hr1, hr2⟩ := rem_at (k := k' + 1) (f := j) hk6 hj256
            have hr3 : ¬ wrap64 (2 ^ (k' + 1)) = 0 := by simpa using hr2
            generalize ((j % 2 ^ (k' + 1) : Nat) : Int) = y at hr1 hr4
            clear hW hr2 hok
            go_wp2_with fail
            go_roundg (k' + 1)
            case measure => exact hm
            case rel =>
              clear hr1 hr3
              exact ⟨k', rfl, hk6', by go_num, rfl, hord.trans hmiss⟩
    · have hsc := scan_end U n gk j (by omega)
      rw [hsc, List.append_nil] at hbl
      go_wp2_with fail
      go_ret
      exact ⟨_, rfl, hB, hw⟩
end Go.Proofs.YthknommfnajeiaaDoor
