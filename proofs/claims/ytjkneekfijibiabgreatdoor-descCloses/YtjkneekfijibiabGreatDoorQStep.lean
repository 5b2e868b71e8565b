/- What take and Read of package pipe do to a world, each by its Go text. -/
import Derived.Test.YtjkneekfijibiabGreatDoorTubes2
import Derived.Test.YtjkneekfijibiabGreatDoorQState
namespace Go.Proofs.YtjkneekfijibiabGreatDoor
open Go.RowKit

theorem conv_bytes (w : World) (b n c : Nat) (B : List UInt8) (hn : n ≤ B.length) (hc : ∀ k, k < n → w.cell? ⟨b, 4 + k, none⟩ = some (.int .u8 (bt B k))) :
    (convert 29 9 (.slice (some ⟨b, 4, none⟩) n c)).run Tryz.prog w = .ok (txt (B.take n)) w := by
  have h := run_convert_bytes_arg (P := Tryz.prog) w 29 5 Tryz.underlying29 Tryz.underlying5 b 4 n c ((B.take n).map fun x => (x.toNat : Int)) (by simp; omega) (fun i hi => by
    have hi' : i < B.length := by omega
    rw [hc i hi]
    congr 2
    simp [bt, List.getD, hi', List.getElem?_take_of_lt hi]) 9 Tryz.underlying9
  rw [h, show strOfNums ((B.take n).map fun x => (x.toNat : Int)) = ⟨(B.take n).toArray⟩ by apply ByteArray.ext; simp [strOfNums, Function.comp_def]]

section
variable {w : World} {b : Nat} {F I : Int} {B : List UInt8}

set_option maxHeartbeats 2000000 in
theorem Tb.take_ok (h : Tb w b F I B) (n : Nat) (h1 : 1 ≤ n) (hn : n ≤ B.length) :
    Calls Tryz.prog 142 #[tp b, .int .i64 (n : Int)] w fun x w' => x = .returned (txt (B.take n)) ∧ Tb w' b F I (B.drop n) ∧ w.grownBy w' (some b) := by
  have hfew := h.few
  have hl20 := h.live 20 (by omega)
  have hsl1 := arr_h b n (by omega)
  have hconv := conv_bytes w b n 16 B hn (fun k hk => h.byte k (by omega))
  have hc0 := h.held
  have hall := arr_all b
  have hd : (B.drop n).length = B.length - n := by simp
  have hk : Tb (w.drewN 1) b F I B := h.keep rfl
  have hcopy : ∀ ty (sl : Value), sl = (if n = 16 then .slice (some ⟨b, 4, none⟩) 0 0 else .slice (some ⟨b, 4 + n, none⟩) (B.length - n) (16 - n)) →
      (Builtin.copy_ #[29, 29] ty #[.slice (some ⟨b, 4, none⟩) 16 16, sl]).run Tryz.prog w.drew = .ok (.int .i64 ((B.length - n : Nat) : Int)) (w.drew.setCells b 4 (bcs (B.drop n))) := by
    rintro ty sl rfl
    by_cases h16 : n = 16
    · rw [if_pos h16]
      have e0 : B.drop n = [] := List.drop_eq_nil_of_le (by omega)
      have := run_copy_none (P := Tryz.prog) w.drew 29 29 ty 5 (some ⟨b, 4, none⟩) (some ⟨b, 4, none⟩) 16 16 0 0 Tryz.underlying29 (by kernel_rfl) (by rfl)
      rw [this, e0, show B.length - n = 0 by omega]; rfl
    · rw [if_neg h16]
      have := run_copy_cells (P := Tryz.prog) w.drew 29 29 ty 5 b 4 16 16 ⟨b, 4 + n, none⟩ (B.length - n) (16 - n) (bcs (B.drop n)) Tryz.underlying29 (by kernel_rfl) (by rw [bcs_len, hd]; exact (Nat.min_eq_left (by omega)).symm) (fun j v hv => by
        obtain ⟨hj, rfl⟩ := bcs_get? _ _ _ hv
        rw [Addr.add_lit, bt_drop, show 4 + n + j = 4 + (n + j) by omega]
        exact (h.keep (w' := w.drew) rfl).byte (n + j) (by omega)) (by rw [bcs_len, hd]; exact (h.keep (w' := w.drew) rfl).some_at 4 _ (by omega) (by omega)) (by rw [bcs_len, hd]; exact (h.keep (w' := w.drew) rfl).free_at 4 _ (by omega)) (bcs_one _)
      rw [this, bcs_len, hd]; rfl
  obtain ⟨D, hD⟩ : ∃ D, B.length - n = D := ⟨_, rfl⟩
  have hD16 : D < 16 := by omega
  obtain ⟨w1, hw1⟩ : ∃ w1, w.drew.setCells b 4 (bcs (B.drop n)) = w1 := ⟨_, rfl⟩
  have hc1 : w1.cell? ⟨b, 20, none⟩ = some (.int .i64 (B.length : Int)) := by
    rw [← hw1, out_cell (n := D) (by rw [bcs_len, hd, hD]) (by omega)]; exact hc0
  have hf1 : w1.frozen? ⟨b, 20, none⟩ = false := by rw [← hw1, World.frozen?_setCells]; exact hl20
  have hsl3 := arr_l b D hD16
  have hT := (h.keep (w' := w.drew) rfl).take n hn
  rw [hD, hw1] at hT
  have hclear : ∀ ty, (Builtin.clear_ #[29] ty #[.slice (some ⟨b, 4 + D, none⟩) (16 - D) (16 - D)]).run Tryz.prog (w1.setCell ⟨b, 20, none⟩ (.int .i64 (D : Int))).drew = .ok (.tuple #[]) ((w1.setCell ⟨b, 20, none⟩ (.int .i64 (D : Int))).drew.setCells b (4 + D) (List.replicate (16 - D) (.int .u8 0))) := fun ty =>
    Lib.run_clear_slice _ 29 5 ty (.int .u8 0) Tryz.underlying29 (fun _ => Tryz.zeroValue5 _) rfl rfl b (4 + D) (16 - D) (16 - D) (by omega) (fun j hj => by
      show ((w1.setCell ⟨b, 20, none⟩ (.int .i64 (D : Int))).cell? ⟨b, 4 + D + j, none⟩).isSome = true
      rw [World.cell?_setCell_other _ _ _ _ (off_ne (by omega)), ← hw1, out_cell (n := D) (by rw [bcs_len, hd, hD]) (by omega)]
      exact (h.keep (w' := w.drew) rfl).some_at 4 16 (by omega) (by omega) (D + j) (by omega) |> fun x => by rw [show 4 + D + j = 4 + (D + j) by omega]; exact x) (fun j hj => by
      show (w1.setCell ⟨b, 20, none⟩ (.int .i64 (D : Int))).frozen? ⟨b, 4 + D + j, none⟩ = false
      rw [World.frozen?_setCell, ← hw1, World.frozen?_setCells]; exact h.live (4 + D + j) (by omega))
  have gro : w.grownBy (((w1.setCell ⟨b, 20, none⟩ (.int .i64 (D : Int))).drew).setCells b (4 + D) (List.replicate (16 - D) (.int .u8 0))) (some b) := by
    rw [← hw1]
    exact tgrown_trans (tgrown_drew (tgrown_trans (tgrown_trans (tgrown_drew (World.grownBy.refl w _)) (tgrown_sets b _ 4 _)) (tgrown_set _ _ _ _))) (tgrown_sets b _ _ _)
  have hT' : Tb ((w1.setCell ⟨b, 20, none⟩ (.int .i64 (D : Int))).drew.setCells b (4 + D) (List.replicate (16 - D) (.int .u8 0))) b F I (B.drop n) := hT.keep (by
    rw [show ((w1.setCell ⟨b, 20, none⟩ (.int .i64 (D : Int))).drew.setCells b (4 + D) (List.replicate (16 - D) (.int .u8 0))) = ((w1.setCell ⟨b, 20, none⟩ (.int .i64 (D : Int))).setCells b (4 + D) (List.replicate (16 - D) (.int .u8 0))).drew from (drew_cells b _ _ _).symm]
    rfl)
  have hc3 : (w1.setCell ⟨b, 20, none⟩ (.int .i64 (D : Int))).cell? ⟨b, 20, none⟩ = some (.int .i64 (D : Int)) := World.cell?_setCell_same _ _ _ hc1
  rw [hD, hw1] at hcopy
  obtain ⟨K, hK⟩ : ∃ K, B.length = K := ⟨_, rfl⟩
  rw [hK] at hc0 hc1 hn hfew hD
  generalize B.take n = T at *
  generalize B.drop n = E at *
  generalize List.replicate (16 - D) (Value.int .u8 0) = zs at *
  by_cases h16 : n = 16
  · subst h16
    have hslE := arr_end b
    have hcp := fun ty => hcopy ty _ (if_pos rfl).symm
    obtain rfl : K = 16 := by omega
    clear hcopy hT h hk
    go_enter Tryz.func142, Tryz.ntmps142
    go_wp2_with fail
    go_region
    go_wp2_with fail
    go_region
    go_wp2_with fail
    go_ret
    exact ⟨rfl, hT', gro⟩
  · have hsl2 := arr_lh b n K (by omega) hn (by omega)
    simp only [hD] at hsl2
    have hcp := fun ty => hcopy ty _ (if_neg h16).symm
    clear hcopy hT h hk
    go_enter Tryz.func142, Tryz.ntmps142
    go_wp2_with fail
    go_region
    go_wp2_with fail
    go_region
    go_wp2_with fail
    go_ret
    exact ⟨rfl, hT', gro⟩

set_option maxHeartbeats 2000000 in
theorem Tb.read_ok (h : Tb w b F I B) (n : Int) (hI : 0 ≤ I) :
    Calls Tryz.prog 110 #[tp b, .int .i64 n] w fun x w' => x = .returned (.tuple #[txt (B.take n.toNat), erT (rdE I B n)]) ∧ Tb w' b F I (B.drop n.toNat) ∧ w.grownBy w' (some b) := by
  have hE := h.ends
  have hL := h.len
  have hc0 := h.held
  have hfew := h.few
  by_cases h0 : n < 0
  · have e1 : rdE I B n = 2 := by unfold rdE; rw [if_pos h0]
    have e2 : n.toNat = 0 := by omega
    rw [e1, e2, List.take_zero, List.drop_zero]
    go_enter Tryz.func110, Tryz.ntmps110
    go_wp2_with fail
    go_ret2
    exact ⟨rfl, h, World.grownBy.refl _ _⟩
  · by_cases hz : n = 0
    · subst hz
      go_enter Tryz.func110, Tryz.ntmps110
      go_wp2_with fail
      go_ret2
      exact ⟨rfl, h, World.grownBy.refl _ _⟩
    · have hnq : (n == 0) = false := by simp [hz]
      by_cases hB : B = []
      · subst hB
        by_cases hI0 : 0 < I
        · have e1 : rdE I [] n = 8 := by unfold rdE; rw [if_neg h0, if_neg hz, if_pos ⟨rfl, hI0⟩]
          rw [e1, List.take_nil, List.drop_nil]
          go_enter Tryz.func110, Tryz.ntmps110
          go_wp2_with fail
          refine hL.mono ?_
          rintro x w1 ⟨rfl, hw⟩
          subst w1
          go_wp2_with fail
          refine hE.mono ?_
          rintro x w1 ⟨rfl, q, rfl⟩
          go_wp2_with fail
          go_ret2
          exact ⟨rfl, h.keep rfl, tgrown_drewN _ _ _⟩
        · have e1 : rdE I [] n = 0 := by unfold rdE; rw [if_neg h0, if_neg hz, if_neg (fun e => hI0 e.2)]
          rw [e1, List.take_nil, List.drop_nil]
          go_enter Tryz.func110, Tryz.ntmps110
          go_wp2_with fail
          refine hL.mono ?_
          rintro x w1 ⟨rfl, hw⟩
          subst w1
          go_wp2_with fail
          refine hE.mono ?_
          rintro x w1 ⟨rfl, q, rfl⟩
          go_wp2_with fail
          go_ret2
          exact ⟨rfl, h.keep rfl, tgrown_drewN _ _ _⟩
      · have hBl : 0 < B.length := by cases B with
          | nil => exact absurd rfl hB
          | cons _ _ => simp
        have e1 : rdE I B n = 0 := by unfold rdE; rw [if_neg h0, if_neg hz, if_neg (fun e => hB e.1)]
        have e2 : B.take n.toNat = B.take (min n.toNat B.length) := by
          by_cases hm : n.toNat ≤ B.length
          · rw [Nat.min_eq_left hm]
          · rw [Nat.min_eq_right (by omega), List.take_of_length_le (by omega), List.take_of_length_le (by omega)]
        have e3 : B.drop n.toNat = B.drop (min n.toNat B.length) := by
          by_cases hm : n.toNat ≤ B.length
          · rw [Nat.min_eq_left hm]
          · rw [Nat.min_eq_right (by omega), List.drop_eq_nil_of_le (by omega), List.drop_eq_nil_of_le (by omega)]
        obtain ⟨m, hm⟩ : ∃ m, min n.toNat B.length = m := ⟨_, rfl⟩
        rw [hm] at e2 e3
        have hT := h.take_ok m (by omega) (by omega)
        rw [e1, e2, e3]
        clear e1 e2 e3
        obtain ⟨K, hK⟩ : ∃ K, B.length = K := ⟨_, rfl⟩
        rw [hK] at hc0 hfew hBl hm hL
        have hKq : ((K : Int) == 0) = false := by simp; omega
        generalize B.take m = T at *
        generalize B.drop m = E at *
        clear h hB hK
        by_cases hnm : n ≤ (K : Int)
        · have hm' : (m : Int) = n := by omega
          rw [hm'] at hT
          go_enter Tryz.func110, Tryz.ntmps110
          go_wp2_with fail
          refine hL.mono ?_
          rintro x w1 ⟨rfl, hw⟩
          subst w1
          go_wp2_with fail
          refine hT.mono ?_
          rintro x w1 ⟨rfl, hT', g⟩
          go_wp2_with fail
          go_ret2
          exact ⟨rfl, hT', g⟩
        · have hm' : m = K := by omega
          rw [hm'] at hT
          go_enter Tryz.func110, Tryz.ntmps110
          go_wp2_with fail
          refine hL.mono ?_
          rintro x w1 ⟨rfl, hw⟩
          subst w1
          go_wp2_with fail
          refine hT.mono ?_
          rintro x w1 ⟨rfl, hT', g⟩
          go_wp2_with fail
          go_ret2
          exact ⟨rfl, hT', g⟩
end
end Go.Proofs.YtjkneekfijibiabGreatDoor

namespace Go.Proofs.YtjkneekfijibiabGreatDoor
open Go.RowKit Go.Maps

section
variable {w w' w2 : World} {f b n : Nat} {D D' : DS} {g g' : QG} {M N N' : Ns} {d k : Int} {e : En}
/-- An ENTRY goes. -/
theorem QF.gone (h : QF w f D g n) (hk : g.K k = some d) {n' : Nat} (pm : PMap w' g.gO n' (fun i => if i = k then none else (g.K i).map (fun d => wp (g.B d)))) (hg : w.grownBy w' (some g.gO)) :
    QF w' f { D with E := fun i => if i = d then none else D.E i, R := fun i => if i = d then none else D.R i } { g with K := fun i => if i = k then none else g.K i } n' := by
  have hh : ∀ {i t}, g.kap i = some t → t ≠ .mp → w'.heap[i]? = w.heap[i]? := fun {i t} ei ht => hg.block i (h.lt i (by rw [ei]; rfl)) (fun x => tag_ne ei h.tm ht (Option.some.inj x))
  obtain ⟨O, p, hO⟩ := h.tree
  have hpm : PMap w' g.gO n' (fun i => (if i = k then none else g.K i).map (fun d => wp (g.B d))) := by
    have e2 : (fun i => (if i = k then none else g.K i).map (fun d => wp (g.B d))) = fun i => if i = k then none else (g.K i).map (fun d => wp (g.B d)) := by
      funext i; split <;> rfl
    rw [e2]; exact pm
  refine ⟨(hh h.tf (by simp)).trans h.head, ⟨O, p.keep (fun i hi => hh (hO i hi) (by simp)) hg.size, hO⟩, hpm, fun x ex hx => ?_, fun i x hx => ?_, fun x hx => ?_, fun i j x hi hj => ?_, fun p x hp => ?_, h.tf, h.tm, fun i hi => Nat.lt_of_lt_of_le (h.lt i hi) hg.size⟩
  · have hx' : (if x = d then none else D.E x) = some ex := hx
    by_cases e1 : x = d
    · rw [if_pos e1] at hx'; cases hx'
    · rw [if_neg e1] at hx'
      obtain ⟨c1, a1, a2, a3⟩ := h.ent x ex hx'
      exact ⟨c1, (if_neg e1).trans a1, (hh a3 (by simp)).trans a2, a3⟩
  · have hx' : (if i = k then none else g.K i) = some x := hx
    by_cases e1 : i = k
    · rw [if_pos e1] at hx'; cases hx'
    · rw [if_neg e1] at hx'
      obtain ⟨a, c⟩ := h.key i x hx'
      refine ⟨?_, c⟩
      show (if x = d then none else D.E x).isSome = true
      rw [if_neg (fun e9 => e1 (h.inj i k d (by rw [← e9]; exact hx') hk))]
      exact a
  · have hx' : (if x = d then none else D.E x).isSome = true := hx
    by_cases e1 : x = d
    · rw [if_pos e1] at hx'; cases hx'
    · rw [if_neg e1] at hx'
      obtain ⟨i, hi⟩ := h.has x hx'
      refine ⟨i, ?_⟩
      show (if i = k then none else g.K i) = some x
      rw [if_neg (fun e9 => e1 (by rw [e9, hk] at hi; exact (Option.some.inj hi).symm))]
      exact hi
  · have hi' : (if i = k then none else g.K i) = some x := hi
    have hj' : (if j = k then none else g.K j) = some x := hj
    by_cases e1 : i = k
    · rw [if_pos e1] at hi'; cases hi'
    · by_cases e2 : j = k
      · rw [if_pos e2] at hj'; cases hj'
      · rw [if_neg e1] at hi'
        rw [if_neg e2] at hj'
        exact h.inj i j x hi' hj'
  · obtain ⟨a1, a2⟩ := h.pipe p x hp
    exact ⟨a1.keep (hh a2 (by simp)), a2⟩
/-- The tree turns. -/
theorem QF.turn (h : QF w f D g n) {O O' : Nat → Prop} {T' : Wd} (hO : ∀ i, O i → g.kap i = some .tree) (p : PT w' g.r T' O') (st : Stp w w' O O') :
    ∃ g', QF w' f { D with T := T' } g' n ∧ (∀ i, i < w.heap.size → g'.kap i = g.kap i) ∧ g'.K = g.K ∧ g'.r = g.r ∧ g'.B = g.B := by
  classical
  have hh : ∀ {i t}, g.kap i = some t → t ≠ .tree → w'.heap[i]? = w.heap[i]? := fun {i t} ei ht => st.wt.block i (h.lt i (by rw [ei]; rfl)) (fun o => tag_ne ei (hO i o) ht rfl)
  have hlt : ∀ {i t}, g.kap i = some t → (if i < w.heap.size then g.kap i else if O' i then some Tag.tree else none) = some t := fun {i t} ei => by
    rw [if_pos (h.lt i (by rw [ei]; rfl))]; exact ei
  refine ⟨{ g with kap := fun i => if i < w.heap.size then g.kap i else if O' i then some .tree else none }, ⟨(hh h.tf (by simp)).trans h.head, ⟨O', p, fun i hi => ?_⟩, h.map.keep (hh h.tm (by simp)), fun x ex hx => ?_, h.key, h.has, h.inj, fun p x hp => ?_, hlt h.tf, hlt h.tm, fun i hi => ?_⟩, fun i hi => if_pos hi, rfl, rfl, rfl⟩
  · show (if i < w.heap.size then g.kap i else if O' i then some Tag.tree else none) = some Tag.tree
    rcases st.own i hi with o | o
    · exact hlt (hO i o)
    · rw [if_neg (by omega), if_pos hi]
  · obtain ⟨c1, a1, a2, a3⟩ := h.ent x ex hx
    exact ⟨c1, a1, (hh a3 (by simp)).trans a2, hlt a3⟩
  · obtain ⟨a1, a2⟩ := h.pipe p x hp
    exact ⟨a1.keep (hh a2 (by simp)), hlt a2⟩
  · have hi' : (if i < w.heap.size then g.kap i else if O' i then some Tag.tree else none).isSome = true := hi
    by_cases e1 : i < w.heap.size
    · exact Nat.lt_of_lt_of_le e1 st.wt.size
    · rw [if_neg e1] at hi'
      by_cases e2 : O' i
      · exact p.lt i e2
      · rw [if_neg e2] at hi'; cases hi'
/-- A pipe turns. -/
theorem QF.piped (h : QF w f D g n) {p : Int} {x : Pi} (hp : D.P p = some x) {x' : Pi} (ht : Tb w' (g.Q p) x'.2.1 x'.2.2 x'.1) (hg : w.grownBy w' (some (g.Q p))) :
    QF w' f { D with P := fun i => if i = p then some x' else D.P i } g n := by
  obtain ⟨h1, h2⟩ := h.pipe p x hp
  have hh : ∀ {i t}, g.kap i = some t → t ≠ .pip p → w'.heap[i]? = w.heap[i]? := fun {i t} ei ht => hg.block i (h.lt i (by rw [ei]; rfl)) (fun x => tag_ne ei h2 ht (Option.some.inj x))
  obtain ⟨O, q, hO⟩ := h.tree
  refine ⟨(hh h.tf (by simp)).trans h.head, ⟨O, q.keep (fun i hi => hh (hO i hi) (by simp)) hg.size, hO⟩, h.map.keep (hh h.tm (by simp)), fun y ey hy => ?_, h.key, h.has, h.inj, fun q y hq => ?_, h.tf, h.tm, fun i hi => Nat.lt_of_lt_of_le (h.lt i hi) hg.size⟩
  · obtain ⟨c1, a1, a2, a3⟩ := h.ent y ey hy
    exact ⟨c1, a1, (hh a3 (by simp)).trans a2, a3⟩
  · have hq' : (if q = p then some x' else D.P q) = some y := hq
    by_cases e1 : q = p
    · subst e1
      rw [if_pos rfl] at hq'
      obtain rfl := Option.some.inj hq'
      exact ⟨ht, h2⟩
    · rw [if_neg e1] at hq'
      obtain ⟨a1, a2⟩ := h.pipe q y hq'
      exact ⟨a1.keep (hh a2 (fun z => e1 (by injection z))), a2⟩
/-- A new pipe. -/
theorem QF.newPipe (h : QF w f D g n) {q : Nat} {p : Int} (hq : w.heap.size ≤ q) (hq' : q < w'.heap.size) (hb : Below w.heap.size w w') (hp : D.P p = none) (hE : ∀ d e, D.E d = some e → e.pipe ≠ p ∨ e.kind = 1) {x : Pi} (ht : Tb w' q x.2.1 x.2.2 x.1) (z : Int) :
    ∃ g', QF w' f { D with P := fun i => if i = p then some x else D.P i, nx := z } g' n ∧ (∀ i, i < w.heap.size → g'.kap i = g.kap i) ∧ g'.K = g.K ∧ g'.r = g.r ∧ g'.Q p = q := by
  have h' := h.below hb
  have hlt : ∀ {i t}, g.kap i = some t → (if i = q then some (Tag.pip p) else g.kap i) = some t := fun {i t} ei => by
    have := h.lt i (by rw [ei]; rfl)
    rw [if_neg (by omega)]; exact ei
  obtain ⟨O, o1, hO⟩ := h'.tree
  refine ⟨{ g with Q := fun i => if i = p then q else g.Q i, kap := fun i => if i = q then some (.pip p) else g.kap i }, ⟨h'.head, ⟨O, o1, fun i hi => hlt (hO i hi)⟩, h'.map, fun y ey hy => ?_, h.key, h.has, h.inj, fun i y hi => ?_, hlt h.tf, hlt h.tm, fun i hi => ?_⟩, fun i hi => if_neg (by omega), rfl, rfl, if_pos rfl⟩
  · obtain ⟨c1, a1, a2, a3⟩ := h'.ent y ey hy
    refine ⟨c1, a1, ?_, hlt a3⟩
    have hpv : pv { g with Q := fun i => if i = p then q else g.Q i, kap := fun i => if i = q then some (.pip p) else g.kap i } ey = pv g ey := by
      unfold pv
      rcases hE y ey hy with e1 | e1
      · simp only [if_neg e1]
      · rw [if_pos e1, if_pos e1]
    show w'.heap[g.B y]? = _
    rw [a2, ecells, ecells, hpv]
  · have hi' : (if i = p then some x else D.P i) = some y := hi
    by_cases e1 : i = p
    · subst e1
      rw [if_pos rfl] at hi'
      obtain rfl := Option.some.inj hi'
      have eq : (if i = i then q else g.Q i) = q := if_pos rfl
      show Tb w' (if i = i then q else g.Q i) x.2.1 x.2.2 x.1 ∧ (if (if i = i then q else g.Q i) = q then some (Tag.pip i) else g.kap (if i = i then q else g.Q i)) = some (Tag.pip i)
      rw [eq, if_pos rfl]
      exact ⟨ht, rfl⟩
    · rw [if_neg e1] at hi'
      obtain ⟨a1, a2⟩ := h'.pipe i y hi'
      show Tb w' (if i = p then q else g.Q i) y.2.1 y.2.2 y.1 ∧ (if (if i = p then q else g.Q i) = q then some (Tag.pip p) else g.kap (if i = p then q else g.Q i)) = some (Tag.pip i)
      rw [if_neg e1]
      exact ⟨a1, hlt a2⟩
  · have hi' : (if i = q then some (Tag.pip p) else g.kap i).isSome = true := hi
    by_cases e1 : i = q
    · omega
    · rw [if_neg e1] at hi'
      exact h'.lt i hi'
/-- A new ENTRY: nobody has it yet. -/
def newE (D : DS) (e : En) : DS := { D with E := fun i => if i = D.nx + 1 then some e else D.E i, R := fun i => if i = D.nx + 1 then some 0 else D.R i, nx := D.nx + 1 }
theorem QF.newEnt (h : QF w f D g n) {q : Nat} (hq : w.heap.size ≤ q) (hb : Below w.heap.size w w') (hE : D.E (D.nx + 1) = none) (hk : g.K k = none) (hk0 : 0 < k) (hk1 : k < 100000) (hw : w'.heap[q]? = some (.cells (ecells g e 0) 180)) (pm : PMap w2 g.gO (n + 1) (fun i => if i = k then some (wp q) else (g.K i).map (fun d => wp (g.B d)))) (hg : w'.grownBy w2 (some g.gO)) :
    ∃ g', QF w2 f (newE D e) g' (n + 1) ∧ (∀ i, i < w.heap.size → g'.kap i = g.kap i) ∧ (g'.K = fun i => if i = k then some (D.nx + 1) else g.K i) ∧ g'.r = g.r ∧ g'.B (D.nx + 1) = q ∧ g'.gO = g.gO ∧ g'.Q = g.Q := by
  have h' := h.below hb
  have hql : q < w'.heap.size := (Array.getElem?_eq_some_iff.1 hw).1
  have hlt : ∀ {i t}, g.kap i = some t → (if i = q then some (Tag.ent (D.nx + 1)) else g.kap i) = some t := fun {i t} ei => by
    have := h.lt i (by rw [ei]; rfl)
    rw [if_neg (by omega)]; exact ei
  have hh : ∀ {i t}, g.kap i = some t → t ≠ .mp → w2.heap[i]? = w'.heap[i]? := fun {i t} ei ht => hg.block i (h'.lt i (by rw [ei]; rfl)) (fun x => tag_ne ei h.tm ht (Option.some.inj x))
  have hqm : q ≠ g.gO := fun e => by have := h.lt g.gO (by rw [h.tm]; rfl); omega
  obtain ⟨O, o1, hO⟩ := h'.tree
  have hKE : ∀ i x, g.K i = some x → x ≠ D.nx + 1 := fun i x hx e => by
    have := (h.key i x hx).1
    rw [e, hE] at this; cases this
  have hpm : PMap w2 g.gO (n + 1) (fun i => (if i = k then some (D.nx + 1) else g.K i).map (fun d => wp (if d = D.nx + 1 then q else g.B d))) := by
    have e2 : (fun i => (if i = k then some (D.nx + 1) else g.K i).map (fun d => wp (if d = D.nx + 1 then q else g.B d))) = fun i => if i = k then some (wp q) else (g.K i).map (fun d => wp (g.B d)) := by
      funext i
      by_cases ei : i = k
      · rw [if_pos ei, if_pos ei]; simp
      · rw [if_neg ei, if_neg ei]
        cases hK : g.K i with
        | none => rfl
        | some x => simp [hKE i x hK]
    rw [e2]; exact pm
  refine ⟨{ g with K := fun i => if i = k then some (D.nx + 1) else g.K i, B := fun d => if d = D.nx + 1 then q else g.B d, kap := fun i => if i = q then some (.ent (D.nx + 1)) else g.kap i }, ⟨(hh h.tf (by simp)).trans h'.head, ⟨O, o1.keep (fun i hi => hh (hO i hi) (by simp)) hg.size, fun i hi => hlt (hO i hi)⟩, hpm, fun y ey hy => ?_, fun i y hi => ?_, fun y hy => ?_, fun i j y hi hj => ?_, fun p x hp => ?_, hlt h.tf, hlt h.tm, fun i hi => ?_⟩, fun i hi => if_neg (by omega), rfl, rfl, if_pos rfl, rfl, rfl⟩
  · have hy' : (if y = D.nx + 1 then some e else D.E y) = some ey := hy
    by_cases e1 : y = D.nx + 1
    · rw [if_pos e1] at hy'
      obtain rfl := Option.some.inj hy'
      refine ⟨0, if_pos e1, ?_, ?_⟩
      · show w2.heap[if y = D.nx + 1 then q else g.B y]? = _
        rw [if_pos e1, hg.block q hql (fun x => hqm (Option.some.inj x)), hw]
        rfl
      · show (if (if y = D.nx + 1 then q else g.B y) = q then some (Tag.ent (D.nx + 1)) else g.kap (if y = D.nx + 1 then q else g.B y)) = some (Tag.ent y)
        rw [if_pos e1, if_pos rfl, e1]
    · rw [if_neg e1] at hy'
      obtain ⟨c1, a1, a2, a3⟩ := h'.ent y ey hy'
      refine ⟨c1, (if_neg e1).trans a1, ?_, ?_⟩
      · show w2.heap[if y = D.nx + 1 then q else g.B y]? = _
        rw [if_neg e1, hh a3 (by simp), a2]
        rfl
      · show (if (if y = D.nx + 1 then q else g.B y) = q then some (Tag.ent (D.nx + 1)) else g.kap (if y = D.nx + 1 then q else g.B y)) = some (Tag.ent y)
        rw [if_neg e1]
        exact hlt a3
  · have hi' : (if i = k then some (D.nx + 1) else g.K i) = some y := hi
    show (if y = D.nx + 1 then some e else D.E y).isSome = true ∧ 0 < i ∧ i < 100000
    by_cases e1 : i = k
    · rw [if_pos e1] at hi'
      obtain rfl := Option.some.inj hi'
      rw [if_pos rfl, e1]
      exact ⟨rfl, hk0, hk1⟩
    · rw [if_neg e1] at hi'
      rw [if_neg (hKE i y hi')]
      exact h.key i y hi'
  · have hy' : (if y = D.nx + 1 then some e else D.E y).isSome = true := hy
    by_cases e1 : y = D.nx + 1
    · exact ⟨k, by show (if k = k then some (D.nx + 1) else g.K k) = some y; rw [if_pos rfl, e1]⟩
    · rw [if_neg e1] at hy'
      obtain ⟨i, hi⟩ := h.has y hy'
      refine ⟨i, ?_⟩
      show (if i = k then some (D.nx + 1) else g.K i) = some y
      rw [if_neg (fun e9 => by rw [e9, hk] at hi; cases hi)]
      exact hi
  · have hi' : (if i = k then some (D.nx + 1) else g.K i) = some y := hi
    have hj' : (if j = k then some (D.nx + 1) else g.K j) = some y := hj
    by_cases e1 : i = k
    · by_cases e2 : j = k
      · rw [e1, e2]
      · rw [if_pos e1] at hi'
        rw [if_neg e2] at hj'
        exact absurd (Option.some.inj hi').symm (hKE j y hj')
    · by_cases e2 : j = k
      · rw [if_neg e1] at hi'
        rw [if_pos e2] at hj'
        exact absurd (Option.some.inj hj').symm (hKE i y hi')
      · rw [if_neg e1] at hi'
        rw [if_neg e2] at hj'
        exact h.inj i j y hi' hj'
  · obtain ⟨a1, a2⟩ := h'.pipe p x hp
    exact ⟨a1.keep (hh a2 (by simp)), hlt a2⟩
  · have hi' : (if i = q then some (Tag.ent (D.nx + 1)) else g.kap i).isSome = true := hi
    by_cases e1 : i = q
    · have := hg.size; omega
    · rw [if_neg e1] at hi'
      exact Nat.lt_of_lt_of_le (h'.lt i hi') hg.size
end
end Go.Proofs.YtjkneekfijibiabGreatDoor
