/- The statements' own 'name', by its Go text: one thing that is done to a tree. -/
import Derived.Test.YtpibokijbidgdabDoorYPaths
namespace Go.Proofs.YtpibokijbidgdabDoor
open Go.RowKit Go.Maps Go.Shelf

/-- Done, or refused: then nothing turned; a list beside it stays. -/
def Done (w : World) (m : Int) (r k : Nat) (T : Wd) (v0 : Value) (L : List Nm) (v : Value) (w' : World) : Prop :=
  (v = .nilIface ∧ ∃ T', KR w m r (k + 1) T' v0 L w' ∧ Tr1 T') ∨ (∃ c, v = uer c ∧ KR w m r (k + 1) T v0 L w')
section
variable {w wr w1 w' : World} {m : Int} {r k : Nat} {T : Wd} {p q : List UInt8} {v0 : Value} {L : List Nm}
theorem KT.withRow (h : KT w m r k T wr) (t : TxR w1 wr.heap.size v0 L) (hb : Below wr.heap.size wr w1) : KR w m r k T v0 L w1 := by
  obtain ⟨O, h1, h2⟩ := h.st
  have k' := h.below hb
  refine ⟨⟨O, h1.below hb, h2, fun i hi ho => ?_⟩, ?_, h.lv, h.sm, k'.bel, h.ml⟩
  · have := t.base hi
    have := h1.lt i ho
    omega
  · unfold TxR at t ⊢
    obtain ⟨hz, hh⟩ := t
    refine ⟨hz, ?_⟩
    rcases hh with hh | ⟨ga, cap, cur, e1, hB, rest⟩
    · exact .inl hh
    · exact .inr ⟨ga, cap, cur, e1, Nat.le_trans h.bel.size hB, rest⟩
theorem KR.mkdir1 (h : KR w m r k T v0 L wr) (hT : Tr1 T) (hk : k ≤ 900) (hp : p.length < 100000) :
    Calls Tryd.prog 67 #[wp r, tx p] wr fun e w' => ∃ n v, e = .returned (.tuple #[.int .i64 n, v]) ∧ Done w m r k T v0 L v w' := by
  obtain ⟨s, hs⟩ := h.kt.num
  refine (h.call (k' := k + 1) (Q := fun e T' => (e = .returned (.tuple #[.int .i64 0, uer (makeE T s p)]) ∧ T' = T) ∨ (∃ n, e = .returned (.tuple #[.int .i64 n, .nilIface]) ∧ TrLv T' ∧ Sm (k + 1) T' ∧ Tr1 T')) (fun O p1 => ?_) ?_).mono ?_
  · refine (p1.mkdir_ok h.lv hs p hp m h.kt.mlr (fun i C e => by have := h.sm.1 i C e; omega)).mono ?_
    rintro e w' (⟨a, rfl, p', st⟩ | ⟨a, n, O', b, c, rfl, p', st⟩)
    · exact ⟨T, O, .inl ⟨rfl, rfl⟩, p', st⟩
    · exact ⟨_, O', .inr ⟨n, rfl, h.lv.make a b c true, h.sm.make p true n, hT.make a b c true⟩, p', st⟩
  · rintro e T' (⟨_, rfl⟩ | ⟨n, _, a, b, _⟩)
    · exact ⟨h.lv, h.sm.more (by omega)⟩
    · exact ⟨a, b⟩
  · rintro e w' ⟨T', (⟨rfl, rfl⟩ | ⟨n, rfl, _, _, c⟩), k'⟩
    · exact ⟨_, _, rfl, .inr ⟨_, rfl, k'⟩⟩
    · exact ⟨_, _, rfl, .inl ⟨rfl, _, k', c⟩⟩
theorem KR.create1 (h : KR w m r k T v0 L wr) (hT : Tr1 T) (hk : k ≤ 900) (hp : p.length < 100000) :
    Calls Tryd.prog 40 #[wp r, tx p] wr fun e w' => ∃ n v, e = .returned (.tuple #[.int .i64 n, v]) ∧ Done w m r k T v0 L v w' := by
  obtain ⟨s, hs⟩ := h.kt.num
  refine (h.call (k' := k + 1) (Q := fun e T' => (e = .returned (.tuple #[.int .i64 0, uer (makeE T s p)]) ∧ T' = T) ∨ (∃ n, e = .returned (.tuple #[.int .i64 n, .nilIface]) ∧ TrLv T' ∧ Sm (k + 1) T' ∧ Tr1 T')) (fun O p1 => ?_) ?_).mono ?_
  · refine (p1.create_ok h.lv hs p hp m h.kt.mlr (fun i C e => by have := h.sm.1 i C e; omega)).mono ?_
    rintro e w' (⟨a, rfl, p', st⟩ | ⟨a, n, O', b, c, rfl, p', st⟩)
    · exact ⟨T, O, .inl ⟨rfl, rfl⟩, p', st⟩
    · exact ⟨_, O', .inr ⟨n, rfl, h.lv.make a b c false, h.sm.make p false n, hT.make a b c false⟩, p', st⟩
  · rintro e T' (⟨_, rfl⟩ | ⟨n, _, a, b, _⟩)
    · exact ⟨h.lv, h.sm.more (by omega)⟩
    · exact ⟨a, b⟩
  · rintro e w' ⟨T', (⟨rfl, rfl⟩ | ⟨n, rfl, _, _, c⟩), k'⟩
    · exact ⟨_, _, rfl, .inr ⟨_, rfl, k'⟩⟩
    · exact ⟨_, _, rfl, .inl ⟨rfl, _, k', c⟩⟩
theorem KR.link1 (h : KR w m r k T v0 L wr) (hT : Tr1 T) (hk : k ≤ 900) (hp : p.length < 100000) (hq : q.length < 100000) :
    Calls Tryd.prog 43 #[wp r, tx p, tx q] wr fun e w' => ∃ v, e = .returned v ∧ Done w m r k T v0 L v w' := by
  refine (h.call (k' := k + 1) (Q := fun e T' => e = .returned (uev (linkE T p q)) ∧ T' = linkN T p q) (fun O p1 => ?_) ?_).mono ?_
  · refine (p1.link_ok h.lv p q hp hq m h.kt.mlr (fun i C e => by have := h.sm.1 i C e; omega)).mono ?_
    rintro e w' ⟨rfl, p', st⟩
    exact ⟨_, O, ⟨rfl, rfl⟩, p', st⟩
  · rintro e T' ⟨_, rfl⟩
    exact ⟨h.lv.link p q, h.sm.link p q⟩
  · rintro e w' ⟨T', ⟨rfl, rfl⟩, k'⟩
    refine ⟨_, rfl, ?_⟩
    by_cases hE : linkE T p q = 0
    · rw [hE]; exact .inl ⟨rfl, _, k', hT.link p q⟩
    · rw [uev_ne hE]
      refine .inr ⟨_, rfl, ?_⟩
      rw [show linkN T p q = T by unfold linkN; rw [if_pos hE]] at k'
      exact k'
theorem KR.unlink1 (h : KR w m r k T v0 L wr) (hT : Tr1 T) (hk : k ≤ 900) (hp : p.length < 100000) :
    Calls Tryd.prog 45 #[wp r, tx p] wr fun e w' => ∃ v, e = .returned v ∧ Done w m r k T v0 L v w' := by
  refine (h.call (k' := k + 1) (Q := fun e T' => e = .returned (uev (unlinkE T p)) ∧ T' = unlinkN T p) (fun O p1 => ?_) ?_).mono ?_
  · refine (p1.unlink_ok h.lv p hp m h.kt.mlr (fun i C e => by have := h.sm.1 i C e; omega)).mono ?_
    rintro e w' ⟨rfl, p', st⟩
    exact ⟨_, O, ⟨rfl, rfl⟩, p', st⟩
  · rintro e T' ⟨_, rfl⟩
    exact ⟨h.lv.unlink p, h.sm.unlink p⟩
  · rintro e w' ⟨T', ⟨rfl, rfl⟩, k'⟩
    refine ⟨_, rfl, ?_⟩
    by_cases hE : unlinkE T p = 0
    · rw [hE]; exact .inl ⟨rfl, _, k', hT.unlink p⟩
    · rw [uev_ne hE]
      refine .inr ⟨_, rfl, ?_⟩
      rw [show unlinkN T p = T by unfold unlinkN; rw [if_pos hE]] at k'
      exact k'
theorem KR.renameE1 (h : KR w m r k T v0 L wr) (hk : k ≤ 900) (p q : List UInt8) (hp : p.length < 100000) (hq : q.length < 100000) :
    Calls Tryd.prog 39 #[wp r, tx p, tx q] wr fun e w' => e = .returned (uev (renameE T p q)) ∧ KR w m r (k + 1) (renameN T p q) v0 L w' := by
  refine (h.call (k' := k + 1) (Q := fun e T' => e = .returned (uev (renameE T p q)) ∧ T' = renameN T p q) (fun O p1 => ?_) ?_).mono ?_
  · refine (p1.rename_ok h.lv p q hp hq m h.kt.mlr (fun i C e => by have := h.sm.1 i C e; omega)).mono ?_
    rintro e w' ⟨rfl, p', st⟩
    exact ⟨_, O, ⟨rfl, rfl⟩, p', st⟩
  · rintro e T' ⟨_, rfl⟩
    exact ⟨h.lv.rename p q, h.sm.rename p q⟩
  · rintro e w' ⟨T', ⟨rfl, rfl⟩, k'⟩
    exact ⟨rfl, k'⟩
theorem KR.rename1 (h : KR w m r k T v0 L wr) (hT : Tr1 T) (hk : k ≤ 900) (hp : p.length < 100000) (hq : q.length < 100000) :
    Calls Tryd.prog 39 #[wp r, tx p, tx q] wr fun e w' => ∃ v, e = .returned v ∧ Done w m r k T v0 L v w' := by
  refine (h.renameE1 hk p q hp hq).mono ?_
  rintro e w' ⟨rfl, k'⟩
  refine ⟨_, rfl, ?_⟩
  by_cases hE : renameE T p q = 0
  · rw [hE]; exact .inl ⟨rfl, _, k', hT.rename p q⟩
  · rw [uev_ne hE]
    refine .inr ⟨_, rfl, ?_⟩
    rw [show renameN T p q = T by unfold renameN; rw [if_pos hE]] at k'
    exact k'
theorem KR.more (h : KR w m r k T v0 L wr) {k' : Nat} (hk : k ≤ k') : KR w m r k' T v0 L wr := ⟨h.st, h.row, h.lv, h.sm.more hk, h.bel, h.ml⟩
theorem new_three (w : World) (a b c : Value) (t : TypeId) : (w.alloc (.cells #[a, b, c] t)).cell? ⟨w.heap.size, 0, none⟩ = some a ∧ (w.alloc (.cells #[a, b, c] t)).cell? ⟨w.heap.size, 1, none⟩ = some b ∧ (w.alloc (.cells #[a, b, c] t)).cell? ⟨w.heap.size, 2, none⟩ = some c := by
  refine ⟨?_, ?_, ?_⟩ <;> simp

set_option maxRecDepth 100000 in
set_option maxHeartbeats 4000000 in
theorem name_ok (h : KR w m r k T v0 L wr) (hT : Tr1 T) (hk : k ≤ 900) (x : Int) (hp : p.length < 100000) (hq : q.length < 100000) :
    Calls Tryd.prog 33 #[wp r, .agg #[.int .i64 x, tx p, tx q]] wr fun e w' => ∃ v, e = .returned v ∧ Done w m r k T v0 L v w' := by
  have hA := h.below ((Below.refl _ wr).alloc (Nat.le_refl _) (.cells #[.int .i64 x, tx p, tx q] 75))
  have h0 := hA.mkdir1 (p := p) hT hk hp
  have h1 := hA.create1 (p := p) hT hk hp
  have h2 := hA.link1 (p := p) (q := q) hT hk hp hq
  have h3 := hA.unlink1 (p := p) hT hk hp
  have h4 := hA.rename1 (p := p) (q := q) hT hk hp hq
  have h5 : Done w m r k T v0 L .nilIface (wr.alloc (.cells #[.int .i64 x, tx p, tx q] 75)) := .inl ⟨rfl, T, hA.more (by omega), hT⟩
  clear h hA hT hk hp hq
  go_enter Tryd.func33, Tryd.ntmps33
  by_cases e0 : x = 0
  · subst e0
    go_wp2_with (go_at_call 67; refine h0.mono ?_; rintro e w1 ⟨n, v, rfl, hD⟩)
    go_ret
    exact ⟨_, rfl, hD⟩
  · by_cases e1 : x = 1
    · subst e1
      go_wp2_with (go_at_call 40; refine h1.mono ?_; rintro e w1 ⟨n, v, rfl, hD⟩)
      go_ret
      exact ⟨_, rfl, hD⟩
    · by_cases e2 : x = 2
      · subst e2
        go_wp2_with (go_at_call 43; refine h2.mono ?_; rintro e w1 ⟨v, rfl, hD⟩)
        go_ret
        exact ⟨_, rfl, hD⟩
      · by_cases e3 : x = 3
        · subst e3
          go_wp2_with (go_at_call 45; refine h3.mono ?_; rintro e w1 ⟨v, rfl, hD⟩)
          go_ret
          exact ⟨_, rfl, hD⟩
        · by_cases e4 : x = 4
          · subst e4
            go_wp2_with (go_at_call 39; refine h4.mono ?_; rintro e w1 ⟨v, rfl, hD⟩)
            go_ret
            exact ⟨_, rfl, hD⟩
          · go_wp2_with fail
            go_ret
            exact ⟨_, rfl, h5⟩
end
end Go.Proofs.YtpibokijbidgdabDoor

namespace Go.Proofs.YtpibokijbidgdabDoor
open Go.RowKit Go.Maps Go.Shelf

def cK (Q : List Int) (s : Nm) : Nat := (Q.filter (fun n => decide (dgi n = s))).length
def mK (Q : List Int) (s : Nm) : Option Value := if cK Q s = 0 then none else some (.int .i64 (cK Q s : Int))
section
variable {Q : List Int} {n k : Int} {s : Nm} {T : Wd}
theorem cK_add (Q : List Int) (n : Int) (s : Nm) : cK (Q ++ [n]) s = cK Q s + if dgi n = s then 1 else 0 := by
  unfold cK
  rw [List.filter_append, List.length_append]
  by_cases e : dgi n = s
  · simp [e]
  · simp [e]
theorem mK_look (Q : List Int) (s : Nm) : (mK Q s).getD (.int .i64 0) = .int .i64 (cK Q s : Int) := by
  unfold mK
  split
  · rename_i e; rw [e]; rfl
  · rfl
theorem mK_put (Q : List Int) (n : Int) : (fun i => if i = dgi n then some (.int .i64 ((cK Q (dgi n) : Int) + 1)) else mK Q i) = mK (Q ++ [n]) := by
  funext i
  unfold mK
  rw [cK_add]
  by_cases e : i = dgi n
  · subst e
    rw [if_pos rfl, if_pos rfl, if_neg (by omega)]
    rfl
  · have e2 : (if dgi n = i then 1 else 0) = 0 := if_neg (fun h => e h.symm)
    rw [if_neg e, e2, Nat.add_zero]
theorem mK_nil : mK [] = fun _ => none := by funext s; rfl
theorem mK_some : (mK Q s).isSome = true ↔ ∃ n ∈ Q, dgi n = s := by
  unfold mK cK
  constructor
  · intro h
    split at h
    · cases h
    · rename_i e
      obtain ⟨n, hn⟩ := List.exists_mem_of_length_pos (Nat.pos_of_ne_zero e)
      rw [List.mem_filter] at hn
      exact ⟨n, hn.1, by simpa using hn.2⟩
  · rintro ⟨n, hn, e⟩
    rw [if_neg]
    · rfl
    · exact Nat.ne_of_gt (List.length_pos_of_mem (List.mem_filter.2 ⟨hn, by simpa using e⟩))
/-- As many texts as nodes. -/
theorem size_nodes {W : World} {g z s : Nat} (m : SMap W g z (mK Q)) (hT : TrOk T) (hQ : ∀ n ∈ Q, (T n).isSome = true) (hQ2 : ∀ n, (T n).isSome = true → n ∈ Q) (hs : IsNum T s) : z = s := by
  obtain ⟨D, _, _, h1, h2, h3⟩ := m.data
  obtain ⟨ks, hn, rfl, hm⟩ := hs
  have hk : (ks.map dgi).Nodup := nodup_on hn (fun a ha b hb e => dgi_inj (hT.key a ((hm a).1 ha)) (hT.key b ((hm b).1 hb)) e)
  have hp : (strKeys D).Perm (ks.map dgi) := (List.perm_ext_iff_of_nodup h1 hk).2 (fun x => by
    rw [h3 x, mK_some]
    constructor
    · rintro ⟨n, hn, rfl⟩
      exact List.mem_map.2 ⟨n, (hm n).2 (hQ n hn), rfl⟩
    · intro hx
      obtain ⟨n, hn, rfl⟩ := List.mem_map.1 hx
      exact ⟨n, hQ2 n ((hm n).1 hn), rfl⟩)
  have := hp.length_eq
  rw [h2, List.length_map] at this
  exact this
/-- A directory is met once. -/
theorem once {P : List (List Nm × Int)} (hT : Tr1 T) (hn : (P.map (·.1)).Nodup) (hw : ∀ x ∈ P, Way T 0 x.1 x.2) (hm : ∃ l, (l, k) ∈ P) {C : List (Nm × Int)} (hk : T k = some (.dir C)) : ((P.map (·.2)).filter (fun n => decide (n = k))).length = 1 := by
  obtain ⟨l, hl⟩ := hm
  have hlw := hw _ hl
  have h0 : ∀ (R : List (List Nm × Int)), (∀ x ∈ R, Way T 0 x.1 x.2) → (∀ x ∈ R, x.1 ≠ l) → (R.map (·.2)).filter (fun n => decide (n = k)) = [] := by
    intro R hw hne
    rw [List.filter_eq_nil_iff]
    intro n hn
    obtain ⟨x, hx, rfl⟩ := List.mem_map.1 hn
    simp only [decide_eq_true_eq]
    intro e
    have h1 := hw x hx
    rw [e] at h1
    exact hne x hx (hT.same hk h1 hlw)
  have h1 : ∀ (R : List (List Nm × Int)), (R.map (·.1)).Nodup → (∀ x ∈ R, Way T 0 x.1 x.2) → (l, k) ∈ R → ((R.map (·.2)).filter (fun n => decide (n = k))).length = 1 := by
    intro R
    induction R with
    | nil => intro _ _ h; cases h
    | cons x R ih =>
      intro hn hw hm
      rw [List.map_cons, List.nodup_cons] at hn
      have hwR : ∀ y ∈ R, Way T 0 y.1 y.2 := fun y hy => hw y (List.mem_cons_of_mem _ hy)
      rw [List.map_cons]
      rcases List.mem_cons.1 hm with rfl | hm
      · rw [List.filter_cons_of_pos (by simp), h0 R hwR (fun y hy e => hn.1 (by
          show l ∈ R.map (·.1)
          rw [← e]; exact List.mem_map.2 ⟨y, hy, rfl⟩))]
        rfl
      · have hx : x.2 ≠ k := fun e => by
          have h2 := hw x List.mem_cons_self
          rw [e] at h2
          have h3 := hT.same hk h2 hlw
          exact hn.1 (by rw [h3]; exact List.mem_map.2 ⟨_, hm, rfl⟩)
        rw [List.filter_cons_of_neg (by simpa using hx)]
        exact ih hn.2 hwR hm
  exact h1 P hn hw hl
/-- What the two maps say of a directory. -/
theorem each_one (hT : TrOk T) (hQ : ∀ n ∈ Q, (T n).isSome = true) (h1 : ∀ k C, T k = some (.dir C) → (Q.filter (fun n => decide (n = k))).length = 1) {v : Value} (h : mK (Q.filter (fun n => isDirT T n)) s = some v) : v = .int .i64 1 ∧ (mK Q s).getD (.int .i64 0) = .int .i64 1 := by
  obtain ⟨k, hk, rfl⟩ := mK_some.1 (by rw [h]; rfl)
  rw [List.mem_filter] at hk
  obtain ⟨C, hC⟩ := isDir_dir hk.2
  have hkk := hT.key k (by rw [hC]; rfl)
  have hk1 := h1 k C hC
  have e1 : Q.filter (fun n => decide (dgi n = dgi k)) = Q.filter (fun n => decide (n = k)) := List.filter_congr (fun n hn => by
    by_cases e : n = k
    · simp [e]
    · have : dgi n ≠ dgi k := fun h => e (dgi_inj (hT.key n (hQ n hn)) hkk h)
      simp [e, this])
  have e2 : (Q.filter (fun n => isDirT T n)).filter (fun n => decide (dgi n = dgi k)) = Q.filter (fun n => decide (n = k)) := by
    rw [List.filter_filter, ← e1]
    refine List.filter_congr (fun n hn => ?_)
    by_cases e : dgi n = dgi k
    · have : n = k := dgi_inj (hT.key n (hQ n hn)) hkk e
      rw [this]; simp [hk.2]
    · simp [e]
  have c1 : cK Q (dgi k) = 1 := by unfold cK; rw [e1]; exact hk1
  have c2 : cK (Q.filter (fun n => isDirT T n)) (dgi k) = 1 := by unfold cK; rw [e2]; exact hk1
  refine ⟨?_, by rw [mK_look, c1]; rfl⟩
  unfold mK at h
  rw [c2] at h
  simp at h
  exact h.symm
end
end Go.Proofs.YtpibokijbidgdabDoor

namespace Go.Proofs.YtpibokijbidgdabDoor
open Go.RowKit Go.Maps Go.Shelf

structure Mp (w6 wx : World) (Q1 Q2 : List Int) : Prop where
  bel : Below w6.heap.size w6 wx
  n1 : ∃ z, z ≤ Q1.length ∧ SMap wx w6.heap.size z (mK Q1)
  n2 : ∃ z, z ≤ Q2.length ∧ SMap wx (w6.heap.size + 1) z (mK Q2)
section
variable {w6 wx w' : World} {Q1 Q2 : List Int} {n : Int} {z c : Nat}
theorem Mp.first (w : World) : Mp w ((w.alloc (.map #[] 0)).alloc (.map #[] 0)) [] [] := by
  have b1 : Below w.heap.size w (w.alloc (.map #[] 0)) := (Below.refl _ w).alloc (Nat.le_refl _) _
  have hs : (w.alloc (.map #[] 0)).heap.size = w.heap.size + 1 := by show (w.heap.push _).size = _; rw [Array.size_push]
  refine ⟨b1.alloc b1.size _, ⟨0, Nat.le_refl _, ?_⟩, ⟨0, Nat.le_refl _, ?_⟩⟩
  · rw [mK_nil]
    refine (SMap.made w).keep ?_
    exact Below.heap_alloc _ _ _ (by rw [hs]; omega)
  · rw [mK_nil, ← hs]
    exact SMap.made _
theorem Mp.below (h : Mp w6 wx Q1 Q2) (hb : Below wx.heap.size wx w') : Mp w6 w' Q1 Q2 := by
  obtain ⟨z1, l1, m1⟩ := h.n1
  obtain ⟨z2, l2, m2⟩ := h.n2
  exact ⟨h.bel.trans (hb.mono h.bel.size), ⟨z1, l1, m1.keep (hb.block _ m1.lt)⟩, ⟨z2, l2, m2.keep (hb.block _ m2.lt)⟩⟩
theorem Mp.look1 (h : Mp w6 wx Q1 Q2) (s : Nm) (hl : s.length ≤ 100) : (Instr.lookup 81 (.map (some w6.heap.size)) (tx s) false).run Tryd.prog wx = .ok (.int .i64 (cK Q1 s : Int)) wx := by
  obtain ⟨z1, l1, m1⟩ := h.n1
  rw [m1.look Tryd.underlying81 (zero_num _) s (by unfold maxLen; omega), mK_look]
theorem Mp.look2 (h : Mp w6 wx Q1 Q2) (s : Nm) (hl : s.length ≤ 100) : (Instr.lookup 81 (.map (some (w6.heap.size + 1))) (tx s) false).run Tryd.prog wx = .ok (.int .i64 (cK Q2 s : Int)) wx := by
  obtain ⟨z1, l1, m1⟩ := h.n2
  rw [m1.look Tryd.underlying81 (zero_num _) s (by unfold maxLen; omega), mK_look]
theorem Mp.put1 (h : Mp w6 wx Q1 Q2) (hc : cK Q1 (dgi n) = c) (hz : z ≤ Q1.length) (hm : SMap w' w6.heap.size (if (mK Q1 (dgi n)).isSome then z else z + 1) (fun i => if i = dgi n then some (.int .i64 ((c : Int) + 1)) else mK Q1 i)) (hg : wx.grownBy w' (some w6.heap.size)) : Mp w6 w' (Q1 ++ [n]) Q2 := by
  obtain ⟨z2, l2, m2⟩ := h.n2
  rw [← hc, mK_put] at hm
  refine ⟨h.bel.grown hg h.bel.size (fun i e => by cases e; exact Nat.le_refl _), ⟨_, ?_, hm⟩, ⟨z2, l2, m2.keep (hg.block _ m2.lt (fun e => by have := Option.some.inj e; omega))⟩⟩
  rw [List.length_append, List.length_singleton]
  split <;> omega
theorem Mp.put2 (h : Mp w6 wx Q1 Q2) (hc : cK Q2 (dgi n) = c) (hz : z ≤ Q2.length) (hm : SMap w' (w6.heap.size + 1) (if (mK Q2 (dgi n)).isSome then z else z + 1) (fun i => if i = dgi n then some (.int .i64 ((c : Int) + 1)) else mK Q2 i)) (hg : wx.grownBy w' (some (w6.heap.size + 1))) : Mp w6 w' Q1 (Q2 ++ [n]) := by
  obtain ⟨z1, l1, m1⟩ := h.n1
  rw [← hc, mK_put] at hm
  refine ⟨h.bel.grown hg h.bel.size (fun i e => by cases e; omega), ⟨z1, l1, m1.keep (hg.block _ m1.lt (fun e => by have := Option.some.inj e; omega))⟩, ⟨_, ?_, hm⟩⟩
  rw [List.length_append, List.length_singleton]
  split <;> omega
end
theorem cK_le (Q : List Int) (s : Nm) : cK Q s ≤ Q.length := List.length_filter_le _ _
end Go.Proofs.YtpibokijbidgdabDoor

namespace Go.Proofs.YtpibokijbidgdabDoor
open Go.RowKit Go.Maps Go.Shelf

def Qa (P : List (List Nm × Int)) (j : Nat) : List Int := (P.take j).map (·.2)
def Qb (T : Wd) (P : List (List Nm × Int)) (j : Nat) : List Int := (Qa P j).filter (fun n => isDirT T n)
theorem Qa_next {P : List (List Nm × Int)} {j : Nat} (h : j < P.length) : Qa P (j + 1) = Qa P j ++ [P[j].2] := by
  unfold Qa
  rw [List.take_succ_eq_append_getElem h, List.map_append]; rfl
theorem Qb_dir {T : Wd} {P : List (List Nm × Int)} {j : Nat} (h : j < P.length) (hd : isDirT T P[j].2 = true) : Qb T P (j + 1) = Qb T P j ++ [P[j].2] := by
  unfold Qb
  rw [Qa_next h, List.filter_append]
  simp [hd]
theorem Qb_file {T : Wd} {P : List (List Nm × Int)} {j : Nat} (h : j < P.length) (hd : ¬ isDirT T P[j].2 = true) : Qb T P (j + 1) = Qb T P j := by
  unfold Qb
  rw [Qa_next h, List.filter_append]
  simp [hd]
theorem Qa_len (P : List (List Nm × Int)) (j : Nat) : (Qa P j).length ≤ P.length := by unfold Qa; rw [List.length_map, List.length_take]; omega
theorem Qb_len (T : Wd) (P : List (List Nm × Int)) (j : Nat) : (Qb T P j).length ≤ P.length := Nat.le_trans (List.length_filter_le _ _) (Qa_len P j)

/-- A put into the map at g: what stood there, and what stands there then. -/
structure PutS (w6 V : World) (g : Nat) (Q : List Int) (D : List UInt8) (G : World → Prop) (z x : Nat) : Prop where
  map : SMap V g z (mK Q)
  zl : z < maxLen
  dl : D.length ≤ maxLen
  look : (mK Q D).getD (.int .i64 0) = .int .i64 (x : Int)
  xl : (x : Int) ≤ 60000
  wr : wrap64 ((x : Int) + 1) = (x : Int) + 1
  put : ∀ w', SMap w' g (if (mK Q D).isSome then z else z + 1) (fun i => if i = D then some (.int .i64 ((x : Int) + 1)) else mK Q i) → V.grownBy w' (some g) → G w'
section
variable {w w6 wr : World} {m : Int} {r k : Nat} {T : Wd} {P : List (List Nm × Int)} {j N B : Nat} {va : Option Addr} {vc : Nat}
theorem put_a (hM : Mp w6 wr (Qa P j) (Qb T P j)) (hj : j < P.length) (hl : P.length ≤ 60000) (hD : (dgi P[j].2).length ≤ 2) : ∃ z x, PutS w6 wr w6.heap.size (Qa P j) (dgi P[j].2) (fun w' => Mp w6 w' (Qa P (j + 1)) (Qb T P j)) z x := by
  obtain ⟨z, hz, m1⟩ := hM.n1
  have h1 := Qa_len P j
  have h2 := cK_le (Qa P j) (dgi P[j].2)
  refine ⟨z, cK (Qa P j) (dgi P[j].2), m1, by unfold maxLen; omega, by unfold maxLen; omega, mK_look _ _, by omega, by unfold wrap64; omega, fun w' hm hg => ?_⟩
  rw [Qa_next hj]
  exact hM.put1 rfl hz hm hg
theorem put_b (hM : Mp w6 wr (Qa P (j + 1)) (Qb T P j)) (hj : j < P.length) (hl : P.length ≤ 60000) (hD : (dgi P[j].2).length ≤ 2) (hd : isDirT T P[j].2 = true) : ∃ z x, PutS w6 wr (w6.heap.size + 1) (Qb T P j) (dgi P[j].2) (fun w' => Mp w6 w' (Qa P (j + 1)) (Qb T P (j + 1))) z x := by
  obtain ⟨z, hz, m1⟩ := hM.n2
  have h1 := Qb_len T P j
  have h2 := cK_le (Qb T P j) (dgi P[j].2)
  refine ⟨z, cK (Qb T P j) (dgi P[j].2), m1, by unfold maxLen; omega, by unfold maxLen; omega, mK_look _ _, by omega, by unfold wrap64; omega, fun w' hm hg => ?_⟩
  rw [Qb_dir hj hd]
  exact hM.put2 rfl hz hm hg
/-- The path's text, and its two parts. -/
structure TextS (wr : World) (ga j K : Nat) (F A D : List UInt8) : Prop where
  cell : ∀ V, Below wr.heap.size wr V → V.cell? ⟨ga, j, none⟩ = some (tx F)
  last : ∀ W, Calls Tryd.prog 36 #[tx F, .string ⟨#[61]⟩] W fun e w' => e = .returned (.int .i64 (K : Int)) ∧ w' = W
  s1 : ∀ W, (Instr.slice 9 (tx F) none (some (.int .i64 (K : Int))) none).run Tryd.prog W = .ok (tx A) W
  s2 : ∀ W, (Instr.slice 9 (tx F) (some (.int .i64 ((K : Int) + 1))) none none).run Tryd.prog W = .ok (tx D) W
  kl : (K : Int) ≤ 1000
  kf : (K : Int) + 1 ≤ (F.length : Int)
  w1 : wrap64 ((K : Int) + 1) = (K : Int) + 1
  w2 : IntKind.i64.wrap ((K : Int) + 1) = (K : Int) + 1
theorem text_at (hT : Tr1 T) (hw : ∀ x ∈ P, Way T 0 x.1 x.2) (row : TxR w6 B (.slice va P.length vc) (P.map fm)) (hb : Below w6.heap.size w6 wr) (hj : j < P.length) : ∃ ga K F, va = some ⟨ga, 0, none⟩ ∧ TextS wr ga j K F (ptx P[j].1) (dgi P[j].2) := by
  have hx := hw _ (List.getElem_mem hj)
  generalize hxe : P[j] = x at hx
  have hok := way_ok hT hx
  have hdp := hT.deep hx
  have hpl := ptx_len hok
  have hkey := hT.key x.2 (hx.isSome hT.toTrOk (by obtain ⟨C, e⟩ := hT.root; rw [e]; rfl))
  have hdl : (dgi x.2).length ≤ 2 := dg_short x.2.toNat (by omega)
  have hdn : (61 : UInt8) ∉ dgi x.2 := dg_plain x.2.toNat (by omega)
  have hne : P.map fm ≠ [] := fun e => by
    have h9 := congrArg List.length e
    simp at h9
    rw [h9] at hj
    simp at hj
  have hrow := row.below hb
  obtain ⟨ga, gc, hva, _, hcl⟩ := hrow.at.resolve_left hne
  have hva1 : va = some ⟨ga, 0, none⟩ := by injection hva
  refine ⟨ga, (ptx x.1).length, fm x, hva1, fun V hV => ?_, fun W => last_ok (ptx x.1) (dgi x.2) hdn (by rw [List.length_append, List.length_cons]; omega) W, fun W => ?_, fun W => ?_, by omega, by unfold fm; rw [List.length_append, List.length_cons]; omega, by unfold wrap64; omega, by rw [IntKind.wrap_i64]; omega⟩
  · obtain ⟨g2, c2, hv2, _, hcl2⟩ := (hrow.below hV).at.resolve_left hne
    have hva2 : va = some ⟨g2, 0, none⟩ := by injection hv2
    rw [hva1] at hva2
    cases hva2
    have := hcl2 j (by rw [List.length_map]; exact hj)
    rw [List.getElem_map, hxe] at this
    exact this
  · have := wtext_h (fm x) (ptx x.1).length (by unfold fm; simp) W
    rw [show (fm x).take (ptx x.1).length = ptx x.1 by unfold fm; simp] at this
    exact this
  · have := wtext_l (fm x) ((ptx x.1).length + 1) (by unfold fm; simp) W
    rw [show (fm x).drop ((ptx x.1).length + 1) = dgi x.2 by unfold fm; simp] at this
    exact this
/-- What the maps hold at the end. -/
theorem ends_ok (hT : Tr1 T) (hn : (P.map (·.1)).Nodup) (hw : ∀ x ∈ P, Way T 0 x.1 x.2) (ha : ∀ k, (T k).isSome = true → ∃ l, (l, k) ∈ P) (hN : P.length = N) (hM : Mp w6 wr (Qa P N) (Qb T P N)) {s : Nat} (hs : IsNum T s) : ∃ z, SMap wr w6.heap.size s (mK (Qa P N)) ∧ SMap wr (w6.heap.size + 1) z (mK (Qb T P N)) ∧ ∀ x v, mK (Qb T P N) x = some v → v = .int .i64 1 ∧ (mK (Qa P N) x).getD (.int .i64 0) = .int .i64 1 := by
  have hQ : Qa P N = P.map (·.2) := by unfold Qa; rw [List.take_of_length_le (by omega)]
  have hin : ∀ n ∈ Qa P N, (T n).isSome = true := fun n hm => by
    rw [hQ] at hm
    obtain ⟨x, hx, rfl⟩ := List.mem_map.1 hm
    exact (hw x hx).isSome hT.toTrOk (by obtain ⟨C, e⟩ := hT.root; rw [e]; rfl)
  obtain ⟨z1, _, m1⟩ := hM.n1
  obtain ⟨z2, _, m2⟩ := hM.n2
  have hz := size_nodes m1 hT.toTrOk hin (fun n hs => by
    obtain ⟨l, hl⟩ := ha n hs
    rw [hQ]
    exact List.mem_map.2 ⟨_, hl, rfl⟩) hs
  subst hz
  refine ⟨z2, m1, m2, fun x v hx => ?_⟩
  refine each_one hT.toTrOk hin (fun k C hk => ?_) hx
  rw [hQ]
  exact once hT hn hw (ha k (by rw [hk]; rfl)) hk
/-- What List tells of it. -/
theorem list_at (hT : Tr1 T) (hK : KT w m r k T w6) (hk : k ≤ 900) (hw : ∀ x ∈ P, Way T 0 x.1 x.2) (hj : j < P.length) : (dgi P[j].2).length ≤ 2 ∧ (isDirT T P[j].2 = true → ∀ V, Below w6.heap.size w6 V → Calls Tryd.prog 37 #[wp r, tx (ptx P[j].1)] V fun e w' => ∃ v, e = .returned (.tuple #[v, .nilIface]) ∧ Below V.heap.size V w') ∧ (¬ isDirT T P[j].2 = true → ∀ V, Below w6.heap.size w6 V → Calls Tryd.prog 37 #[wp r, tx (ptx P[j].1)] V fun e w' => e = .returned (.tuple #[.slice none 0 0, uer 6]) ∧ Below V.heap.size V w') := by
  have hx := hw _ (List.getElem_mem hj)
  generalize P[j] = x at hx
  have hok := way_ok hT hx
  have hdp := hT.deep hx
  have hpl := ptx_len hok
  have hnm := text_names hok
  have hkey := hT.key x.2 (hx.isSome hT.toTrOk (by obtain ⟨C, e⟩ := hT.root; rw [e]; rfl))
  refine ⟨dg_short x.2.toNat (by omega), fun hd V hV => ?_, fun hd V hV => ?_⟩
  · obtain ⟨C, hC⟩ := isDir_dir hd
    refine ((hK.below hV).listDir hk hnm hx hC (by omega)).mono ?_
    rintro e w' ⟨v, rfl, _, b⟩
    exact ⟨v, rfl, b⟩
  · exact (hK.below hV).listFile hnm hx (fun C e => hd (by unfold isDirT; rw [e])) (by omega)
end
end Go.Proofs.YtpibokijbidgdabDoor
