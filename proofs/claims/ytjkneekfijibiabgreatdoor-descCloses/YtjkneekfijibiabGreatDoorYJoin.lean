/- A tree plainly: where names lead, one behind the other; each directory is led to by one way alone. -/
import Derived.Test.YtjkneekfijibiabGreatDoorXSm
namespace Go.Proofs.YtjkneekfijibiabGreatDoor
open Go.RowKit Go.Maps

section
variable {T T' : Wd} {a b d k n : Int} {l r : List Nm} {nm : Nm}

/-- Names lead from a to k. -/
inductive Way (T : Wd) : Int → List Nm → Int → Prop
  | here (a : Int) : Way T a [] a
  | step {a n k : Int} {C : List (Nm × Int)} {s : Nm} {r : List Nm} : T a = some (.dir C) → C.lookup s = some n → Way T n r k → Way T a (s :: r) k

theorem way_lead : Way T a l k → leadT T a l = (k, 0) := by
  intro h
  induction h with
  | here a => rfl
  | step h1 h2 _ ih => rw [leadT_step _ h1 h2]; exact ih
theorem lead_way : ∀ (l : List Nm) (a : Int), (leadT T a l).2 = 0 → Way T a l (leadT T a l).1
  | [], a, _ => .here a
  | s :: r, a, h => by
    by_cases hd : ∃ C, T a = some (.dir C)
    · obtain ⟨C, hC⟩ := hd
      cases hl : C.lookup s with
      | none => rw [leadT_miss r hC hl] at h; simp at h
      | some n =>
        rw [leadT_step r hC hl] at h ⊢
        exact .step hC hl (lead_way r n h)
    · rw [leadT_file r (fun C e => hd ⟨C, e⟩)] at h; simp at h
theorem Way.one (h : Way T a l k) (h' : Way T a l n) : k = n := by
  have e := way_lead h
  rw [way_lead h'] at e
  exact (Prod.mk.inj e).1.symm
theorem Way.app (h : Way T a l b) (h' : Way T b r k) : Way T a (l ++ r) k := by
  induction h with
  | here a => exact h'
  | step h1 h2 _ ih => exact .step h1 h2 (ih h')
theorem Way.snoc {C : List (Nm × Int)} {s : Nm} (h : Way T a l b) (hb : T b = some (.dir C)) (hl : C.lookup s = some k) : Way T a (l ++ [s]) k := h.app (.step hb hl (.here k))
theorem Way.cut : ∀ {l : List Nm} {a : Int}, Way T a (l ++ r) k → ∃ b, Way T a l b ∧ Way T b r k
  | [], a, h => ⟨a, .here a, h⟩
  | s :: l, a, h => by
    cases h with
    | step h1 h2 h3 =>
      obtain ⟨b, e1, e2⟩ := Way.cut h3
      exact ⟨b, .step h1 h2 e1, e2⟩
theorem Way.unsnoc {s : Nm} (h : Way T a (l ++ [s]) k) : ∃ b C, Way T a l b ∧ T b = some (.dir C) ∧ C.lookup s = some k := by
  obtain ⟨b, h1, h2⟩ := h.cut
  cases h2 with
  | step e1 e2 e3 => cases e3; exact ⟨b, _, h1, e1, e2⟩
theorem Way.isSome (hT : TrOk T) (ha : (T a).isSome = true) (h : Way T a l k) : (T k).isSome = true := by
  have := hT.lead l a ha (by rw [way_lead h])
  rw [way_lead h] at this
  exact this

/-- All names of one tree are names of another one: ways stay. -/
theorem Way.mono (h : ∀ k C s n, T k = some (.dir C) → C.lookup s = some n → ∃ C', T' k = some (.dir C') ∧ C'.lookup s = some n) (hw : Way T a l k) : Way T' a l k := by
  induction hw with
  | here a => exact .here a
  | step h1 h2 _ ih =>
    obtain ⟨C', e1, e2⟩ := h _ _ _ _ h1 h2
    exact .step e1 e2 ih
/-- All but one name: a way stays, or goes through it; up to there it stays. -/
theorem Way.but (h : ∀ k C s n, T k = some (.dir C) → C.lookup s = some n → (k = d ∧ s = nm) ∨ ∃ C', T' k = some (.dir C') ∧ C'.lookup s = some n) (hw : Way T a l k) :
    Way T' a l k ∨ ∃ l1 l2, l = l1 ++ nm :: l2 ∧ Way T a l1 d ∧ Way T' a l1 d := by
  induction hw with
  | here a => exact .inl (.here a)
  | @step a n k C s r h1 h2 h3 ih =>
    rcases h _ _ _ _ h1 h2 with ⟨rfl, rfl⟩ | ⟨C', e1, e2⟩
    · exact .inr ⟨[], r, rfl, .here _, .here _⟩
    · rcases ih with ih | ⟨l1, l2, rfl, i1, i2⟩
      · exact .inl (.step e1 e2 ih)
      · exact .inr ⟨s :: l1, l2, rfl, .step h1 h2 i1, .step e1 e2 i2⟩
end

/-- What holds of a tree in which nothing is held: directories have one name each, and all is found. -/
structure Tr1 (T : Wd) : Prop extends TrLv T where
  free : ∀ k b x, T k = some (.file b x) → x = 0
  one : ∀ k C, T k = some (.dir C) → cntT T k ≤ 1
  reach : ∀ k, (T k).isSome = true → ∃ l, Way T 0 l k
  plain : ∀ k C x, T k = some (.dir C) → x ∈ C → (47 : UInt8) ∉ x.1

section
variable {T T' : Wd} {a b d k n : Int} {l r : List Nm} {nm : Nm}
/-- Two names lead to a node that one name leads to at most: they are one. -/
theorem cnt_two (hT : TrOk T) (h1 : cntT T k ≤ 1) {a b : Int} {C D : List (Nm × Int)} {s t : Nm} (ha : T a = some (.dir C)) (hs : C.lookup s = some k) (hb : T b = some (.dir D)) (ht : D.lookup t = some k) : a = b ∧ s = t := by
  have hd := cnt_del hT ha hs k
  rw [if_pos rfl] at hd
  have h0 : cntT (delT T a s) k = 0 := by omega
  by_cases e : a = b ∧ s = t
  · exact e
  · exfalso
    have hl : Led (delT T a s) k := by
      by_cases e1 : b = a
      · subst e1
        rw [ha] at hb; cases hb
        refine .inr ⟨b, _, t, by rw [delT_eq ha, setT_same], ?_⟩
        rw [lookup_del, if_neg (fun e2 => e ⟨rfl, e2.symm⟩)]
        exact ht
      · exact .inr ⟨b, D, t, by rw [delT_eq ha, setT_other _ e1]; exact hb, ht⟩
    rcases (led_cnt (hT.del a s) k).1 hl with e0 | e0
    · subst e0
      rcases Nat.lt_or_ge (cntT T 0) 1 with h9 | h9
      · have : cntT T 0 = 0 := by omega
        omega
      · -- two names of the root
        have h2 : cntT (delT T a s) 0 ≠ 0 := by
          rcases hl with _ | ⟨x, E, u, hx, hu⟩
          · -- the root itself: its second name is still there
            have hb' : ∃ E, delT T a s b = some (.dir E) ∧ E.lookup t = some 0 := by
              by_cases e1 : b = a
              · subst e1
                rw [ha] at hb; cases hb
                refine ⟨_, by rw [delT_eq ha, setT_same], ?_⟩
                rw [lookup_del, if_neg (fun e2 => e ⟨rfl, e2.symm⟩)]
                exact ht
              · exact ⟨D, by rw [delT_eq ha, setT_other _ e1]; exact hb, ht⟩
            obtain ⟨E, e1, e2⟩ := hb'
            have hkey := (hT.del a s).key b (by rw [e1]; rfl)
            obtain ⟨j, rfl⟩ : ∃ j : Nat, b = j := ⟨b.toNat, by omega⟩
            have g1 := cnt1_mem (lookup_mem e2)
            have g2 := cntTo_ge (T := delT T a s) (k := 0) (i := j) 64 (by omega)
            rw [e1] at g2
            unfold cntT; omega
          · have hkey := (hT.del a s).key x (by rw [hx]; rfl)
            obtain ⟨j, rfl⟩ : ∃ j : Nat, x = j := ⟨x.toNat, by omega⟩
            have g1 := cnt1_mem (lookup_mem hu)
            have g2 := cntTo_ge (T := delT T a s) (k := 0) (i := j) 64 (by omega)
            rw [hx] at g2
            unfold cntT; omega
        exact h2 h0
    · exact e0 h0
theorem TrLv.noroot (hT : TrLv T) {C : List (Nm × Int)} {s : Nm} (ha : T a = some (.dir C)) (hs : C.lookup s = some k) : k ≠ 0 := by
  rintro rfl
  have hd := cnt_del hT.toTrOk ha hs 0
  rw [if_pos rfl, hT.nr] at hd
  omega
/-- The ways to a directory are one. -/
theorem Tr1.unique (hT : Tr1 T) : ∀ (m : Nat) (l l' : List Nm) (k : Int) (C : List (Nm × Int)), l.length ≤ m → T k = some (.dir C) → Way T 0 l k → Way T 0 l' k → l = l'
  | m, l, l', k, C, hm, hk, h, h' => by
    rcases List.eq_nil_or_concat l with rfl | ⟨l0, s, rfl⟩
    · cases h
      rcases List.eq_nil_or_concat l' with rfl | ⟨l1, t, rfl⟩
      · rfl
      · rw [List.concat_eq_append] at h'
        obtain ⟨b, D, _, h2, h3⟩ := h'.unsnoc
        exact absurd rfl (hT.noroot h2 h3)
    · rw [List.concat_eq_append] at h hm ⊢
      obtain ⟨a, D, g1, g2, g3⟩ := h.unsnoc
      rcases List.eq_nil_or_concat l' with rfl | ⟨l1, t, rfl⟩
      · cases h'
        exact absurd rfl (hT.noroot g2 g3)
      · rw [List.concat_eq_append] at h' ⊢
        obtain ⟨b, E, f1, f2, f3⟩ := h'.unsnoc
        obtain ⟨rfl, rfl⟩ := cnt_two hT.toTrOk (hT.one k C hk) g2 g3 f2 f3
        cases m with
        | zero => simp at hm
        | succ m => rw [hT.unique m l0 l1 a D (by simp at hm; omega) g2 g1 f1]
theorem Tr1.same (hT : Tr1 T) {C : List (Nm × Int)} {l' : List Nm} (hk : T k = some (.dir C)) (h : Way T 0 l k) (h' : Way T 0 l' k) : l = l' := hT.unique l.length l l' k C (Nat.le_refl _) hk h h'
/-- No directory is led to from itself. -/
theorem Tr1.noring (hT : Tr1 T) {C : List (Nm × Int)} {s : Nm} (hk : T k = some (.dir C)) : ¬ Way T k (s :: r) k := fun h => by
  obtain ⟨l, hl⟩ := hT.reach k (by rw [hk]; rfl)
  have := hT.same hk hl (hl.app h)
  have := congrArg List.length this
  simp at this
end
end Go.Proofs.YtjkneekfijibiabGreatDoor

namespace Go.Proofs.YtjkneekfijibiabGreatDoor
open Go.RowKit Go.Maps

/-- Names, each with a slash ahead; the PATH of names. -/
def jn (l : List Nm) : List UInt8 := l.flatMap (fun s => 47 :: s)
def ptx (l : List Nm) : List UInt8 := if l = [] then [47] else jn l
/-- Names that may stand in a path. -/
def NmOk (s : Nm) : Prop := isName s = true ∧ (47 : UInt8) ∉ s
section
variable {p q : List UInt8} {l r : List Nm} {s : Nm}
theorem jn_nil : jn [] = [] := rfl
theorem jn_cons (s : Nm) (l : List Nm) : jn (s :: l) = 47 :: (s ++ jn l) := by unfold jn; rw [List.flatMap_cons]; rfl
theorem jn_app (l r : List Nm) : jn (l ++ r) = jn l ++ jn r := by unfold jn; rw [List.flatMap_append]
theorem ptx_nil : ptx [] = [47] := rfl
theorem ptx_ne (h : l ≠ []) : ptx l = jn l := if_neg h

theorem parts_slashless : ∀ {p : List UInt8} {x : Nm}, x ∈ parts p → (47 : UInt8) ∉ x
  | [], x, h => by simp [parts] at h; subst h; simp
  | b :: p, x, h => by
    by_cases e : b = 47
    · subst e
      rw [parts_slash] at h
      rcases List.mem_cons.1 h with rfl | h
      · simp
      · exact parts_slashless h
    · cases e2 : parts p with
      | nil => exact absurd e2 (parts_ne p)
      | cons y t =>
        rw [parts_other p e e2] at h
        rcases List.mem_cons.1 h with rfl | h
        · have := parts_slashless (p := p) (x := y) (by rw [e2]; exact List.mem_cons_self)
          simp only [List.mem_cons, not_or]
          exact ⟨fun e3 => e e3.symm, this⟩
        · exact parts_slashless (p := p) (by rw [e2]; exact List.mem_cons_of_mem _ h)
theorem parts_text : ∀ {p : List UInt8} {x : Nm} {t : List Nm}, parts p = x :: t → p = x ++ jn t
  | [], x, t, h => by simp [parts] at h; obtain ⟨rfl, rfl⟩ := h; rfl
  | b :: p, x, t, h => by
    cases e2 : parts p with
    | nil => exact absurd e2 (parts_ne p)
    | cons y u =>
      have ih := parts_text e2
      by_cases e : b = 47
      · subst e
        rw [parts_slash, e2] at h
        cases h
        rw [jn_cons, ih]; rfl
      · rw [parts_other p e e2] at h
        cases h
        rw [ih]; rfl
theorem parts_mid : ∀ {s : Nm} {p : List UInt8}, (47 : UInt8) ∉ s → parts (s ++ 47 :: p) = s :: parts p
  | [], p, _ => parts_slash p
  | b :: s, p, h => by
    simp only [List.mem_cons, not_or] at h
    exact parts_other _ (fun e => h.1 e.symm) (parts_mid h.2)
theorem parts_plain : ∀ {s : Nm}, (47 : UInt8) ∉ s → parts s = [s]
  | [], _ => rfl
  | b :: s, h => by
    simp only [List.mem_cons, not_or] at h
    exact parts_other _ (fun e => h.1 e.symm) (parts_plain h.2)
theorem parts_join : ∀ (r : List Nm) {s : Nm}, (47 : UInt8) ∉ s → (∀ x ∈ r, (47 : UInt8) ∉ x) → parts (s ++ jn r) = s :: r
  | [], s, h, _ => by rw [jn_nil, List.append_nil]; exact parts_plain h
  | x :: r, s, h, hr => by
    rw [jn_cons, parts_mid h, parts_join r (hr x List.mem_cons_self) (fun y hy => hr y (List.mem_cons_of_mem _ hy))]
theorem names_text (h : namesOf p = some l) : p = ptx l ∧ ∀ x ∈ l, NmOk x := by
  unfold namesOf at h
  by_cases e : p = [47]
  · rw [if_pos e] at h
    cases h
    exact ⟨e, fun x hx => by cases hx⟩
  · rw [if_neg e] at h
    split at h
    · rename_i x t hp
      split at h
      · rename_i ha
        cases h
        refine ⟨?_, fun y hy => ⟨List.all_eq_true.1 ha y hy, parts_slashless (p := p) (by rw [hp]; exact List.mem_cons_of_mem _ hy)⟩⟩
        rw [ptx_ne (by simp)]
        exact (parts_text hp).trans (List.nil_append _)
      · cases h
    · cases h
theorem text_names (h : ∀ x ∈ l, NmOk x) : namesOf (ptx l) = some l := by
  cases l with
  | nil => rfl
  | cons s r =>
    rw [ptx_ne (by simp)]
    have hs := h s List.mem_cons_self
    have hl := isName_len hs.1
    have hp : parts (jn (s :: r)) = [] :: s :: r := by
      have := parts_join (s :: r) (s := []) (by simp) (fun x hx => (h x hx).2)
      simpa using this
    unfold namesOf
    rw [if_neg (fun e => by
      rw [jn_cons] at e
      have := congrArg List.length e
      simp at this
      rw [this.1] at hl
      simp at hl), hp]
    simp only
    rw [if_pos (List.all_eq_true.2 (fun x hx => (h x hx).1))]
theorem ptx_inj {l r : List Nm} (hl : ∀ x ∈ l, NmOk x) (hr : ∀ x ∈ r, NmOk x) (h : ptx l = ptx r) : l = r := by
  have a := text_names hl
  rw [h, text_names hr] at a
  exact (Option.some.inj a).symm
theorem jn_len (h : ∀ x ∈ l, NmOk x) : (jn l).length ≤ 13 * l.length := by
  induction l with
  | nil => simp [jn_nil]
  | cons s r ih =>
    have := ih (fun x hx => h x (List.mem_cons_of_mem _ hx))
    have h1 := isName_len (h s List.mem_cons_self).1
    rw [jn_cons]
    simp
    omega
theorem ptx_len (h : ∀ x ∈ l, NmOk x) : (ptx l).length ≤ 13 * l.length + 1 := by
  unfold ptx
  split
  · simp
  · have := jn_len h; omega
/-- What stands behind a PATH. -/
theorem ptx_more (l : List Nm) (s : Nm) : ptx (l ++ [s]) = jn l ++ 47 :: s := by
  rw [ptx_ne (by simp), jn_app, jn_cons, jn_nil, List.append_nil]
theorem ptx_behind (hp : namesOf p = some l) (h0 : l ≠ []) (hq : namesOf q = some (l ++ s :: r)) : (p ++ [47]).isPrefixOf q = true := by
  rw [(names_text hp).1, (names_text hq).1, ptx_ne h0, ptx_ne (by simp), jn_app, jn_cons, List.isPrefixOf_iff_prefix]
  exact ⟨s ++ jn r, by simp⟩
theorem ptx_ahead (hp : namesOf p = some l) (h0 : l ≠ []) {l' : List Nm} (hq : namesOf q = some l') (h : (p ++ [47]).isPrefixOf q = true) : ∃ s r, l' = l ++ s :: r := by
  rw [List.isPrefixOf_iff_prefix] at h
  obtain ⟨t, ht⟩ := h
  obtain ⟨e1, o1⟩ := names_text hp
  have hpr : parts q = [] :: (l ++ parts t) := by
    rw [← ht, e1, ptx_ne h0]
    clear ht hq hp e1
    have key : ∀ (l : List Nm) (u : Nm), (47 : UInt8) ∉ u → (∀ x ∈ l, NmOk x) → parts (u ++ jn l ++ [47] ++ t) = u :: (l ++ parts t) := by
      intro l
      induction l with
      | nil =>
        intro u hu _
        rw [jn_nil]
        simp only [List.append_nil, List.append_assoc, List.singleton_append, List.nil_append]
        exact parts_mid hu
      | cons s r ih =>
        intro u hu hr
        rw [jn_cons]
        have e : u ++ 47 :: (s ++ jn r) ++ [47] ++ t = u ++ 47 :: (s ++ jn r ++ [47] ++ t) := by simp
        rw [e, parts_mid hu, ih s (hr s List.mem_cons_self).2 (fun x hx => hr x (List.mem_cons_of_mem _ hx))]
        rfl
    simpa using key l [] (by simp) o1
  unfold namesOf at hq
  split at hq
  · rename_i e
    exfalso
    rw [e] at hpr
    simp [parts] at hpr
    cases l with
    | nil => exact h0 rfl
    | cons s r =>
      have hs := isName_len (o1 s List.mem_cons_self).1
      simp at hpr
      rw [hpr.1] at hs
      simp at hs
  · rw [hpr] at hq
    cases l with
    | nil => exact absurd rfl h0
    | cons a l0 =>
      simp only [List.cons_append] at hq
      split at hq
      · cases hq
        cases hpt : parts t with
        | nil => exact absurd hpt (parts_ne t)
        | cons y u => exact ⟨y, u, rfl⟩
      · cases hq
end
end Go.Proofs.YtjkneekfijibiabGreatDoor
