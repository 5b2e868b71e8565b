/- A tree plainly: where names lead, one behind the other; each directory is led to by one way alone. -/
import Derived.Test.YtpibokijbidgdabDoorXSm
namespace Go.Proofs.YtpibokijbidgdabDoor
open Go.RowKit Go.Maps

section
variable {T T' : Wd} {a b d k n : Int} {l r : List Nm} {nm : Nm}

/-- Names lead from a to k. -/
inductive Way (T : Wd) : Int → List Nm → Int → Prop
  | here (a : Int) : Way T a [] a
  | step {a n k : Int} {C : List (Nm × Int)} {s : Nm} {r : List Nm} : T a = some (.dir C) → C.lookup s = some n → Way T n r k → Way T a (s :: r) k

theorem way_lead : Way T a l k → leadT T a l = (k, 0) := by
  intro h
  induction h with
  | here a => rfl
  | step h1 h2 _ ih => rw [leadT_step _ h1 h2]; exact ih
theorem lead_way : ∀ (l : List Nm) (a : Int), (leadT T a l).2 = 0 → Way T a l (leadT T a l).1
  | [], a, _ => .here a
  | s :: r, a, h => by
    by_cases hd : ∃ C, T a = some (.dir C)
    · obtain ⟨C, hC⟩ := hd
      cases hl : C.lookup s with
      | none => rw [leadT_miss r hC hl] at h; simp at h
      | some n =>
        rw [leadT_step r hC hl] at h ⊢
        exact .step hC hl (lead_way r n h)
    · rw [leadT_file r (fun C e => hd ⟨C, e⟩)] at h; simp at h
theorem Way.one (h : Way T a l k) (h' : Way T a l n) : k = n := by
  have e := way_lead h
  rw [way_lead h'] at e
  exact (Prod.mk.inj e).1.symm
theorem Way.app (h : Way T a l b) (h' : Way T b r k) : Way T a (l ++ r) k := by
  induction h with
  | here a => exact h'
  | step h1 h2 _ ih => exact .step h1 h2 (ih h')
theorem Way.snoc {C : List (Nm × Int)} {s : Nm} (h : Way T a l b) (hb : T b = some (.dir C)) (hl : C.lookup s = some k) : Way T a (l ++ [s]) k := h.app (.step hb hl (.here k))
theorem Way.cut : ∀ {l : List Nm} {a : Int}, Way T a (l ++ r) k → ∃ b, Way T a l b ∧ Way T b r k
  | [], a, h => ⟨a, .here a, h⟩
  | s :: l, a, h => by
    cases h with
    | step h1 h2 h3 =>
      obtain ⟨b, e1, e2⟩ := Way.cut h3
      exact ⟨b, .step h1 h2 e1, e2⟩
theorem Way.unsnoc {s : Nm} (h : Way T a (l ++ [s]) k) : ∃ b C, Way T a l b ∧ T b = some (.dir C) ∧ C.lookup s = some k := by
  obtain ⟨b, h1, h2⟩ := h.cut
  cases h2 with
  | step e1 e2 e3 => cases e3; exact ⟨b, _, h1, e1, e2⟩
theorem Way.isSome (hT : TrOk T) (ha : (T a).isSome = true) (h : Way T a l k) : (T k).isSome = true := by
  have := hT.lead l a ha (by rw [way_lead h])
  rw [way_lead h] at this
  exact this

/-- All names of one tree are names of another one: ways stay. -/
theorem Way.mono (h : ∀ k C s n, T k = some (.dir C) → C.lookup s = some n → ∃ C', T' k = some (.dir C') ∧ C'.lookup s = some n) (hw : Way T a l k) : Way T' a l k := by
  induction hw with
  | here a => exact .here a
  | step h1 h2 _ ih =>
    obtain ⟨C', e1, e2⟩ := h _ _ _ _ h1 h2
    exact .step e1 e2 ih
/-- All but one name: a way stays, or goes through it; up to there it stays. -/
theorem Way.but (h : ∀ k C s n, T k = some (.dir C) → C.lookup s = some n → (k = d ∧ s = nm) ∨ ∃ C', T' k = some (.dir C') ∧ C'.lookup s = some n) (hw : Way T a l k) :
    Way T' a l k ∨ ∃ l1 l2, l = l1 ++ nm :: l2 ∧ Way T a l1 d ∧ Way T' a l1 d := by
  induction hw with
  | here a => exact .inl (.here a)
  | @step a n k C s r h1 h2 h3 ih =>
    rcases h _ _ _ _ h1 h2 with ⟨rfl, rfl⟩ | ⟨C', e1, e2⟩
    · exact .inr ⟨[], r, rfl, .here _, .here _⟩
    · rcases ih with ih | ⟨l1, l2, rfl, i1, i2⟩
      · exact .inl (.step e1 e2 ih)
      · exact .inr ⟨s :: l1, l2, rfl, .step h1 h2 i1, .step e1 e2 i2⟩
end

/-- What holds of a tree in which nothing is held: directories have one name each, and all is found. -/
structure Tr1 (T : Wd) : Prop extends TrLv T where
  free : ∀ k b x, T k = some (.file b x) → x = 0
  one : ∀ k C, T k = some (.dir C) → cntT T k ≤ 1
  reach : ∀ k, (T k).isSome = true → ∃ l, Way T 0 l k
  plain : ∀ k C x, T k = some (.dir C) → x ∈ C → (47 : UInt8) ∉ x.1

section
variable {T T' : Wd} {a b d k n : Int} {l r : List Nm} {nm : Nm}
/-- Two names lead to a node that one name leads to at most: they are one. -/
theorem cnt_two (hT : TrOk T) (h1 : cntT T k ≤ 1) {a b : Int} {C D : List (Nm × Int)} {s t : Nm} (ha : T a = some (.dir C)) (hs : C.lookup s = some k) (hb : T b = some (.dir D)) (ht : D.lookup t = some k) : a = b ∧ s = t := by
  have hd := cnt_del hT ha hs k
  rw [if_pos rfl] at hd
  have h0 : cntT (delT T a s) k = 0 := by omega
  by_cases e : a = b ∧ s = t
  · exact e
  · exfalso
    have hl : Led (delT T a s) k := by
      by_cases e1 : b = a
      · subst e1
        rw [ha] at hb; cases hb
        refine .inr ⟨b, _, t, by rw [delT_eq ha, setT_same], ?_⟩
        rw [lookup_del, if_neg (fun e2 => e ⟨rfl, e2.symm⟩)]
        exact ht
      · exact .inr ⟨b, D, t, by rw [delT_eq ha, setT_other _ e1]; exact hb, ht⟩
    rcases (led_cnt (hT.del a s) k).1 hl with e0 | e0
    · subst e0
      rcases Nat.lt_or_ge (cntT T 0) 1 with h9 | h9
      · have : cntT T 0 = 0 := by omega
        omega
      · -- two names of the root
        have h2 : cntT (delT T a s) 0 ≠ 0 := by
          rcases hl with _ | ⟨x, E, u, hx, hu⟩
          · -- the root itself: its second name is still there
            have hb' : ∃ E, delT T a s b = some (.dir E) ∧ E.lookup t = some 0 := by
              by_cases e1 : b = a
              · subst e1
                rw [ha] at hb; cases hb
                refine ⟨_, by rw [delT_eq ha, setT_same], ?_⟩
                rw [lookup_del, if_neg (fun e2 => e ⟨rfl, e2.symm⟩)]
                exact ht
              · exact ⟨D, by rw [delT_eq ha, setT_other _ e1]; exact hb, ht⟩
            obtain ⟨E, e1, e2⟩ := hb'
            have hkey := (hT.del a s).key b (by rw [e1]; rfl)
            obtain ⟨j, rfl⟩ : ∃ j : Nat, b = j := ⟨b.toNat, by omega⟩
            have g1 := cnt1_mem (lookup_mem e2)
            have g2 := cntTo_ge (T := delT T a s) (k := 0) (i := j) 64 (by omega)
            rw [e1] at g2
            unfold cntT; omega
          · have hkey := (hT.del a s).key x (by rw [hx]; rfl)
            obtain ⟨j, rfl⟩ : ∃ j : Nat, x = j := ⟨x.toNat, by omega⟩
            have g1 := cnt1_mem (lookup_mem hu)
            have g2 := cntTo_ge (T := delT T a s) (k := 0) (i := j) 64 (by omega)
            rw [hx] at g2
            unfold cntT; omega
        exact h2 h0
    · exact e0 h0
theorem TrLv.noroot (hT : TrLv T) {C : List (Nm × Int)} {s : Nm} (ha : T a = some (.dir C)) (hs : C.lookup s = some k) : k ≠ 0 := by
  rintro rfl
  have hd := cnt_del hT.toTrOk ha hs 0
  rw [if_pos rfl, hT.nr] at hd
  omega
/-- The ways to a directory are one. -/
theorem Tr1.unique (hT : Tr1 T) : ∀ (m : Nat) (l l' : List Nm) (k : Int) (C : List (Nm × Int)), l.length ≤ m → T k = some (.dir C) → Way T 0 l k → Way T 0 l' k → l = l'
  | m, l, l', k, C, hm, hk, h, h' => by
    rcases List.eq_nil_or_concat l with rfl | ⟨l0, s, rfl⟩
    · cases h
      rcases List.eq_nil_or_concat l' with rfl | ⟨l1, t, rfl⟩
      · rfl
      · rw [List.concat_eq_append] at h'
        obtain ⟨b, D, _, h2, h3⟩ := h'.unsnoc
        exact absurd rfl (hT.noroot h2 h3)
    · rw [List.concat_eq_append] at h hm ⊢
      obtain ⟨a, D, g1, g2, g3⟩ := h.unsnoc
      rcases List.eq_nil_or_concat l' with rfl | ⟨l1, t, rfl⟩
      · cases h'
        exact absurd rfl (hT.noroot g2 g3)
      · rw [List.concat_eq_append] at h' ⊢
        obtain ⟨b, E, f1, f2, f3⟩ := h'.unsnoc
        obtain ⟨rfl, rfl⟩ := cnt_two hT.toTrOk (hT.one k C hk) g2 g3 f2 f3
        cases m with
        | zero => simp at hm
        | succ m => rw [hT.unique m l0 l1 a D (by simp at hm; omega) g2 g1 f1]
theorem Tr1.same (hT : Tr1 T) {C : List (Nm × Int)} {l' : List Nm} (hk : T k = some (.dir C)) (h : Way T 0 l k) (h' : Way T 0 l' k) : l = l' := hT.unique l.length l l' k C (Nat.le_refl _) hk h h'
/-- No directory is led to from itself. -/
theorem Tr1.noring (hT : Tr1 T) {C : List (Nm × Int)} {s : Nm} (hk : T k = some (.dir C)) : ¬ Way T k (s :: r) k := fun h => by
  obtain ⟨l, hl⟩ := hT.reach k (by rw [hk]; rfl)
  have := hT.same hk hl (hl.app h)
  have := congrArg List.length this
  simp at this
end
end Go.Proofs.YtpibokijbidgdabDoor

namespace Go.Proofs.YtpibokijbidgdabDoor
open Go.RowKit Go.Maps

/-- Names, each with a slash ahead; the PATH of names. -/
def jn (l : List Nm) : List UInt8 := l.flatMap (fun s => 47 :: s)
def ptx (l : List Nm) : List UInt8 := if l = [] then [47] else jn l
/-- Names that may stand in a path. -/
def NmOk (s : Nm) : Prop := isName s = true ∧ (47 : UInt8) ∉ s
section
variable {p q : List UInt8} {l r : List Nm} {s : Nm}
theorem jn_nil : jn [] = [] := rfl
theorem jn_cons (s : Nm) (l : List Nm) : jn (s :: l) = 47 :: (s ++ jn l) := by unfold jn; rw [List.flatMap_cons]; rfl
theorem jn_app (l r : List Nm) : jn (l ++ r) = jn l ++ jn r := by unfold jn; rw [List.flatMap_append]
theorem ptx_nil : ptx [] = [47] := rfl
theorem ptx_ne (h : l ≠ []) : ptx l = jn l := if_neg h

theorem parts_slashless : ∀ {p : List UInt8} {x : Nm}, x ∈ parts p → (47 : UInt8) ∉ x
  | [], x, h => by simp [parts] at h; subst h; simp
  | b :: p, x, h => by
    by_cases e : b = 47
    · subst e
      rw [parts_slash] at h
      rcases List.mem_cons.1 h with rfl | h
      · simp
      · exact parts_slashless h
    · cases e2 : parts p with
      | nil => exact absurd e2 (parts_ne p)
      | cons y t =>
        rw [parts_other p e e2] at h
        rcases List.mem_cons.1 h with rfl | h
        · have := parts_slashless (p := p) (x := y) (by rw [e2]; exact List.mem_cons_self)
          simp only [List.mem_cons, not_or]
          exact ⟨fun e3 => e e3.symm, this⟩
        · exact parts_slashless (p := p) (by rw [e2]; exact List.mem_cons_of_mem _ h)
theorem parts_text : ∀ {p : List UInt8} {x : Nm} {t : List Nm}, parts p = x :: t → p = x ++ jn t
  | [], x, t, h => by simp [parts] at h; obtain ⟨rfl, rfl⟩ := h; rfl
  | b :: p, x, t, h => by
    cases e2 : parts p with
    | nil => exact absurd e2 (parts_ne p)
    | cons y u =>
      have ih := parts_text e2
      by_cases e : b = 47
      · subst e
        rw [parts_slash, e2] at h
        cases h
        rw [jn_cons, ih]; rfl
      · rw [parts_other p e e2] at h
        cases h
        rw [ih]; rfl
theorem parts_mid : ∀ {s : Nm} {p : List UInt8}, (47 : UInt8) ∉ s → parts (s ++ 47 :: p) = s :: parts p
  | [], p, _ => parts_slash p
  | b :: s, p, h => by
    simp only [List.mem_cons, not_or] at h
    exact parts_other _ (fun e => h.1 e.symm) (parts_mid h.2)
theorem parts_plain : ∀ {s : Nm}, (47 : UInt8) ∉ s → parts s = [s]
  | [], _ => rfl
  | b :: s, h => by
    simp only [List.mem_cons, not_or] at h
    exact parts_other _ (fun e => h.1 e.symm) (parts_plain h.2)
theorem parts_join : ∀ (r : List Nm) {s : Nm}, (47 : UInt8) ∉ s → (∀ x ∈ r, (47 : UInt8) ∉ x) → parts (s ++ jn r) = s :: r
  | [], s, h, _ => by rw [jn_nil, List.append_nil]; exact parts_plain h
  | x :: r, s, h, hr => by
    rw [jn_cons, parts_mid h, parts_join r (hr x List.mem_cons_self) (fun y hy => hr y (List.mem_cons_of_mem _ hy))]
theorem names_text (h : namesOf p = some l) : p = ptx l ∧ ∀ x ∈ l, NmOk x := by
  unfold namesOf at h
  by_cases e : p = [47]
  · rw [if_pos e] at h
    cases h
    exact ⟨e, fun x hx => by cases hx⟩
  · rw [if_neg e] at h
    split at h
    · rename_i x t hp
      split at h
      · rename_i ha
        cases h
        refine ⟨?_, fun y hy => ⟨List.all_eq_true.1 ha y hy, parts_slashless (p := p) (by rw [hp]; exact List.mem_cons_of_mem _ hy)⟩⟩
        rw [ptx_ne (by simp)]
        exact (parts_text hp).trans (List.nil_append _)
      · cases h
    · cases h
theorem text_names (h : ∀ x ∈ l, NmOk x) : namesOf (ptx l) = some l := by
  cases l with
  | nil => rfl
  | cons s r =>
    rw [ptx_ne (by simp)]
    have hs := h s List.mem_cons_self
    have hl := isName_len hs.1
    have hp : parts (jn (s :: r)) = [] :: s :: r := by
      have := parts_join (s :: r) (s := []) (by simp) (fun x hx => (h x hx).2)
      simpa using this
    unfold namesOf
    rw [if_neg (fun e => by
      rw [jn_cons] at e
      have := congrArg List.length e
      simp at this
      rw [this.1] at hl
      simp at hl), hp]
    simp only
    rw [if_pos (List.all_eq_true.2 (fun x hx => (h x hx).1))]
theorem ptx_inj {l r : List Nm} (hl : ∀ x ∈ l, NmOk x) (hr : ∀ x ∈ r, NmOk x) (h : ptx l = ptx r) : l = r := by
  have a := text_names hl
  rw [h, text_names hr] at a
  exact (Option.some.inj a).symm
theorem jn_len (h : ∀ x ∈ l, NmOk x) : (jn l).length ≤ 13 * l.length := by
  induction l with
  | nil => simp [jn_nil]
  | cons s r ih =>
    have := ih (fun x hx => h x (List.mem_cons_of_mem _ hx))
    have h1 := isName_len (h s List.mem_cons_self).1
    rw [jn_cons]
    simp
    omega
theorem ptx_len (h : ∀ x ∈ l, NmOk x) : (ptx l).length ≤ 13 * l.length + 1 := by
  unfold ptx
  split
  · simp
  · have := jn_len h; omega
/-- What stands behind a PATH. -/
theorem ptx_more (l : List Nm) (s : Nm) : ptx (l ++ [s]) = jn l ++ 47 :: s := by
  rw [ptx_ne (by simp), jn_app, jn_cons, jn_nil, List.append_nil]
theorem ptx_behind (hp : namesOf p = some l) (h0 : l ≠ []) (hq : namesOf q = some (l ++ s :: r)) : (p ++ [47]).isPrefixOf q = true := by
  rw [(names_text hp).1, (names_text hq).1, ptx_ne h0, ptx_ne (by simp), jn_app, jn_cons, List.isPrefixOf_iff_prefix]
  exact ⟨s ++ jn r, by simp⟩
theorem ptx_ahead (hp : namesOf p = some l) (h0 : l ≠ []) {l' : List Nm} (hq : namesOf q = some l') (h : (p ++ [47]).isPrefixOf q = true) : ∃ s r, l' = l ++ s :: r := by
  rw [List.isPrefixOf_iff_prefix] at h
  obtain ⟨t, ht⟩ := h
  obtain ⟨e1, o1⟩ := names_text hp
  have hpr : parts q = [] :: (l ++ parts t) := by
    rw [← ht, e1, ptx_ne h0]
    clear ht hq hp e1
    have key : ∀ (l : List Nm) (u : Nm), (47 : UInt8) ∉ u → (∀ x ∈ l, NmOk x) → parts (u ++ jn l ++ [47] ++ t) = u :: (l ++ parts t) := by
      intro l
      induction l with
      | nil =>
        intro u hu _
        rw [jn_nil]
        simp only [List.append_nil, List.append_assoc, List.singleton_append, List.nil_append]
        exact parts_mid hu
      | cons s r ih =>
        intro u hu hr
        rw [jn_cons]
        have e : u ++ 47 :: (s ++ jn r) ++ [47] ++ t = u ++ 47 :: (s ++ jn r ++ [47] ++ t) := by simp
        rw [e, parts_mid hu, ih s (hr s List.mem_cons_self).2 (fun x hx => hr x (List.mem_cons_of_mem _ hx))]
        rfl
    simpa using key l [] (by simp) o1
  unfold namesOf at hq
  split at hq
  · rename_i e
    exfalso
    rw [e] at hpr
    simp [parts] at hpr
    cases l with
    | nil => exact h0 rfl
    | cons s r =>
      have hs := isName_len (o1 s List.mem_cons_self).1
      simp at hpr
      rw [hpr.1] at hs
      simp at hs
  · rw [hpr] at hq
    cases l with
    | nil => exact absurd rfl h0
    | cons a l0 =>
      simp only [List.cons_append] at hq
      split at hq
      · cases hq
        cases hpt : parts t with
        | nil => exact absurd hpt (parts_ne t)
        | cons y u => exact ⟨y, u, rfl⟩
      · cases hq
end
end Go.Proofs.YtpibokijbidgdabDoor

namespace Go.Proofs.YtpibokijbidgdabDoor
open Go.RowKit Go.Maps

section
variable {T T' : Wd} {a b d k n : Int} {l r : List Nm} {nm : Nm} {p q : List UInt8}
theorem find_way (h : (findT T p).2 = 0) : ∃ l, namesOf p = some l ∧ Way T 0 l (findT T p).1 := by
  unfold findT at h ⊢
  cases hn : namesOf p with
  | none => rw [hn] at h; simp at h
  | some l => rw [hn] at h; exact ⟨l, rfl, lead_way l 0 h⟩
theorem way_find (hn : namesOf p = some l) (h : Way T 0 l k) : findT T p = (k, 0) := by
  unfold findT
  rw [hn]
  exact way_lead h
theorem place_way (h : (placeT T p).2.2 = 0) : ∃ l, namesOf p = some (l ++ [(placeT T p).2.1]) ∧ Way T 0 l (placeT T p).1 := by
  unfold placeT at h ⊢
  cases hn : namesOf p with
  | none => rw [hn] at h; simp at h
  | some l =>
    rw [hn] at h
    simp only at h ⊢
    by_cases h0 : l = []
    · rw [if_pos h0] at h; simp at h
    · rw [if_neg h0] at h ⊢
      by_cases h1 : (leadT T 0 l.dropLast).2 ≠ 0
      · rw [if_pos h1] at h; exact absurd h h1
      · rw [if_neg h1] at h ⊢
        cases hd : T (leadT T 0 l.dropLast).1 with
        | none => rw [hd] at h; simp at h
        | some nd => cases nd with
          | file b x => rw [hd] at h; simp at h
          | dir C =>
            refine ⟨l.dropLast, ?_, lead_way _ _ (Classical.not_not.1 h1)⟩
            show some l = some (l.dropLast ++ [l.getLastD []])
            rw [List.getLastD_eq_getLast?, List.getLast?_eq_some_getLast h0, Option.getD_some, List.dropLast_concat_getLast h0]
theorem way_place {C : List (Nm × Int)} (hn : namesOf p = some (l ++ [nm])) (h : Way T 0 l d) (hd : T d = some (.dir C)) : placeT T p = (d, nm, 0) := by
  unfold placeT
  rw [hn]
  simp only
  rw [if_neg (by simp), List.dropLast_concat, way_lead h]
  simp only
  rw [if_neg (by simp), hd]
  simp
/-- One name more. -/
theorem add_mono {C : List (Nm × Int)} (hd : T d = some (.dir C)) (hl : C.lookup nm = none) : ∀ k D s m, T k = some (.dir D) → D.lookup s = some m → ∃ C', addT T d nm n k = some (.dir C') ∧ C'.lookup s = some m := by
  intro k D s m hk hs
  rw [addT_eq hd]
  by_cases e : k = d
  · subst e
    rw [hd] at hk; cases hk
    refine ⟨_, setT_same _ _ _, ?_⟩
    have hne : s ≠ nm := fun e => by rw [e, hl] at hs; cases hs
    have : (s == nm) = false := by simp [hne]
    rw [List.lookup, this]
    exact hs
  · exact ⟨D, by rw [setT_other _ e]; exact hk, hs⟩
theorem add_at {C : List (Nm × Int)} (hd : T d = some (.dir C)) : addT T d nm n d = some (.dir ((nm, n) :: C)) := by rw [addT_eq hd, setT_same]
/-- One name less. -/
theorem del_but : ∀ k D s m, T k = some (.dir D) → D.lookup s = some m → (k = d ∧ s = nm) ∨ ∃ C', delT T d nm k = some (.dir C') ∧ C'.lookup s = some m := by
  intro k D s m hk hs
  by_cases e : k = d
  · subst e
    by_cases e2 : s = nm
    · exact .inl ⟨rfl, e2⟩
    · refine .inr ⟨_, by rw [delT_eq hk, setT_same], ?_⟩
      rw [lookup_del, if_neg e2]
      exact hs
  · refine .inr ⟨D, ?_, hs⟩
    cases hd : T d with
    | none => rw [show delT T d nm = T by unfold delT; rw [hd]]; exact hk
    | some nd => cases nd with
      | file b x => rw [show delT T d nm = T by unfold delT; rw [hd]]; exact hk
      | dir C => rw [delT_eq hd, setT_other _ e]; exact hk
theorem del_sub {C : List (Nm × Int)} (h : delT T d nm k = some (.dir C)) : ∃ D, T k = some (.dir D) ∧ ∀ x ∈ C, x ∈ D := by
  cases hd : T d with
  | none => rw [show delT T d nm = T by unfold delT; rw [hd]] at h; exact ⟨C, h, fun x hx => hx⟩
  | some nd => cases nd with
    | file b x => rw [show delT T d nm = T by unfold delT; rw [hd]] at h; exact ⟨C, h, fun x hx => hx⟩
    | dir D =>
      rw [delT_eq hd] at h
      by_cases e : k = d
      · subst e
        rw [setT_same] at h; cases h
        exact ⟨D, hd, fun x hx => (List.mem_filter.1 hx).1⟩
      · rw [setT_other _ e] at h
        exact ⟨C, h, fun x hx => hx⟩
theorem del_file {b : List UInt8} {x : Nat} (h : delT T d nm k = some (.file b x)) : T k = some (.file b x) := by
  cases hd : T d with
  | none => rw [show delT T d nm = T by unfold delT; rw [hd]] at h; exact h
  | some nd => cases nd with
    | file b x => rw [show delT T d nm = T by unfold delT; rw [hd]] at h; exact h
    | dir D =>
      rw [delT_eq hd] at h
      by_cases e : k = d
      · subst e; rw [setT_same] at h; cases h
      · rw [setT_other _ e] at h; exact h
theorem add_sub {C D : List (Nm × Int)} (hd : T d = some (.dir C)) (h : addT T d nm n k = some (.dir D)) : ∃ E, T k = some (.dir E) ∧ ∀ x ∈ D, x = (nm, n) ∨ x ∈ E := by
  rw [addT_eq hd] at h
  by_cases e : k = d
  · subst e
    rw [setT_same] at h; cases h
    exact ⟨C, hd, fun x hx => List.mem_cons.1 hx⟩
  · rw [setT_other _ e] at h
    exact ⟨D, h, fun x hx => .inr hx⟩
theorem add_file {C : List (Nm × Int)} {b : List UInt8} {x : Nat} (hd : T d = some (.dir C)) (h : addT T d nm n k = some (.file b x)) : T k = some (.file b x) := by
  rw [addT_eq hd] at h
  by_cases e : k = d
  · subst e; rw [setT_same] at h; cases h
  · rw [setT_other _ e] at h; exact h
theorem add_some {C : List (Nm × Int)} (hd : T d = some (.dir C)) : (addT T d nm n k).isSome = (T k).isSome := by
  rw [addT_eq hd]
  by_cases e : k = d
  · subst e; rw [setT_same, hd]; rfl
  · rw [setT_other _ e]

theorem Tr1.null : Tr1 nullT := by
  refine ⟨nullT_lv, fun k b x e => ?_, fun k C e => ?_, fun k e => ?_, fun k C x e hx => ?_⟩
  · obtain ⟨_, e9⟩ := nullT_node e; cases e9
  · obtain ⟨rfl, _⟩ := nullT_node e
    rw [nullT_lv.nr]; omega
  · cases hk : nullT k with
    | none => rw [hk] at e; cases e
    | some nd =>
      obtain ⟨rfl, _⟩ := nullT_node hk
      exact ⟨[], .here 0⟩
  · obtain ⟨_, e9⟩ := nullT_node e; cases e9; cases hx

/-- A new node. -/
theorem Tr1.make {s : Nat} (h : Tr1 T) (hE : makeE T s p = 0) (hn : IsFree T n) (h1 : n < 64) (dir : Bool) : Tr1 (makeN T p dir n) := by
  obtain ⟨hp, ⟨C, hd, hl⟩, hnm, _⟩ := makeE_zero h.toTrOk hE
  obtain ⟨l0, hnames, hway⟩ := place_way hp
  have hlv := h.toTrLv.make hE hn h1 dir
  unfold makeN at hlv ⊢
  generalize (placeT T p).1 = d at *
  generalize (placeT T p).2.1 = nm at *
  have hdn : d ≠ n := fun e => by rw [e, hn.none] at hd; cases hd
  have hd' : setT T n (newNd dir) d = some (.dir C) := by rw [setT_other _ hdn]; exact hd
  have hT0 := h.toTrOk.new hn.none hn.pos h1 dir
  have hcn : ∀ k, cntT (setT T n (newNd dir)) k = cntT T k := cnt_set_none hn.none (fun k => by cases dir <;> rfl)
  have hz : cntT T n = 0 := by
    refine Classical.byContradiction fun e => ?_
    rcases (led_cnt h.toTrOk n).2 (.inr e) with e0 | ⟨k, D, s, hk, hs⟩
    · obtain ⟨C0, h0⟩ := h.root
      have h9 := hn.none
      rw [e0, h0] at h9
      cases h9
    · have := h.child k D s n hk hs
      rw [hn.none] at this; cases this
  have hm : ∀ k D s m, T k = some (.dir D) → D.lookup s = some m → ∃ C', addT (setT T n (newNd dir)) d nm n k = some (.dir C') ∧ C'.lookup s = some m := fun k D s m hk hs => by
    have hkn : k ≠ n := fun e => by rw [e, hn.none] at hk; cases hk
    exact add_mono hd' hl k D s m (by rw [setT_other _ hkn]; exact hk) hs
  refine ⟨hlv, fun k b x e => ?_, fun k D e => ?_, fun k e => ?_, fun k D x e hx => ?_⟩
  · have e2 := add_file hd' e
    by_cases ek : k = n
    · subst ek
      rw [setT_same] at e2
      cases dir with
      | true => simp [newNd] at e2
      | false => simp [newNd] at e2; exact e2.2.symm
    · rw [setT_other _ ek] at e2; exact h.free k b x e2
  · rw [cnt_add hT0 hd', hcn]
    by_cases ek : k = n
    · subst ek; rw [if_pos rfl, hz]; omega
    · rw [if_neg ek]
      obtain ⟨E, hE2, _⟩ := add_sub hd' e
      rw [setT_other _ ek] at hE2
      have := h.one k E hE2
      omega
  · rw [add_some hd'] at e
    by_cases ek : k = n
    · subst ek
      refine ⟨l0 ++ [nm], (hway.mono hm).snoc (add_at hd') ?_⟩
      simp [List.lookup]
    · rw [setT_other _ ek] at e
      obtain ⟨l, hl2⟩ := h.reach k e
      exact ⟨l, hl2.mono hm⟩
  · obtain ⟨E, hE2, hs⟩ := add_sub hd' e
    rcases hs x hx with rfl | hx
    · exact ((names_text hnames).2 nm (by simp)).2
    · by_cases ek : k = n
      · subst ek
        rw [setT_same] at hE2
        cases dir with
        | true => simp [newNd] at hE2; rw [hE2] at hx; cases hx
        | false => simp [newNd] at hE2
      · rw [setT_other _ ek] at hE2
        exact h.plain k E x hE2 hx

theorem linkE_nought (hT : TrOk T) (h : linkE T p q = 0) : (findT T p).2 = 0 ∧ (∃ b x, T (findT T p).1 = some (.file b x)) ∧ (placeT T q).2.2 = 0 ∧ ∃ C, T (placeT T q).1 = some (.dir C) ∧ C.lookup (placeT T q).2.1 = none := by
  unfold linkE at h
  by_cases h1 : (findT T p).2 = 0
  · rw [if_neg (fun e => e h1)] at h
    by_cases h2 : isDirT T (findT T p).1 = true
    · rw [if_pos h2] at h; omega
    · rw [if_neg h2] at h
      by_cases h3 : (placeT T q).2.2 = 0
      · rw [if_neg (fun e => e h3)] at h
        obtain ⟨⟨C, hd⟩, hnm⟩ := placeT_dir hT h3
        rw [hasT_eq hd] at h
        cases hl : C.lookup (placeT T q).2.1 with
        | some m => rw [hl] at h; simp at h
        | none =>
          refine ⟨h1, ?_, h3, C, hd, hl⟩
          have hs := findT_some hT h1
          cases hf : T (findT T p).1 with
          | none => rw [hf] at hs; cases hs
          | some nd => cases nd with
            | dir D => unfold isDirT at h2; rw [hf] at h2; exact absurd rfl h2
            | file b x => exact ⟨b, x, rfl⟩
      · rw [if_pos h3] at h; exact absurd h h3
  · rw [if_pos h1] at h; exact absurd h h1
/-- A name more for a file. -/
theorem Tr1.link (h : Tr1 T) (p q : List UInt8) : Tr1 (linkN T p q) := by
  have hlv := h.toTrLv.link p q
  unfold linkN at hlv ⊢
  by_cases hE : linkE T p q ≠ 0
  · rw [if_pos hE]; exact h
  · rw [if_neg hE] at hlv ⊢
    obtain ⟨h1, ⟨b, x, hf⟩, h3, C, hd, hl⟩ := linkE_nought h.toTrOk (Classical.not_not.1 hE)
    obtain ⟨l0, hnames, hway⟩ := place_way h3
    generalize (placeT T q).1 = d at *
    generalize (placeT T q).2.1 = nm at *
    generalize (findT T p).1 = n at *
    refine ⟨hlv, fun k b x e => h.free k b x (add_file hd e), fun k D e => ?_, fun k e => ?_, fun k D x e hx => ?_⟩
    · obtain ⟨E, hE2, _⟩ := add_sub hd e
      rw [cnt_add h.toTrOk hd, if_neg (fun e => by rw [e, hf] at hE2; cases hE2)]
      exact h.one k E hE2
    · rw [add_some hd] at e
      obtain ⟨l, hl2⟩ := h.reach k e
      exact ⟨l, hl2.mono (add_mono hd hl)⟩
    · obtain ⟨E, hE2, hs⟩ := add_sub hd e
      rcases hs x hx with rfl | hx
      · exact ((names_text hnames).2 nm (by simp)).2
      · exact h.plain k E x hE2 hx
end
end Go.Proofs.YtpibokijbidgdabDoor

namespace Go.Proofs.YtpibokijbidgdabDoor
open Go.RowKit Go.Maps

section
variable {T T' : Wd} {a b d k n : Int} {l r : List Nm} {nm : Nm} {p q : List UInt8}
theorem unlinkE_nought (hT : TrOk T) (h : unlinkE T p = 0) : (placeT T p).2.2 = 0 ∧ ∃ C n, T (placeT T p).1 = some (.dir C) ∧ C.lookup (placeT T p).2.1 = some n ∧ manyT T n = 0 := by
  unfold unlinkE at h
  by_cases h1 : (placeT T p).2.2 = 0
  · rw [if_neg (fun e => e h1)] at h
    obtain ⟨⟨C, hd⟩, _⟩ := placeT_dir hT h1
    rw [hasT_eq hd] at h
    cases hl : C.lookup (placeT T p).2.1 with
    | none => rw [hl] at h; simp at h
    | some n =>
      rw [hl] at h
      simp only at h
      refine ⟨h1, C, n, hd, hl, Classical.byContradiction fun e => ?_⟩
      rw [if_pos e] at h; omega
  · rw [if_pos h1] at h; exact absurd h h1
theorem many_none {C : List (Nm × Int)} {s : Nm} (h : manyT T n = 0) (hn : T n = some (.dir C)) : C.lookup s = none := by
  unfold manyT at h
  rw [hn] at h
  rw [List.length_eq_zero_iff.1 h]; rfl
theorem Tr1.unlink (h : Tr1 T) (p : List UInt8) : Tr1 (unlinkN T p) := by
  have hlv := h.toTrLv.unlink p
  unfold unlinkN at hlv ⊢
  by_cases hE : unlinkE T p ≠ 0
  · rw [if_pos hE]; exact h
  · rw [if_neg hE] at hlv ⊢
    obtain ⟨h1, C, n, hd, hl, hmn⟩ := unlinkE_nought h.toTrOk (Classical.not_not.1 hE)
    generalize (placeT T p).1 = d at *
    generalize (placeT T p).2.1 = nm at *
    have hn0 : n ≠ 0 := h.noroot hd hl
    have hTD := h.toTrOk.del d nm
    have hcd := fun k => cnt_del h.toTrOk hd hl k
    obtain ⟨nd, hnd⟩ : ∃ nd, delT T d nm n = some nd := Option.isSome_iff_exists.1 (by rw [delT_some]; exact h.child d C nm n hd hl)
    have hheld : heldT nd = 0 := by
      cases nd with
      | dir D => rfl
      | file b x => exact h.free n b x (del_file hnd)
    have hsw := sweep_one hTD n (fun k nd' hk e => by
      have hk' : (T k).isSome = true := by rw [← delT_some T d nm k, e]; rfl
      obtain ⟨nd2, e2⟩ := Option.isSome_iff_exists.1 hk'
      have hc := hcd k
      rw [if_neg hk] at hc
      rcases h.lv k nd2 e2 with e3 | e3 | e3
      · exact .inl e3
      · exact .inr (.inl (by omega))
      · cases nd2 with
        | dir D => exact absurd rfl e3
        | file b x => exact absurd (h.free k b x e2) e3) nd hnd hn0
    have hnone : ∀ D, T n = some (.dir D) → ∀ s, D.lookup s = none := fun D e s => many_none hmn e
    have hcn : ∀ k, cnt1 (delT T d nm n) k = 0 := fun k => by
      rw [hnd]
      cases nd with
      | file b x => rfl
      | dir D =>
        obtain ⟨E, e1, e2⟩ := del_sub hnd
        unfold manyT at hmn
        rw [e1] at hmn
        have : E = [] := List.length_eq_zero_iff.1 hmn
        have : D = [] := by
          cases D with
          | nil => rfl
          | cons x D => have h9 := e2 x List.mem_cons_self; rw [‹E = []›] at h9; cases h9
        rw [this]; rfl
    have hcs : ∀ k, cntT (sweepT (delT T d nm)) k = cntT (delT T d nm) k := fun k => by
      rw [hsw]; split
      · exact cnt_era hcn k
      · rfl
    have hstay : ∀ k, k ≠ n → sweepT (delT T d nm) k = delT T d nm k := fun k hk => by
      rw [hsw]; split
      · exact eraT_other hk
      · rfl
    have hbut : ∀ k D s m, T k = some (.dir D) → D.lookup s = some m → (k = d ∧ s = nm) ∨ ∃ C', sweepT (delT T d nm) k = some (.dir C') ∧ C'.lookup s = some m := fun k D s m hk hs => by
      have hkn : k ≠ n := fun e => by subst e; rw [hnone D hk s] at hs; cases hs
      rw [hstay k hkn]
      exact del_but k D s m hk hs
    -- a way through the name that goes ends there
    have hend : ∀ l k, Way T 0 l k → k ≠ n → Way (sweepT (delT T d nm)) 0 l k := fun l k hw hk => by
      rcases hw.but hbut with e | ⟨l1, l2, rfl, e1, _⟩
      · exact e
      · obtain ⟨b, w1, w2⟩ := hw.cut
        have hb := e1.one w1
        subst hb
        cases w2 with
        | step g1 g2 g3 =>
          rw [hd] at g1; cases g1
          rw [hl] at g2; cases g2
          cases g3 with
          | here => exact absurd rfl hk
          | step f1 f2 _ => rw [hnone _ f1] at f2; cases f2
    refine ⟨hlv, fun k b x e => h.free k b x (del_file (sweepT_sub e)), fun k D e => ?_, fun k e => ?_, fun k D x e hx => ?_⟩
    · obtain ⟨E, hE2, _⟩ := del_sub (sweepT_sub e)
      have := h.one k E hE2
      have := hcd k
      rw [hcs]; omega
    · obtain ⟨nd2, e2⟩ := Option.isSome_iff_exists.1 e
      have hTk : (T k).isSome = true := by rw [← delT_some T d nm k, sweepT_sub e2]; rfl
      by_cases ek : k = n
      · subst ek
        have hc : cntT (delT T d nm) k ≠ 0 := fun e0 => by
          rw [hsw, if_pos ⟨e0, hheld⟩, eraT_same] at e2; cases e2
        rcases (led_cnt hTD k).2 (.inr hc) with e0 | ⟨j, D, s, hj, hs⟩
        · exact absurd e0 hn0
        · have hjn : j ≠ k := fun e0 => by
            subst e0
            obtain ⟨E, g1, g2⟩ := del_sub hj
            have := mem_lookup (h.nodup j E g1) (g2 _ (lookup_mem hs))
            rw [hnone E g1] at this; cases this
          obtain ⟨E, g1, _⟩ := del_sub hj
          obtain ⟨l, hw⟩ := h.reach j (by rw [g1]; rfl)
          exact ⟨l ++ [s], (hend l j hw hjn).snoc (by rw [hstay j hjn]; exact hj) hs⟩
      · obtain ⟨l, hw⟩ := h.reach k hTk
        exact ⟨l, hend l k hw ek⟩
    · obtain ⟨E, hE2, hs⟩ := del_sub (sweepT_sub e)
      exact h.plain k E x hE2 (hs x hx)

/-- What a move finds. -/
structure Moves (T : Wd) (p q : List UInt8) (d d2 n : Int) (nm nm2 : Nm) (C C2 : List (Nm × Int)) (l l2 : List Nm) : Prop where
  pp : namesOf p = some (l ++ [nm])
  qq : namesOf q = some (l2 ++ [nm2])
  wp : Way T 0 l d
  wq : Way T 0 l2 d2
  dp : T d = some (.dir C)
  dq : T d2 = some (.dir C2)
  has : C.lookup nm = some n
  no : C2.lookup nm2 = none
  out : ¬ (p ++ [47]).isPrefixOf q = true
theorem renameE_nought (hT : TrOk T) (h : renameE T p q = 0) : ∃ d d2 n nm nm2 C C2 l l2, Moves T p q d d2 n nm nm2 C C2 l l2 ∧ renameN T p q = addT (delT T d nm) d2 nm2 n := by
  have hN : renameN T p q = addT (delT T (placeT T p).1 (placeT T p).2.1) (placeT T q).1 (placeT T q).2.1 ((hasT T (placeT T p).1 (placeT T p).2.1).getD 0) := by
    unfold renameN; rw [if_neg (fun e => e h)]
  unfold renameE at h
  by_cases h1 : (placeT T p).2.2 = 0
  · rw [if_neg (fun e => e h1)] at h
    obtain ⟨⟨C, hd⟩, _⟩ := placeT_dir hT h1
    rw [hasT_eq hd] at h hN
    cases hl : C.lookup (placeT T p).2.1 with
    | none => rw [hl, if_pos rfl] at h; omega
    | some n =>
      rw [hl, if_neg (by simp)] at h
      rw [hl] at hN
      by_cases h3 : (placeT T q).2.2 = 0
      · rw [if_neg (fun e => e h3)] at h
        obtain ⟨⟨C2, hd2⟩, _⟩ := placeT_dir hT h3
        rw [hasT_eq hd2] at h
        cases hl2 : C2.lookup (placeT T q).2.1 with
        | some m => rw [hl2] at h; simp at h
        | none =>
          rw [hl2, if_neg (by simp)] at h
          obtain ⟨l, e1, w1⟩ := place_way h1
          obtain ⟨l2, e2, w2⟩ := place_way h3
          exact ⟨_, _, n, _, _, C, C2, l, l2, ⟨e1, e2, w1, w2, hd, hd2, hl, hl2, fun e => by rw [if_pos e] at h; omega⟩, hN⟩
      · rw [if_pos h3] at h; exact absurd h h3
  · rw [if_pos h1] at h; exact absurd h h1
variable {d2 : Int} {nm2 : Nm} {C C2 : List (Nm × Int)} {l2 : List Nm}
/-- The new place's way does not go through the name that is moved; nor does the old place's. -/
theorem Moves.way (h : Tr1 T) (m : Moves T p q d d2 n nm nm2 C C2 l l2) : Way (delT T d nm) 0 l2 d2 := by
  rcases m.wq.but del_but with e | ⟨l1, r, e, w1, _⟩
  · exact e
  · exfalso
    have := h.same m.dp w1 m.wp
    subst this
    refine m.out (ptx_behind (s := (r ++ [nm2]).head (by simp)) (r := (r ++ [nm2]).tail) m.pp (by simp) ?_)
    rw [m.qq, e]
    simp
theorem Moves.old (h : Tr1 T) (m : Moves T p q d d2 n nm nm2 C C2 l l2) : Way (delT T d nm) 0 l d := by
  rcases m.wp.but del_but with e | ⟨l1, r, e, w1, _⟩
  · exact e
  · exfalso
    have := h.same m.dp w1 m.wp
    rw [this] at e
    have := congrArg List.length e
    simp at this
theorem Moves.at2 (m : Moves T p q d d2 n nm nm2 C C2 l l2) : ∃ C3, delT T d nm d2 = some (.dir C3) ∧ C3.lookup nm2 = none ∧ ∀ x ∈ C3, x ∈ C2 := by
  obtain ⟨C3, e1, e2, _⟩ := delT_at (d := d) (nm := nm) m.dq m.no
  obtain ⟨E, e3, e4⟩ := del_sub e1
  rw [m.dq] at e3; cases e3
  exact ⟨C3, e1, e2, e4⟩
theorem Tr1.rename (h : Tr1 T) (p q : List UInt8) : Tr1 (renameN T p q) := by
  by_cases hE : renameE T p q ≠ 0
  · unfold renameN; rw [if_pos hE]; exact h
  · have hlv := h.toTrLv.rename p q
    obtain ⟨d, d2, n, nm, nm2, C, C2, l, l2, m, hN⟩ := renameE_nought h.toTrOk (Classical.not_not.1 hE)
    rw [hN] at hlv ⊢
    obtain ⟨C3, hd3, hl3, _⟩ := m.at2
    have hTD := h.toTrOk.del d nm
    have hup := add_mono (n := n) hd3 hl3
    refine ⟨hlv, fun k b x e => h.free k b x (del_file (add_file hd3 e)), fun k D e => ?_, fun k e => ?_, fun k D x e hx => ?_⟩
    · obtain ⟨E, e1, _⟩ := add_sub hd3 e
      obtain ⟨F, e2, _⟩ := del_sub e1
      have h1 := h.one k F e2
      have h2 := cnt_del h.toTrOk m.dp m.has k
      rw [cnt_add hTD hd3]
      omega
    · rw [add_some hd3, delT_some] at e
      obtain ⟨r, hw⟩ := h.reach k e
      rcases hw.but (del_but (d := d) (nm := nm)) with hw2 | ⟨l1, r2, rfl, w1, _⟩
      · exact ⟨r, hw2.mono hup⟩
      · obtain ⟨b, g1, g2⟩ := hw.cut
        have hb := w1.one g1
        subst hb
        cases g2 with
        | step f1 f2 f3 =>
          rw [m.dp] at f1; cases f1
          rw [m.has] at f2; cases f2
          rcases f3.but (del_but (d := d) (nm := nm)) with f4 | ⟨m1, m2, rfl, w3, _⟩
          · refine ⟨l2 ++ nm2 :: r2, ((m.way h).mono hup).app (.step (add_at hd3) ?_ (f4.mono hup))⟩
            simp [List.lookup]
          · exact absurd (Way.step m.dp m.has w3) (h.noring m.dp)
    · obtain ⟨E, e1, hs⟩ := add_sub hd3 e
      rcases hs x hx with rfl | hx
      · exact ((names_text m.qq).2 nm2 (by simp)).2
      · obtain ⟨F, e2, hs2⟩ := del_sub e1
        exact h.plain k F x e2 (hs2 x hx)
/-- Moved back. -/
theorem Moves.back (h : Tr1 T) (m : Moves T p q d d2 n nm nm2 C C2 l l2) : renameE (addT (delT T d nm) d2 nm2 n) q p = 0 ∧ renameN (addT (delT T d nm) d2 nm2 n) q p = setT T d (.dir ((nm, n) :: C.filter (fun x => x.1 != nm))) := by
  obtain ⟨C3, hd3, hl3, _⟩ := m.at2
  have hup := add_mono (n := n) hd3 hl3
  have hdne : ¬ (d = d2 ∧ nm = nm2) := fun ⟨e1, e2⟩ => by
    have := m.no
    have h9 := m.dq
    rw [← e1, m.dp] at h9
    cases h9
    rw [← e2, m.has] at this; cases this
  have hdd : delT T d nm d = some (.dir (C.filter (fun x => x.1 != nm))) := by rw [delT_eq m.dp, setT_same]
  obtain ⟨C4, hd4, hl4⟩ : ∃ C4, addT (delT T d nm) d2 nm2 n d = some (.dir C4) ∧ C4.lookup nm = none := by
    rw [addT_eq hd3]
    by_cases e : d = d2
    · subst e
      refine ⟨_, setT_same _ _ _, ?_⟩
      have hne : (nm == nm2) = false := by simp; exact fun e2 => hdne ⟨rfl, e2⟩
      rw [hdd] at hd3; cases hd3
      rw [List.lookup, hne, lookup_del, if_pos rfl]
    · refine ⟨_, by rw [setT_other _ e]; exact hdd, ?_⟩
      rw [lookup_del, if_pos rfl]
  have p2 := way_place (T := addT (delT T d nm) d2 nm2 n) m.qq ((m.way h).mono hup) (add_at hd3)
  have p1 := way_place (T := addT (delT T d nm) d2 nm2 n) m.pp ((m.old h).mono hup) hd4
  have hh : hasT (addT (delT T d nm) d2 nm2 n) d2 nm2 = some n := by
    rw [hasT_eq (add_at hd3)]; simp [List.lookup]
  have hE : renameE (addT (delT T d nm) d2 nm2 n) q p = 0 := by
    unfold renameE
    rw [p2, p1]
    simp only
    rw [if_neg (by simp), hh, if_neg (by simp), if_neg (by simp), hasT_eq hd4, hl4, if_neg (by simp)]
    rw [if_neg]
    intro e
    obtain ⟨s, r, e2⟩ := ptx_ahead m.qq (by simp) m.pp e
    -- q's names lie ahead of p's: something was there
    have hw : Way T 0 (l2 ++ [nm2] ++ s :: r) n := by rw [← e2]; exact m.wp.snoc m.dp m.has
    obtain ⟨b, g1, _⟩ := hw.cut
    obtain ⟨b2, D, f1, f2, f3⟩ := g1.unsnoc
    have := f1.one m.wq
    subst this
    rw [m.dq] at f2; cases f2
    rw [m.no] at f3; cases f3
  refine ⟨hE, ?_⟩
  unfold renameN
  rw [if_neg (fun e => e hE), p2, p1]
  simp only
  rw [hh, Option.getD_some, delT_eq (add_at hd3)]
  have hf : ((nm2, n) :: C3).filter (fun x => x.1 != nm2) = C3 := by
    rw [List.filter_cons_of_neg (by simp), filter_same (lookup_none hl3)]
  rw [hf]
  have hS : setT (addT (delT T d nm) d2 nm2 n) d2 (.dir C3) = delT T d nm := by
    funext k
    by_cases e : k = d2
    · subst e; rw [setT_same, hd3]
    · rw [setT_other _ e, addT_eq hd3, setT_other _ e]
  rw [hS, addT_eq hdd, delT_eq m.dp]
  funext k
  by_cases e : k = d
  · subst e; rw [setT_same, setT_same]
  · rw [setT_other _ e, setT_other _ e, setT_other _ e]
end
end Go.Proofs.YtpibokijbidgdabDoor

namespace Go.Proofs.YtpibokijbidgdabDoor
open Go.RowKit Go.Maps

/-- From a node on: the paths, and where they lead. -/
def pw (T : Wd) : Nat → List Nm → Int → List (List Nm × Int)
  | 0, _, _ => []
  | f + 1, l, n => (l, n) :: match T n with
    | some (.dir C) => (listT C).flatMap (fun s => pw T f (l ++ [s]) ((C.lookup s).getD 0))
    | _ => []
section
variable {T T' : Wd} {a b d k n : Int} {l r : List Nm} {nm : Nm} {p q : List UInt8} {C : List (Nm × Int)} {f : Nat}
theorem pw_dir (h : T n = some (.dir C)) (f : Nat) (l : List Nm) : pw T (f + 1) l n = (l, n) :: (listT C).flatMap (fun s => pw T f (l ++ [s]) ((C.lookup s).getD 0)) := by rw [pw, h]
theorem pw_file (h : ∀ C, T n ≠ some (.dir C)) (f : Nat) (l : List Nm) : pw T (f + 1) l n = [(l, n)] := by
  rw [pw]
  split
  · rename_i C e; exact absurd e (h C)
  · rfl
theorem listT_look (hn : (C.map (·.1)).Nodup) {s : Nm} (h : s ∈ listT C) : ∃ m, C.lookup s = some m := by
  obtain ⟨⟨y, m⟩, hy, rfl⟩ := List.mem_map.1 (listT_mem.1 h)
  exact ⟨m, mem_lookup hn hy⟩
theorem look_listT {s : Nm} {m : Int} (h : C.lookup s = some m) : s ∈ listT C := listT_mem.2 (List.mem_map.2 ⟨(s, m), lookup_mem h, rfl⟩)
theorem pw_sound (hT : TrOk T) : ∀ (f : Nat) (l : List Nm) (n : Int) (x : List Nm × Int), x ∈ pw T f l n → ∃ r, x.1 = l ++ r ∧ Way T n r x.2
  | 0, _, _, _, h => by cases h
  | f + 1, l, n, x, h => by
    by_cases hd : ∃ C, T n = some (.dir C)
    · obtain ⟨C, hC⟩ := hd
      rw [pw_dir hC] at h
      rcases List.mem_cons.1 h with rfl | h
      · exact ⟨[], by simp, .here _⟩
      · obtain ⟨s, hs, hx⟩ := List.mem_flatMap.1 h
        obtain ⟨m, hm⟩ := listT_look (hT.nodup n C hC) hs
        rw [hm, Option.getD_some] at hx
        obtain ⟨r, e1, e2⟩ := pw_sound hT f _ _ x hx
        exact ⟨s :: r, by rw [e1]; simp, .step hC hm e2⟩
    · rw [pw_file (fun C e => hd ⟨C, e⟩)] at h
      rw [List.mem_singleton.1 h]
      exact ⟨[], by simp, .here _⟩
theorem pw_whole : ∀ (f : Nat) (l r : List Nm) (n k : Int), Way T n r k → r.length < f → (l ++ r, k) ∈ pw T f l n
  | 0, _, _, _, _, _, h => by omega
  | f + 1, l, r, n, k, hw, hf => by
    cases hw with
    | here =>
      rw [List.append_nil, pw]
      exact List.mem_cons_self
    | @step _ m _ C s r h1 h2 h3 =>
      rw [pw_dir h1]
      refine List.mem_cons_of_mem _ (List.mem_flatMap.2 ⟨s, look_listT h2, ?_⟩)
      rw [h2, Option.getD_some]
      have := pw_whole f (l ++ [s]) r m k h3 (by simp at hf; omega)
      simpa using this

theorem nodup_on {α β : Type} {g : α → β} : ∀ {L : List α}, L.Nodup → (∀ x ∈ L, ∀ y ∈ L, g x = g y → x = y) → (L.map g).Nodup
  | [], _, _ => List.nodup_nil
  | x :: L, h, hg => by
    rw [List.nodup_cons] at h
    rw [List.map_cons, List.nodup_cons]
    refine ⟨fun hm => ?_, nodup_on h.2 (fun a ha b hb => hg a (List.mem_cons_of_mem _ ha) b (List.mem_cons_of_mem _ hb))⟩
    obtain ⟨y, hy, e⟩ := List.mem_map.1 hm
    have := hg x List.mem_cons_self y (List.mem_cons_of_mem _ hy) e.symm
    exact h.1 (this ▸ hy)
theorem sub_len1 {α : Type} [DecidableEq α] : ∀ {a b : List α}, a.Nodup → a ⊆ b → a.length ≤ b.length
  | [], b, _, _ => Nat.zero_le _
  | x :: a, b, hn, hs => by
    rw [List.nodup_cons] at hn
    have hx : x ∈ b := hs List.mem_cons_self
    have h1 := sub_len1 (b := b.erase x) hn.2 (fun y hy => (List.mem_erase_of_ne (fun e => hn.1 (by rw [← e]; exact hy))).2 (hs (List.mem_cons_of_mem _ hy)))
    have h2 := List.length_erase_of_mem hx
    have h3 := List.length_pos_of_mem hx
    rw [List.length_cons]; omega
theorem nodup_flat {α β : Type} {g : α → List β} {t : β → α} : ∀ {L : List α}, L.Nodup → (∀ s ∈ L, (g s).Nodup) → (∀ s ∈ L, ∀ x ∈ g s, t x = s) → (L.flatMap g).Nodup
  | [], _, _, _ => List.nodup_nil
  | s :: L, h, h1, h2 => by
    rw [List.nodup_cons] at h
    rw [List.flatMap_cons, List.nodup_append]
    refine ⟨h1 s List.mem_cons_self, nodup_flat h.2 (fun a ha => h1 a (List.mem_cons_of_mem _ ha)) (fun a ha => h2 a (List.mem_cons_of_mem _ ha)), fun x hx y hy e => ?_⟩
    obtain ⟨u, hu, hyu⟩ := List.mem_flatMap.1 hy
    have e1 := h2 s List.mem_cons_self x hx
    have e2 := h2 u (List.mem_cons_of_mem _ hu) y hyu
    rw [← e, e1] at e2
    exact h.1 (e2 ▸ hu)
theorem pw_nodup (hT : TrOk T) : ∀ (f : Nat) (l : List Nm) (n : Int), ((pw T f l n).map (·.1)).Nodup
  | 0, _, _ => List.nodup_nil
  | f + 1, l, n => by
    by_cases hd : ∃ C, T n = some (.dir C)
    · obtain ⟨C, hC⟩ := hd
      rw [pw_dir hC, List.map_cons, List.nodup_cons]
      have hsn : ∀ s ∈ listT C, ∀ x ∈ (pw T f (l ++ [s]) ((C.lookup s).getD 0)).map (·.1), ∃ r, x = l ++ s :: r := fun s hs x hx => by
        obtain ⟨y, hy, rfl⟩ := List.mem_map.1 hx
        obtain ⟨r, e1, _⟩ := pw_sound hT f _ _ y hy
        exact ⟨r, by rw [e1]; simp⟩
      rw [List.map_flatMap]
      refine ⟨fun hm => ?_, nodup_flat (t := fun x => x.getD l.length []) (listT_nodup (hT.nodup n C hC)) (fun s _ => pw_nodup hT f _ _) (fun s hs x hx => ?_)⟩
      · obtain ⟨s, hs, hx⟩ := List.mem_flatMap.1 hm
        obtain ⟨r, e⟩ := hsn s hs _ hx
        have := congrArg List.length e
        simp at this
      · obtain ⟨r, rfl⟩ := hsn s hs x hx
        simp [List.getD_eq_getElem?_getD]
    · rw [pw_file (fun C e => hd ⟨C, e⟩)]
      simp
/-- Names turned round in one directory: nothing is seen of it. -/
theorem pw_perm {C' : List (Nm × Int)} (hT : TrOk T) (hd : T d = some (.dir C)) (hn : (C'.map (·.1)).Nodup) (hl : ∀ s, C'.lookup s = C.lookup s) (f : Nat) : ∀ (l : List Nm) (n : Int), pw (setT T d (.dir C')) f l n = pw T f l n := by
  have hlist : listT C' = listT C := by
    have h1 := listT_one (hT.nodup d C hd) (L := C'.map (·.1)) hn (fun x => by
      rw [← hl x]
      constructor
      · intro h
        obtain ⟨⟨y, m⟩, hy, rfl⟩ := List.mem_map.1 h
        rw [mem_lookup hn hy]; rfl
      · intro h
        obtain ⟨m, hm⟩ := Option.isSome_iff_exists.1 h
        exact List.mem_map.2 ⟨(x, m), lookup_mem hm, rfl⟩)
    exact h1
  induction f with
  | zero => exact fun _ _ => rfl
  | succ f ih =>
    intro l n
    by_cases e : n = d
    · rw [e, pw_dir (setT_same _ _ _), pw_dir hd, hlist]
      congr 1
      congr 1
      funext s
      rw [hl s, ih]
    · by_cases h2 : ∃ D, T n = some (.dir D)
      · obtain ⟨D, hD⟩ := h2
        rw [pw_dir (by rw [setT_other _ e]; exact hD), pw_dir hD]
        congr 1
        congr 1
        funext s
        rw [ih]
      · rw [pw_file (fun D e2 => h2 ⟨D, by rw [setT_other _ e] at e2; exact e2⟩), pw_file (fun D e2 => h2 ⟨D, e2⟩)]
theorem back_names (hn : (C.map (·.1)).Nodup) (h : C.lookup nm = some n) : (((nm, n) :: C.filter (fun x => x.1 != nm)).map (·.1)).Nodup ∧ ∀ s, ((nm, n) :: C.filter (fun x => x.1 != nm)).lookup s = C.lookup s := by
  refine ⟨?_, fun s => ?_⟩
  · rw [List.map_cons, List.nodup_cons]
    refine ⟨fun hm => ?_, (List.filter_sublist.map _).nodup hn⟩
    obtain ⟨x, hx, e⟩ := List.mem_map.1 hm
    have := (List.mem_filter.1 hx).2
    simp at this
    exact this e
  · by_cases e : s = nm
    · subst e; simp [List.lookup, h]
    · have hne : (s == nm) = false := by simp [e]
      rw [List.lookup, hne, lookup_del, if_neg e]
/-- No way is long. -/
theorem Tr1.deep (hT : Tr1 T) (h : Way T 0 l k) : l.length ≤ 64 := by
  have hp : ∀ i, i < l.length → ∃ b D, Way T 0 (l.take i) b ∧ T b = some (.dir D) := fun i hi => by
    have e : l = l.take i ++ l[i] :: l.drop (i + 1) := by rw [List.getElem_cons_drop, List.take_append_drop]
    rw [e] at h
    obtain ⟨b, w1, w2⟩ := h.cut
    cases w2 with
    | step g1 _ _ => exact ⟨b, _, w1, g1⟩
  have hnd : ((List.range l.length).map (fun i => (leadT T 0 (l.take i)).1)).Nodup := by
    refine nodup_on List.nodup_range (fun i hi j hj e => ?_)
    obtain ⟨b, D, w1, g1⟩ := hp i (List.mem_range.1 hi)
    obtain ⟨b2, D2, w2, _⟩ := hp j (List.mem_range.1 hj)
    rw [way_lead w1, way_lead w2] at e
    simp only at e
    subst e
    have := congrArg List.length (hT.same g1 w1 w2)
    rw [List.length_take, List.length_take] at this
    have := List.mem_range.1 hi
    have := List.mem_range.1 hj
    omega
  have := sub_len1 (b := (List.range 64).map (fun i : Nat => (i : Int))) hnd (fun x hx => by
    obtain ⟨i, hi, rfl⟩ := List.mem_map.1 hx
    obtain ⟨b, D, w1, g1⟩ := hp i (List.mem_range.1 hi)
    have hk := hT.key b (by rw [g1]; rfl)
    rw [way_lead w1]
    exact List.mem_map.2 ⟨b.toNat, List.mem_range.2 (by omega), by simp; omega⟩)
  simpa using this
/-- There are not many paths. -/
theorem Tr1.few {z : Nat} (hT : Tr1 T) (hs : Sm z T) {P : List (List Nm × Int)} (hn : (P.map (·.1)).Nodup) (hw : ∀ x ∈ P, Way T 0 x.1 x.2) : P.length ≤ 64 * z + 1 := by
  have hlen : ∀ m : Nat, (((List.range m).flatMap (fun i : Nat => match T (i : Int) with
      | some (.dir C) => C.map (fun x => some ((i : Int), x.1))
      | _ => []) : List (Option (Int × Nm)))).length ≤ m * z := by
    intro m
    induction m with
    | zero => simp
    | succ m ih =>
      rw [List.range_succ, List.flatMap_append, List.length_append, Nat.add_mul, Nat.one_mul]
      refine Nat.add_le_add ih ?_
      simp only [List.flatMap_cons, List.flatMap_nil, List.append_nil]
      split
      · rename_i C e
        rw [List.length_map]; exact hs.1 _ C e
      · simp
  have hm : ((P.map (·.1)).map (fun l => if l = [] then none else some ((leadT T 0 l.dropLast).1, l.getLastD []))).Nodup := by
    refine nodup_on hn (fun l hl l' hl' e => ?_)
    obtain ⟨x, hx, rfl⟩ := List.mem_map.1 hl
    obtain ⟨y, hy, rfl⟩ := List.mem_map.1 hl'
    have h1 := hw x hx
    have h2 := hw y hy
    rcases List.eq_nil_or_concat x.1 with e1 | ⟨l0, s, e1⟩
    · rcases List.eq_nil_or_concat y.1 with e2 | ⟨l1, t, e2⟩
      · rw [e1, e2]
      · rw [e1, e2] at e; simp at e
    · rcases List.eq_nil_or_concat y.1 with e2 | ⟨l1, t, e2⟩
      · rw [e1, e2] at e; simp at e
      · rw [List.concat_eq_append] at e1 e2
        rw [e1] at h1
        rw [e2] at h2
        obtain ⟨a, D, f1, f2, f3⟩ := h1.unsnoc
        obtain ⟨b, E, g1, g2, g3⟩ := h2.unsnoc
        rw [e1, e2] at e
        rw [if_neg (by simp), if_neg (by simp), List.dropLast_concat, List.dropLast_concat, way_lead f1, way_lead g1] at e
        simp at e
        obtain ⟨rfl, rfl⟩ := e
        rw [e1, e2, hT.same f2 f1 g1]
  have := sub_len1 (b := none :: (List.range 64).flatMap (fun i : Nat => match T (i : Int) with
      | some (.dir C) => C.map (fun x => some ((i : Int), x.1))
      | _ => [])) hm (fun u hu => by
    obtain ⟨l, hl, rfl⟩ := List.mem_map.1 hu
    obtain ⟨x, hx, rfl⟩ := List.mem_map.1 hl
    have h1 := hw x hx
    rcases List.eq_nil_or_concat x.1 with e1 | ⟨l0, s, e1⟩
    · rw [e1]; simp
    · rw [List.concat_eq_append] at e1
      rw [e1] at h1 ⊢
      obtain ⟨a, D, f1, f2, f3⟩ := h1.unsnoc
      rw [if_neg (by simp), List.dropLast_concat, way_lead f1]
      refine List.mem_cons_of_mem _ (List.mem_flatMap.2 ⟨a.toNat, ?_, ?_⟩)
      · have := hT.key a (by rw [f2]; rfl)
        exact List.mem_range.2 (by omega)
      · have := hT.key a (by rw [f2]; rfl)
        rw [show ((a.toNat : Nat) : Int) = a by omega, f2]
        exact List.mem_map.2 ⟨_, lookup_mem f3, by simp⟩)
  have h2 := hlen 64
  rw [List.length_map, List.length_map, List.length_cons] at this
  omega
end
end Go.Proofs.YtpibokijbidgdabDoor
