/- Package vm: Map, Unmap, Protect, Clear, by their Go text. -/
import Derived.Test.YtcllfedpdcjbcaaDoorVSpace2
import Derived.Shelf.SlMaps.Clone
namespace Go.Proofs.YtcllfedpdcjbcaaDoor
open Go.RowKit Go.Shelf Go.Lib Go.Sort Go.Maps

section
variable {E : St} {w w' : World} {c gc : Nat} {D : Nat → Nat → Int} {A : Nat → Prop} {P : PM} {o : Int → Nat}

/-- A page went: its frame was let go, then it was taken from the map. -/
theorem VS.gone (h : VS E w c gc D A P o) {a : Int} (ha : (P a).isSome = true) {w1 w2 : World} {A1 : Nat → Prop} (v1 : Vs E w1 D (dropR (Rof fun f => sh P f + o f) (frm P a)) A1) (f1 : Fr (vown E A) w w1) (s1 : ∀ i, i < w.heap.size → A1 i → A i)
    (g2 : w1.grownBy w2 (some gc)) {s : Nat} (pm2 : PMap w2 gc s (pgv (delP P a))) (hs : s + 1 = lenP P) : STurn E w c gc A w2 D (delP P a) o := by
  have hk := h.ok.key a ha
  have hl : ∀ i, i < w.heap.size → i < w1.heap.size := fun i hi => Nat.lt_of_lt_of_le hi f1.size
  have k2 : ∀ i, i < w1.heap.size → i ≠ gc → w2.heap[i]? = w1.heap[i]? := fun i hi hn => g2.block i hi (fun e => hn (Option.some.inj e))
  have hR : dropR (Rof fun f => sh P f + o f) (frm P a) = Rof fun f => sh (delP P a) f + o f := by
    refine v1.rof (fun x hx => ?_)
    have hd := sh_del (P := P) hk.1 hk.2 hx
    rw [dropR_val]
    by_cases e : x = frm P a
    · rw [if_pos e.symm] at hd
      rw [if_pos e, Rof_val (by rw [← e]; exact hx), ← e]; omega
    · rw [if_neg (fun h => e h.symm)] at hd
      rw [if_neg e, Rof_val hx]; omega
  rw [hR] at v1
  have hown1 : ∀ i, i < w.heap.size → vown E A1 i → vown E A i := fun i hi ho => by
    rcases ho with ho | ho
    · exact .inl (s1 i hi ho)
    · exact .inr ho
  have hlen := lenP_del hk.1 hk.2 ha
  refine ⟨A1, ⟨v1.keep (fun i hi => k2 i (v1.olt hi) (fun e => h.offg (hown1 gc h.sp.glt (e ▸ hi)))) (k2 _ v1.blt (fun e => h.gb e.symm)) (k2 _ v1.mlt (fun e => h.gm e.symm)), ⟨?_, ?_⟩, h.ok.del, h.dis.del hk.1 hk.2, fun ho => h.offc (hown1 c h.sp.lt ho), fun ho => h.offg (hown1 gc h.sp.glt ho), h.gb, h.gm⟩, ?_, s1⟩
  · exact ((k2 c (hl c h.sp.lt) h.sp.ne).trans (f1.block c h.sp.lt h.offc)).trans h.sp.head
  · rw [show lenP (delP P a) = s by omega]; exact pm2
  · exact (f1.mono (fun i _ h => .inl h)).trans (Fr.grown g2) (fun i _ e => .inr e)

set_option maxRecDepth 100000 in
set_option maxHeartbeats 4000000 in
theorem VS.remove (h : VS E w c gc D A P o) (a : Int) (ha : (P a).isSome = true) : Calls Tryd.prog 106 #[vp c, .int .i64 a] w fun e w' => e = .returned (.tuple #[]) ∧ STurn E w c gc A w' D (delP P a) o := by
  have hk := h.ok.key a ha
  have hwf : (Lit.int .i64 a).wf = true := wf_small hk.1 (by omega)
  have hpf := pg_frm ha
  have hgt := pgv_get P a
  rw [hpf] at hgt
  have hl : (Instr.lookup 166 (.map (some gc)) (.int .i64 a) false).run Tryd.prog w.drew = .ok (.agg #[.int .i64 (pg P a).1, .int .i64 (frm P a)]) w.drew := by
    rw [← hgt]; exact (h.sp.map.keep (w' := w.drew) rfl).look Tryd.underlying166 (zero_page _) a hwf
  have hD : Calls Tryd.prog 131 #[vp E.b, .int .i64 (frm P a)] w.drew fun e w' => e = .returned (.tuple #[]) ∧ (∃ A1, Vs E w' D (dropR (Rof fun f => sh P f + o f) (frm P a)) A1 ∧ Fr (vown E A) w w' ∧ (∀ i, i < w.heap.size → A1 i → A i)) ∧ w'.cell? ⟨c, 1, none⟩ = some (.map (some gc)) ∧ PMap w' gc (lenP P) (pgv P) := by
    have hq := h.drew
    refine (hq.st.drop_ok (frm P a) ?_).mono ?_
    · by_cases e : frm P a = -1
      · exact .inl e
      · exact .inr (h.frame_some e).1
    · rintro e w' ⟨he, A1, v1, f1, s1⟩
      have f1' : Fr (vown E A) w w' := (Fr.drew _ w).trans f1 (fun _ _ h => h)
      refine ⟨he, ⟨A1, v1, f1', s1⟩, ?_, h.sp.map.keep (f1'.block gc h.sp.glt h.offg)⟩
      rw [World.cell?_of_block (w := w) (a := ⟨c, 1, none⟩) (f1'.block c h.sp.lt h.offc)]; exact h.sp.c1
  have c0 := h.sp.c0
  have c1 := h.sp.c1
  have hsz : (pgv P a).isSome = true := by rw [pgv_isSome]; exact ha
  have hlp : 1 ≤ lenP P := by have := lenP_del hk.1 hk.2 ha; omega
  have hfin := fun w1 w2 A1 v1 f1 s1 g2 s pm2 hs => h.gone ha (w1 := w1) (w2 := w2) (A1 := A1) v1 f1 s1 g2 (s := s) pm2 hs
  have hpd := pgv_del P a
  have hsec := page_second (pg P a).1 (frm P a)
  clear h hpf hgt hk ha
  generalize hF : frm P a = f at *
  generalize (pg P a).1 = x at *
  go_enter Tryd.func106, Tryd.ntmps106
  go_wp2_with fail
  go_region_with (go_at_call 131; refine hD.mono ?_; rintro e w1 ⟨rfl, ⟨A1, v1, f1, s1⟩, c1', pm1⟩)
  all_goals
    go_wp2_with (at_delete; refine wpList_kdel rfl _ _ 166 rfl 172 Tryd.underlying166 gc _ _ rfl pm1 a rfl hwf ?_; intro w2 pm2 g2; rw [hpd] at pm2)
    go_end0
    exact ⟨rfl, hfin _ _ _ v1 f1 s1 g2 _ pm2 (by rw [if_pos hsz]; omega)⟩

theorem fr_below {B : Nat → Prop} (hb : Below w.heap.size w w') : Fr B w w' := ⟨hb.os, hb.tape, hb.output, hb.size, fun i hi _ => hb.block i hi⟩
theorem STurn.below (h : VS E w c gc D A P o) (hb : Below w.heap.size w w') : STurn E w c gc A w' D P o := ⟨A, h.below hb, fr_below hb, fun _ _ h => h⟩
theorem STurn.stay {w1 : World} (t : STurn E w c gc A w1 D P o) (hb : Below w1.heap.size w1 w') : STurn E w c gc A w' D P o := by
  obtain ⟨A1, v, f, s⟩ := t
  exact STurn.trans f s (STurn.below v hb)

/-- Pages made; pages taken away; what pages may be used for. -/
def mapTo (P : PM) (a : Int) (i : Nat) (prot : Int) : PM := fun x => if a ≤ x ∧ x < a + i then some (prot, -1) else P x
def unTo (P : PM) (a : Int) (i : Nat) : PM := fun x => if a ≤ x ∧ x < a + i then none else P x
def proTo (P : PM) (a : Int) (i : Nat) (prot : Int) : PM := fun x => if a ≤ x ∧ x < a + i then (P x).map (fun p => (prot, p.2)) else P x
theorem mapTo_zero (P : PM) (a prot : Int) : mapTo P a 0 prot = P := by funext x; unfold mapTo; rw [if_neg (by omega)]
theorem unTo_zero (P : PM) (a : Int) : unTo P a 0 = P := by funext x; unfold unTo; rw [if_neg (by omega)]
theorem proTo_zero (P : PM) (a prot : Int) : proTo P a 0 prot = P := by funext x; unfold proTo; rw [if_neg (by omega)]
theorem mapTo_next (P : PM) (a : Int) (i : Nat) (prot : Int) : mapTo P a (i + 1) prot = putP (mapTo P a i prot) (a + i) (prot, -1) := by
  funext x; unfold mapTo putP
  by_cases e : x = a + i
  · rw [if_pos (by omega), if_pos e]
  · rw [if_neg e]; by_cases h : a ≤ x ∧ x < a + i
    · rw [if_pos (by omega)]; exact (if_pos h).symm
    · rw [if_neg (by omega)]; exact (if_neg h).symm
theorem unTo_next (P : PM) (a : Int) (i : Nat) : unTo P a (i + 1) = delP (unTo P a i) (a + i) := by
  funext x; unfold unTo delP
  by_cases e : x = a + i
  · rw [if_pos (by omega), if_pos e]
  · rw [if_neg e]; by_cases h : a ≤ x ∧ x < a + i
    · rw [if_pos (by omega)]; exact (if_pos h).symm
    · rw [if_neg (by omega)]; exact (if_neg h).symm
theorem proTo_next {P : PM} {a : Int} {i : Nat} {prot : Int} (h : (P (a + i)).isSome = true) : proTo P a (i + 1) prot = putP (proTo P a i prot) (a + i) (prot, frm P (a + i)) := by
  funext x; unfold proTo putP
  by_cases e : x = a + i
  · rw [if_pos (by omega), if_pos e, e, pg_some h, ← pg_frm h]; rfl
  · rw [if_neg e]; by_cases h : a ≤ x ∧ x < a + i
    · rw [if_pos (by omega)]; exact (if_pos h).symm
    · rw [if_neg (by omega)]; exact (if_neg h).symm
theorem mapTo_at (P : PM) (a : Int) (i : Nat) (prot : Int) : mapTo P a i prot (a + i) = P (a + i) := by unfold mapTo; rw [if_neg (by omega)]
theorem unTo_at (P : PM) (a : Int) (i : Nat) : unTo P a i (a + i) = P (a + i) := by unfold unTo; rw [if_neg (by omega)]
theorem proTo_at (P : PM) (a : Int) (i : Nat) (prot : Int) : proTo P a i prot (a + i) = P (a + i) := by unfold proTo; rw [if_neg (by omega)]

/-- What Map, Unmap and Protect tell, and make. -/
def mapE (P : PM) (a n prot : Int) : Int := if areP a n = false then 2 else if isU prot = false then 1 else if hasP P a n.toNat = 0 then 0 else 9
def unE (P : PM) (a n : Int) : Int := if areP a n = false then 2 else if hasP P a n.toNat < n.toNat then 7 else 0
def proE (P : PM) (a n prot : Int) : Int := if areP a n = false then 2 else if isU prot = false then 1 else if hasP P a n.toNat < n.toNat then 7 else 0
def mapP (P : PM) (a n prot : Int) : PM := if mapE P a n prot = 0 then mapTo P a n.toNat prot else P
def unP (P : PM) (a n : Int) : PM := if unE P a n = 0 then unTo P a n.toNat else P
def proP (P : PM) (a n prot : Int) : PM := if proE P a n prot = 0 then proTo P a n.toNat prot else P

/-- One page put into the map. -/
theorem VS.put_page (h : VS E w c gc D A P o) {x : Int} {p : Int × Int} (hx0 : 0 ≤ x) (hx1 : x < 64) (hp : 1 ≤ p.1 ∧ p.1 ≤ 3) (hf : p.2 = frm P x) (hg : w.grownBy w' (some gc)) (pm : PMap w' gc (if (pgv P x).isSome then lenP P else lenP P + 1) (pgv (putP P x p))) : VS E w' c gc D A (putP P x p) o := by
  refine h.pages hg ?_ (fun f hf' => ?_) (h.ok.put hx0 hx1 hp (by rw [hf]; exact h.ok.frame x))
  · rw [pgv_isSome] at pm
    cases e : P x with
    | none => rw [e] at pm; rw [lenP_put_new hx0 hx1 e]; exact pm
    | some q => rw [e] at pm; rw [lenP_put_old (by rw [e]; rfl)]; exact pm
  · have := sh_put (P := P) hx0 hx1 p f
    rw [hf] at this; omega

set_option maxRecDepth 100000 in
set_option maxHeartbeats 4000000 in
theorem VS.map_ok (h : VS E w c gc D A P o) (a n prot : Int) (hn : n ≤ 9223372036854775807) : Calls Tryd.prog 60 #[vp c, .int .i64 a, .int .i64 n, .int .i64 prot] w fun e w' => e = .returned (errV (mapE P a n prot)) ∧ STurn E w c gc A w' D (mapP P a n prot) o := by
  have hA := arePages_ok w a n hn
  have hU := isUse_ok w prot
  obtain ⟨V, hV⟩ : ∃ V, errV (mapE P a n prot) = V := ⟨_, rfl⟩
  obtain ⟨P2, hP2⟩ : ∃ P2, mapP P a n prot = P2 := ⟨_, rfl⟩
  rw [hV, hP2]
  cases ha : areP a n with
  | false =>
    have e0 : mapE P a n prot = 2 := by unfold mapE; rw [if_pos ha]
    rw [mapP, if_neg (by rw [e0]; decide)] at hP2
    rw [e0] at hV
    rw [ha] at hA
    clear e0 hU ha
    subst hP2
    subst hV
    have ht := STurn.refl h
    clear h
    go_enter Tryd.func60, Tryd.ntmps60
    go_wp2_with (go_at_call 100; refine hA.mono ?_; rintro e w1 ⟨rfl, h1⟩; subst w1)
    go_ret
    exact ⟨rfl, ht⟩
  | true =>
    cases hu : isU prot with
    | false =>
      have e0 : mapE P a n prot = 1 := by unfold mapE; rw [if_neg (by rw [ha]; decide), if_pos hu]
      rw [mapP, if_neg (by rw [e0]; decide)] at hP2
      rw [e0] at hV
      rw [ha] at hA
      rw [hu] at hU
      clear e0 ha hu
      subst hP2
      subst hV
      have ht := STurn.refl h
      clear h
      go_enter Tryd.func60, Tryd.ntmps60
      go_wp2_with (first
        | (go_at_call 100; refine hA.mono ?_; rintro e w1 ⟨rfl, h1⟩; subst w1)
        | (go_at_call 101; refine hU.mono ?_; rintro e w1 ⟨rfl, h1⟩; subst w1))
      go_ret
      exact ⟨rfl, ht⟩
    | true =>
      obtain ⟨hn1, ha0, han⟩ := areP_true.1 ha
      obtain ⟨k, rfl⟩ : ∃ k : Nat, n = (k : Int) := ⟨n.toNat, by omega⟩
      have hC := h.sp.count a k ha0 han
      have hq := fun w => run_eql_map_nil_sl (P := Tryd.prog) w 166 _ _ (some gc) Tryd.underlying166
      have c1 := h.sp.c1
      have hpr := isU_true.1 hu
      rw [ha] at hA
      rw [hu] at hU
      by_cases hz : hasP P a k = 0
      · have e0 : mapE P a (k : Int) prot = 0 := by unfold mapE; rw [if_neg (by rw [ha]; decide), if_neg (by rw [hu]; decide), Int.toNat_natCast, if_pos hz]
        rw [mapP, if_pos e0, Int.toNat_natCast] at hP2
        rw [e0] at hV
        have hnone := hasP_none hz
        rw [hz] at hC
        subst hP2
        subst hV
        clear e0 hz ha hu
        go_enter Tryd.func60, Tryd.ntmps60
        go_wp2_with (first
          | (go_at_call 100; refine hA.mono ?_; rintro e w1 ⟨rfl, h1⟩; subst w1)
          | (go_at_call 101; refine hU.mono ?_; rintro e w1 ⟨rfl, h1⟩; subst w1)
          | (go_at_call 102; refine hC.mono ?_; rintro e w1 ⟨rfl, b1⟩))
        clear hA hU hC hq c1
        go_loopg [36] k (fun mm s36 wr => ∃ i : Nat, i + mm = k ∧ s36 = .int .i64 (i : Int) ∧ STurn E w c gc A wr D (mapTo P a i prot) o)
        case atStart => exact ⟨0, by omega, rfl, by rw [mapTo_zero]; exact STurn.below h b1⟩
        case round =>
          obtain ⟨i, hi, rfl, A1, v1, f1, s1⟩ := hrel
          by_cases hlt : (i : Int) < (k : Int)
          · have c1 := v1.sp.c1
            have hmp := v1.sp.map
            have hsz : lenP (mapTo P a i prot) < maxLen := by have := lenP_le (mapTo P a i prot); unfold maxLen; omega
            have hwf : (Lit.int .i64 (a + i)).wf = true := wf_small (by omega) (by omega)
            have hpp := pgv_put (mapTo P a i prot) (a + i) prot (-1)
            have hfr : frm (mapTo P a i prot) (a + i) = -1 := frm_none (by rw [mapTo_at]; exact hnone i (by omega))
            go_wp2_with (at_mapUpdate; refine wpList_kput rfl _ _ _ 166 rfl 172 Tryd.underlying166 gc _ _ rfl hmp hsz (a + i) rfl hwf (.agg #[.int .i64 prot, .int .i64 (-1)]) rfl ?_; intro w2 pm2 g2; rw [hpp] at pm2)
            go_roundg (k - (i + 1))
            case measure => omega
            case rel =>
              refine ⟨i + 1, by omega, by go_num, ?_⟩
              rw [mapTo_next]
              exact STurn.trans f1 s1 ⟨A1, v1.put_page (by omega) (by omega) hpr hfr.symm g2 pm2, (Fr.grown g2).mono (fun i _ e => .inr e), fun _ _ h => h⟩
          · have hik : i = k := by omega
            subst hik
            go_wp2_with fail
            go_ret
            exact ⟨rfl, A1, v1, f1, s1⟩
      · have e0 : mapE P a (k : Int) prot = 9 := by unfold mapE; rw [if_neg (by rw [ha]; decide), if_neg (by rw [hu]; decide), Int.toNat_natCast, if_neg hz]
        rw [mapP, if_neg (by rw [e0]; decide)] at hP2
        rw [e0] at hV
        subst hP2
        subst hV
        clear e0 ha hu
        have hgt : (0 : Int) < ((hasP P a k : Nat) : Int) := by omega
        generalize hasP P a k = hh at *
        go_enter Tryd.func60, Tryd.ntmps60
        go_wp2_with (first
          | (go_at_call 100; refine hA.mono ?_; rintro e w1 ⟨rfl, h1⟩; subst w1)
          | (go_at_call 101; refine hU.mono ?_; rintro e w1 ⟨rfl, h1⟩; subst w1)
          | (go_at_call 102; refine hC.mono ?_; rintro e w1 ⟨rfl, b1⟩))
        go_ret
        exact ⟨rfl, STurn.below h b1⟩

set_option maxRecDepth 100000 in
set_option maxHeartbeats 4000000 in
theorem VS.unmap_ok (h : VS E w c gc D A P o) (a n : Int) (hn : n ≤ 9223372036854775807) : Calls Tryd.prog 62 #[vp c, .int .i64 a, .int .i64 n] w fun e w' => e = .returned (errV (unE P a n)) ∧ STurn E w c gc A w' D (unP P a n) o := by
  have hA := arePages_ok w a n hn
  obtain ⟨V, hV⟩ : ∃ V, errV (unE P a n) = V := ⟨_, rfl⟩
  obtain ⟨P2, hP2⟩ : ∃ P2, unP P a n = P2 := ⟨_, rfl⟩
  rw [hV, hP2]
  cases ha : areP a n with
  | false =>
    have e0 : unE P a n = 2 := by unfold unE; rw [if_pos ha]
    rw [unP, if_neg (by rw [e0]; decide)] at hP2
    rw [e0] at hV
    rw [ha] at hA
    clear e0 ha
    subst hP2
    subst hV
    have ht := STurn.refl h
    clear h
    go_enter Tryd.func62, Tryd.ntmps62
    go_wp2_with (go_at_call 100; refine hA.mono ?_; rintro e w1 ⟨rfl, h1⟩; subst w1)
    go_ret
    exact ⟨rfl, ht⟩
  | true =>
    obtain ⟨hn1, ha0, han⟩ := areP_true.1 ha
    obtain ⟨k, rfl⟩ : ∃ k : Nat, n = (k : Int) := ⟨n.toNat, by omega⟩
    have hC := h.sp.count a k ha0 han
    rw [ha] at hA
    by_cases hz : hasP P a k < k
    · have e0 : unE P a (k : Int) = 7 := by unfold unE; rw [if_neg (by rw [ha]; decide), Int.toNat_natCast, if_pos hz]
      rw [unP, if_neg (by rw [e0]; decide)] at hP2
      rw [e0] at hV
      subst hP2
      subst hV
      clear e0 ha
      have hgt : ((hasP P a k : Nat) : Int) < (k : Int) := by omega
      generalize hasP P a k = hh at *
      go_enter Tryd.func62, Tryd.ntmps62
      go_wp2_with (first
        | (go_at_call 100; refine hA.mono ?_; rintro e w1 ⟨rfl, h1⟩; subst w1)
        | (go_at_call 102; refine hC.mono ?_; rintro e w1 ⟨rfl, b1⟩))
      go_ret
      exact ⟨rfl, STurn.below h b1⟩
    · have e0 : unE P a (k : Int) = 0 := by unfold unE; rw [if_neg (by rw [ha]; decide), Int.toNat_natCast, if_neg hz]
      rw [unP, if_pos e0, Int.toNat_natCast] at hP2
      rw [e0] at hV
      have hall := hasP_all hz
      subst hP2
      subst hV
      clear e0 ha
      have hgt : ¬ ((hasP P a k : Nat) : Int) < (k : Int) := by omega
      generalize hasP P a k = hh at *
      go_enter Tryd.func62, Tryd.ntmps62
      go_wp2_with (first
        | (go_at_call 100; refine hA.mono ?_; rintro e w1 ⟨rfl, h1⟩; subst w1)
        | (go_at_call 102; refine hC.mono ?_; rintro e w1 ⟨rfl, b1⟩))
      clear hA hC hz hgt
      go_loopg [21] k (fun mm s21 wr => ∃ i : Nat, i + mm = k ∧ s21 = .int .i64 (i : Int) ∧ STurn E w c gc A wr D (unTo P a i) o)
      case atStart => exact ⟨0, by omega, rfl, by rw [unTo_zero]; exact STurn.below h b1⟩
      case round =>
        obtain ⟨i, hi, rfl, A1, v1, f1, s1⟩ := hrel
        by_cases hlt : (i : Int) < (k : Int)
        · have hR := v1.remove (a + i) (by rw [unTo_at]; exact hall i (by omega))
          rw [← unTo_next] at hR
          go_wp2_with (go_at_call 106; refine hR.mono ?_; rintro e w2 ⟨rfl, t2⟩)
          go_roundg (k - (i + 1))
          case measure => omega
          case rel => exact ⟨i + 1, by omega, by go_num, STurn.trans f1 s1 t2⟩
        · have hik : i = k := by omega
          subst hik
          go_wp2_with fail
          go_ret
          exact ⟨rfl, A1, v1, f1, s1⟩

set_option maxRecDepth 100000 in
set_option maxHeartbeats 4000000 in
theorem VS.protect_ok (h : VS E w c gc D A P o) (a n prot : Int) (hn : n ≤ 9223372036854775807) : Calls Tryd.prog 63 #[vp c, .int .i64 a, .int .i64 n, .int .i64 prot] w fun e w' => e = .returned (errV (proE P a n prot)) ∧ STurn E w c gc A w' D (proP P a n prot) o := by
  have hA := arePages_ok w a n hn
  have hU := isUse_ok w prot
  obtain ⟨V, hV⟩ : ∃ V, errV (proE P a n prot) = V := ⟨_, rfl⟩
  obtain ⟨P2, hP2⟩ : ∃ P2, proP P a n prot = P2 := ⟨_, rfl⟩
  rw [hV, hP2]
  cases ha : areP a n with
  | false =>
    have e0 : proE P a n prot = 2 := by unfold proE; rw [if_pos ha]
    rw [proP, if_neg (by rw [e0]; decide)] at hP2
    rw [e0] at hV
    rw [ha] at hA
    clear e0 hU ha
    subst hP2
    subst hV
    have ht := STurn.refl h
    clear h
    go_enter Tryd.func63, Tryd.ntmps63
    go_wp2_with (go_at_call 100; refine hA.mono ?_; rintro e w1 ⟨rfl, h1⟩; subst w1)
    go_ret
    exact ⟨rfl, ht⟩
  | true =>
    cases hu : isU prot with
    | false =>
      have e0 : proE P a n prot = 1 := by unfold proE; rw [if_neg (by rw [ha]; decide), if_pos hu]
      rw [proP, if_neg (by rw [e0]; decide)] at hP2
      rw [e0] at hV
      rw [ha] at hA
      rw [hu] at hU
      clear e0 ha hu
      subst hP2
      subst hV
      have ht := STurn.refl h
      clear h
      go_enter Tryd.func63, Tryd.ntmps63
      go_wp2_with (first
        | (go_at_call 100; refine hA.mono ?_; rintro e w1 ⟨rfl, h1⟩; subst w1)
        | (go_at_call 101; refine hU.mono ?_; rintro e w1 ⟨rfl, h1⟩; subst w1))
      go_ret
      exact ⟨rfl, ht⟩
    | true =>
      obtain ⟨hn1, ha0, han⟩ := areP_true.1 ha
      obtain ⟨k, rfl⟩ : ∃ k : Nat, n = (k : Int) := ⟨n.toNat, by omega⟩
      have hC := h.sp.count a k ha0 han
      have hpr := isU_true.1 hu
      rw [ha] at hA
      rw [hu] at hU
      by_cases hz : hasP P a k < k
      · have e0 : proE P a (k : Int) prot = 7 := by unfold proE; rw [if_neg (by rw [ha]; decide), if_neg (by rw [hu]; decide), Int.toNat_natCast, if_pos hz]
        rw [proP, if_neg (by rw [e0]; decide)] at hP2
        rw [e0] at hV
        subst hP2
        subst hV
        clear e0 ha hu
        have hgt : ((hasP P a k : Nat) : Int) < (k : Int) := by omega
        generalize hasP P a k = hh at *
        go_enter Tryd.func63, Tryd.ntmps63
        go_wp2_with (first
          | (go_at_call 100; refine hA.mono ?_; rintro e w1 ⟨rfl, h1⟩; subst w1)
          | (go_at_call 101; refine hU.mono ?_; rintro e w1 ⟨rfl, h1⟩; subst w1)
          | (go_at_call 102; refine hC.mono ?_; rintro e w1 ⟨rfl, b1⟩))
        go_ret
        exact ⟨rfl, STurn.below h b1⟩
      · have e0 : proE P a (k : Int) prot = 0 := by unfold proE; rw [if_neg (by rw [ha]; decide), if_neg (by rw [hu]; decide), Int.toNat_natCast, if_neg hz]
        rw [proP, if_pos e0, Int.toNat_natCast] at hP2
        rw [e0] at hV
        have hall := hasP_all hz
        subst hP2
        subst hV
        clear e0 ha hu
        have hgt : ¬ ((hasP P a k : Nat) : Int) < (k : Int) := by omega
        generalize hasP P a k = hh at *
        go_enter Tryd.func63, Tryd.ntmps63
        go_wp2_with (first
          | (go_at_call 100; refine hA.mono ?_; rintro e w1 ⟨rfl, h1⟩; subst w1)
          | (go_at_call 101; refine hU.mono ?_; rintro e w1 ⟨rfl, h1⟩; subst w1)
          | (go_at_call 102; refine hC.mono ?_; rintro e w1 ⟨rfl, b1⟩))
        clear hA hU hC hz hgt
        go_loopg [27] k (fun mm s27 wr => ∃ i : Nat, i + mm = k ∧ s27 = .int .i64 (i : Int) ∧ STurn E w c gc A wr D (proTo P a i prot) o)
        case atStart => exact ⟨0, by omega, rfl, by rw [proTo_zero]; exact STurn.below h b1⟩
        case round =>
          obtain ⟨i, hi, rfl, A1, v1, f1, s1⟩ := hrel
          by_cases hlt : (i : Int) < (k : Int)
          · have c1 := v1.sp.c1
            have hmp := v1.sp.map
            have hsz : lenP (proTo P a i prot) < maxLen := by have := lenP_le (proTo P a i prot); unfold maxLen; omega
            have hwf : (Lit.int .i64 (a + i)).wf = true := wf_small (by omega) (by omega)
            have hi' := hall i (by omega)
            have hia : (proTo P a i prot (a + i)).isSome = true := by rw [proTo_at]; exact hi'
            have hfe : frm (proTo P a i prot) (a + i) = frm P (a + i) := by unfold frm; rw [proTo_at]
            have hgt := pgv_get (proTo P a i prot) (a + i)
            rw [pg_frm hia, hfe] at hgt
            have hl : (Instr.lookup 166 (.map (some gc)) (.int .i64 (a + i)) false).run Tryd.prog wr.drew = .ok (.agg #[.int .i64 (pg (proTo P a i prot) (a + i)).1, .int .i64 (frm P (a + i))]) wr.drew := by
              rw [← hgt]; exact (hmp.keep (w' := wr.drew) rfl).look Tryd.underlying166 (zero_page _) (a + i) hwf
            obtain ⟨w2, hrun, pm2, g2⟩ := (hmp.keep (w' := wr.drew) rfl).put Tryd.underlying166 hsz (a + i) hwf (.agg #[.int .i64 prot, .int .i64 (frm P (a + i))])
            rw [pgv_put] at pm2
            have hg2 : wr.grownBy w2 (some gc) := ⟨g2.os, g2.tape, g2.output, g2.size, g2.block⟩
            have hsec := page_second (pg (proTo P a i prot) (a + i)).1 (frm P (a + i))
            have hfin : STurn E w c gc A w2 D (proTo P a (i + 1) prot) o := by
              rw [proTo_next hi']
              exact STurn.trans f1 s1 ⟨A1, v1.put_page (by omega) (by omega) hpr hfe.symm hg2 pm2, (Fr.grown hg2).mono (fun i _ e => .inr e), fun _ _ h => h⟩
            clear v1 f1 s1 h hmp pm2 g2 hg2 hgt hfe hia hi' hall
            generalize (pg (proTo P a i prot) (a + i)).1 = x at *
            generalize frm P (a + i) = y at *
            go_wp2_with fail
            go_region
            go_wp2_with fail
            go_roundg (k - (i + 1))
            case measure => omega
            case rel => exact ⟨i + 1, by omega, by go_num, hfin⟩
          · have hik : i = k := by omega
            subst hik
            go_wp2_with fail
            go_ret
            exact ⟨rfl, A1, v1, f1, s1⟩

theorem unTo_all (h : PgOk E.n P) : unTo P 0 64 = fun _ => none := by
  funext x; unfold unTo; split
  · rfl
  · rename_i hx
    cases e : P x with
    | none => rfl
    | some p => have := h.key x (by rw [e]; rfl); omega

set_option maxRecDepth 100000 in
set_option maxHeartbeats 4000000 in
theorem VS.clear_ok (h : VS E w c gc D A P o) : Calls Tryd.prog 70 #[vp c] w fun e w' => e = .returned (.tuple #[]) ∧ STurn E w c gc A w' D (fun _ => none) o := by
  have hend := unTo_all h.ok
  go_enter Tryd.func70, Tryd.ntmps70
  go_wp2_with fail
  go_loopg [5] 64 (fun mm s5 wr => ∃ i : Nat, i + mm = 64 ∧ s5 = .int .i64 (i : Int) ∧ STurn E w c gc A wr D (unTo P 0 i) o)
  case atStart => exact ⟨0, by omega, rfl, by rw [unTo_zero]; exact STurn.refl h⟩
  case round =>
    clear h
    obtain ⟨i, hi, rfl, A1, v1, f1, s1⟩ := hrel
    by_cases hlt : (i : Int) < 64
    · have hF := find_ok v1.sp (i : Int) (wf_small (by omega) (by omega))
      have hnx := unTo_next P 0 i
      rw [Int.zero_add] at hnx
      generalize (pg (unTo P 0 i) (i : Int)).1 = x at *
      generalize (pg (unTo P 0 i) (i : Int)).2 = y at *
      cases hP : (unTo P 0 i (i : Int)).isSome with
      | true =>
        rw [hP] at hF
        have hR : ∀ w1, Below wr.heap.size wr w1 → Calls Tryd.prog 106 #[vp c, .int .i64 (i : Int)] w1 fun e w' => e = .returned (.tuple #[]) ∧ STurn E w c gc A w' D (unTo P 0 (i + 1)) o := fun w1 b1 => by
          refine ((v1.below b1).remove (i : Int) hP).mono ?_
          rintro e w' ⟨he, t⟩
          rw [← hnx] at t
          exact ⟨he, STurn.trans f1 s1 (STurn.trans (fr_below b1) (fun _ _ h => h) t)⟩
        clear hP hnx v1 f1 s1
        go_wp2_with (first
          | (go_at_call 113; refine hF.mono ?_; rintro e w1 ⟨rfl, b1⟩)
          | (go_at_call 106; refine (hR _ (Below.alloc b1 b1.size _)).mono ?_; rintro e w2 ⟨rfl, t2⟩))
        go_roundg (64 - (i + 1))
        case measure => omega
        case rel => exact ⟨i + 1, by omega, by go_num, t2⟩
      | false =>
        rw [hP] at hF
        have hd : delP (unTo P 0 i) (i : Int) = unTo P 0 i := by
          funext z; unfold delP; split
          · rename_i e; rw [e]; cases e' : unTo P 0 i (i : Int) with
            | none => rfl
            | some p => rw [e'] at hP; cases hP
          · rfl
        have ht : ∀ w1, Below wr.heap.size wr w1 → STurn E w c gc A w1 D (unTo P 0 (i + 1)) o := fun w1 b1 => by
          rw [hnx, hd]; exact STurn.trans f1 s1 (STurn.below v1 b1)
        clear hP hnx v1 f1 s1 hd
        go_wp2_with (go_at_call 113; refine hF.mono ?_; rintro e w1 ⟨rfl, b1⟩)
        go_roundg (64 - (i + 1))
        case measure => omega
        case rel => exact ⟨i + 1, by omega, by go_num, ht _ (Below.alloc b1 b1.size _)⟩
    · have hik : i = 64 := by omega
      subst hik
      rw [hend] at v1
      go_wp2_with fail
      go_end0
      exact ⟨rfl, A1, v1, f1, s1⟩
end
end Go.Proofs.YtcllfedpdcjbcaaDoor
