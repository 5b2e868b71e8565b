/- Package vm: Map, Unmap, Protect, Clear, by their Go text. -/
import Derived.Test.YtcfhanoekniaaaaGreatDoorVSpace2
import Derived.Shelf.SlMaps.Clone
namespace Go.Proofs.YtcfhanoekniaaaaGreatDoor
open Go.RowKit Go.Shelf Go.Lib Go.Sort Go.Maps

section
variable {E : St} {w w' : World} {c gc : Nat} {D : Nat → Nat → Int} {A : Nat → Prop} {P : PM} {o : Int → Nat}

/-- A page went: its frame was let go, then it was taken from the map. -/
theorem VS.gone (h : VS E w c gc D A P o) {a : Int} (ha : (P a).isSome = true) {w1 w2 : World} {A1 : Nat → Prop} (v1 : Vs E w1 D (dropR (Rof fun f => sh P f + o f) (frm P a)) A1) (f1 : Fr (vown E A) w w1) (s1 : ∀ i, i < w.heap.size → A1 i → A i)
    (g2 : w1.grownBy w2 (some gc)) {s : Nat} (pm2 : PMap w2 gc s (pgv (delP P a))) (hs : s + 1 = lenP P) : STurn E w c gc A w2 D (delP P a) o := by
  have hk := h.ok.key a ha
  have hl : ∀ i, i < w.heap.size → i < w1.heap.size := fun i hi => Nat.lt_of_lt_of_le hi f1.size
  have k2 : ∀ i, i < w1.heap.size → i ≠ gc → w2.heap[i]? = w1.heap[i]? := fun i hi hn => g2.block i hi (fun e => hn (Option.some.inj e))
  have hR : dropR (Rof fun f => sh P f + o f) (frm P a) = Rof fun f => sh (delP P a) f + o f := by
    refine v1.rof (fun x hx => ?_)
    have hd := sh_del (P := P) hk.1 hk.2 hx
    rw [dropR_val]
    by_cases e : x = frm P a
    · rw [if_pos e.symm] at hd
      rw [if_pos e, Rof_val (by rw [← e]; exact hx), ← e]; omega
    · rw [if_neg (fun h => e h.symm)] at hd
      rw [if_neg e, Rof_val hx]; omega
  rw [hR] at v1
  have hown1 : ∀ i, i < w.heap.size → vown E A1 i → vown E A i := fun i hi ho => by
    rcases ho with ho | ho
    · exact .inl (s1 i hi ho)
    · exact .inr ho
  have hlen := lenP_del hk.1 hk.2 ha
  refine ⟨A1, ⟨v1.keep (fun i hi => k2 i (v1.olt hi) (fun e => h.offg (hown1 gc h.sp.glt (e ▸ hi)))) (k2 _ v1.blt (fun e => h.gb e.symm)) (k2 _ v1.mlt (fun e => h.gm e.symm)), ⟨?_, ?_⟩, h.ok.del, h.dis.del hk.1 hk.2, fun ho => h.offc (hown1 c h.sp.lt ho), fun ho => h.offg (hown1 gc h.sp.glt ho), h.gb, h.gm⟩, ?_, s1⟩
  · exact ((k2 c (hl c h.sp.lt) h.sp.ne).trans (f1.block c h.sp.lt h.offc)).trans h.sp.head
  · rw [show lenP (delP P a) = s by omega]; exact pm2
  · exact (f1.mono (fun i _ h => .inl h)).trans (Fr.grown g2) (fun i _ e => .inr e)

set_option maxRecDepth 100000 in
set_option maxHeartbeats 4000000 in
theorem VS.remove (h : VS E w c gc D A P o) (a : Int) (ha : (P a).isSome = true) : Calls Tryz.prog 216 #[vp c, .int .i64 a] w fun e w' => e = .returned (.tuple #[]) ∧ STurn E w c gc A w' D (delP P a) o := by
  have hk := h.ok.key a ha
  have hwf : (Lit.int .i64 a).wf = true := wf_small hk.1 (by omega)
  have hpf := pg_frm ha
  have hgt := pgv_get P a
  rw [hpf] at hgt
  have hl : (Instr.lookup 319 (.map (some gc)) (.int .i64 a) false).run Tryz.prog w.drew = .ok (.agg #[.int .i64 (pg P a).1, .int .i64 (frm P a)]) w.drew := by
    rw [← hgt]; exact (h.sp.map.keep (w' := w.drew) rfl).look Tryz.underlying319 (zero_page _) a hwf
  have hD : Calls Tryz.prog 283 #[vp E.b, .int .i64 (frm P a)] w.drew fun e w' => e = .returned (.tuple #[]) ∧ (∃ A1, Vs E w' D (dropR (Rof fun f => sh P f + o f) (frm P a)) A1 ∧ Fr (vown E A) w w' ∧ (∀ i, i < w.heap.size → A1 i → A i)) ∧ w'.cell? ⟨c, 1, none⟩ = some (.map (some gc)) ∧ PMap w' gc (lenP P) (pgv P) := by
    have hq := h.drew
    refine (hq.st.drop_ok (frm P a) ?_).mono ?_
    · by_cases e : frm P a = -1
      · exact .inl e
      · exact .inr (h.frame_some e).1
    · rintro e w' ⟨he, A1, v1, f1, s1⟩
      have f1' : Fr (vown E A) w w' := (Fr.drew _ w).trans f1 (fun _ _ h => h)
      refine ⟨he, ⟨A1, v1, f1', s1⟩, ?_, h.sp.map.keep (f1'.block gc h.sp.glt h.offg)⟩
      rw [World.cell?_of_block (w := w) (a := ⟨c, 1, none⟩) (f1'.block c h.sp.lt h.offc)]; exact h.sp.c1
  have c0 := h.sp.c0
  have c1 := h.sp.c1
  have hsz : (pgv P a).isSome = true := by rw [pgv_isSome]; exact ha
  have hlp : 1 ≤ lenP P := by have := lenP_del hk.1 hk.2 ha; omega
  have hfin := fun w1 w2 A1 v1 f1 s1 g2 s pm2 hs => h.gone ha (w1 := w1) (w2 := w2) (A1 := A1) v1 f1 s1 g2 (s := s) pm2 hs
  have hpd := pgv_del P a
  have hsec := page_second (pg P a).1 (frm P a)
  clear h hpf hgt hk ha
  generalize hF : frm P a = f at *
  generalize (pg P a).1 = x at *
  go_enter Tryz.func216, Tryz.ntmps216
  go_wp2_with fail
  go_region_with (go_at_call 283; refine hD.mono ?_; rintro e w1 ⟨rfl, ⟨A1, v1, f1, s1⟩, c1', pm1⟩)
  all_goals
    go_wp2_with (at_delete; refine wpList_kdel rfl _ _ 319 rfl 315 Tryz.underlying319 gc _ _ rfl pm1 a rfl hwf ?_; intro w2 pm2 g2; rw [hpd] at pm2)
    go_end0
    exact ⟨rfl, hfin _ _ _ v1 f1 s1 g2 _ pm2 (by rw [if_pos hsz]; omega)⟩

theorem fr_below {B : Nat → Prop} (hb : Below w.heap.size w w') : Fr B w w' := ⟨hb.os, hb.tape, hb.output, hb.size, fun i hi _ => hb.block i hi⟩
theorem STurn.below (h : VS E w c gc D A P o) (hb : Below w.heap.size w w') : STurn E w c gc A w' D P o := ⟨A, h.below hb, fr_below hb, fun _ _ h => h⟩
/-- Pages made; pages taken away; what pages may be used for. -/
def mapTo (P : PM) (a : Int) (i : Nat) (prot : Int) : PM := fun x => if a ≤ x ∧ x < a + i then some (prot, -1) else P x
def unTo (P : PM) (a : Int) (i : Nat) : PM := fun x => if a ≤ x ∧ x < a + i then none else P x
theorem mapTo_zero (P : PM) (a prot : Int) : mapTo P a 0 prot = P := by funext x; unfold mapTo; rw [if_neg (by omega)]
theorem unTo_zero (P : PM) (a : Int) : unTo P a 0 = P := by funext x; unfold unTo; rw [if_neg (by omega)]
theorem mapTo_next (P : PM) (a : Int) (i : Nat) (prot : Int) : mapTo P a (i + 1) prot = putP (mapTo P a i prot) (a + i) (prot, -1) := by
  funext x; unfold mapTo putP
  by_cases e : x = a + i
  · rw [if_pos (by omega), if_pos e]
  · rw [if_neg e]; by_cases h : a ≤ x ∧ x < a + i
    · rw [if_pos (by omega)]; exact (if_pos h).symm
    · rw [if_neg (by omega)]; exact (if_neg h).symm
theorem unTo_next (P : PM) (a : Int) (i : Nat) : unTo P a (i + 1) = delP (unTo P a i) (a + i) := by
  funext x; unfold unTo delP
  by_cases e : x = a + i
  · rw [if_pos (by omega), if_pos e]
  · rw [if_neg e]; by_cases h : a ≤ x ∧ x < a + i
    · rw [if_pos (by omega)]; exact (if_pos h).symm
    · rw [if_neg (by omega)]; exact (if_neg h).symm
theorem mapTo_at (P : PM) (a : Int) (i : Nat) (prot : Int) : mapTo P a i prot (a + i) = P (a + i) := by unfold mapTo; rw [if_neg (by omega)]
theorem unTo_at (P : PM) (a : Int) (i : Nat) : unTo P a i (a + i) = P (a + i) := by unfold unTo; rw [if_neg (by omega)]
/-- What Map, Unmap and Protect tell, and make. -/
def mapE (P : PM) (a n prot : Int) : Int := if areP a n = false then 2 else if isU prot = false then 1 else if hasP P a n.toNat = 0 then 0 else 9
def unE (P : PM) (a n : Int) : Int := if areP a n = false then 2 else if hasP P a n.toNat < n.toNat then 7 else 0
def mapP (P : PM) (a n prot : Int) : PM := if mapE P a n prot = 0 then mapTo P a n.toNat prot else P
def unP (P : PM) (a n : Int) : PM := if unE P a n = 0 then unTo P a n.toNat else P
/-- One page put into the map. -/
theorem VS.put_page (h : VS E w c gc D A P o) {x : Int} {p : Int × Int} (hx0 : 0 ≤ x) (hx1 : x < 64) (hp : 1 ≤ p.1 ∧ p.1 ≤ 3) (hf : p.2 = frm P x) (hg : w.grownBy w' (some gc)) (pm : PMap w' gc (if (pgv P x).isSome then lenP P else lenP P + 1) (pgv (putP P x p))) : VS E w' c gc D A (putP P x p) o := by
  refine h.pages hg ?_ (fun f hf' => ?_) (h.ok.put hx0 hx1 hp (by rw [hf]; exact h.ok.frame x))
  · rw [pgv_isSome] at pm
    cases e : P x with
    | none => rw [e] at pm; rw [lenP_put_new hx0 hx1 e]; exact pm
    | some q => rw [e] at pm; rw [lenP_put_old (by rw [e]; rfl)]; exact pm
  · have := sh_put (P := P) hx0 hx1 p f
    rw [hf] at this; omega

set_option maxRecDepth 100000 in
set_option maxHeartbeats 4000000 in
theorem VS.map_ok (h : VS E w c gc D A P o) (a n prot : Int) (hn : n ≤ 9223372036854775807) : Calls Tryz.prog 127 #[vp c, .int .i64 a, .int .i64 n, .int .i64 prot] w fun e w' => e = .returned (errV (mapE P a n prot)) ∧ STurn E w c gc A w' D (mapP P a n prot) o := by
  have hA := arePages_ok w a n hn
  have hU := isUse_okV w prot
  obtain ⟨V, hV⟩ : ∃ V, errV (mapE P a n prot) = V := ⟨_, rfl⟩
  obtain ⟨P2, hP2⟩ : ∃ P2, mapP P a n prot = P2 := ⟨_, rfl⟩
  rw [hV, hP2]
  cases ha : areP a n with
  | false =>
    have e0 : mapE P a n prot = 2 := by unfold mapE; rw [if_pos ha]
    rw [mapP, if_neg (by rw [e0]; decide)] at hP2
    rw [e0] at hV
    rw [ha] at hA
    clear e0 hU ha
    subst hP2
    subst hV
    have ht := STurn.refl h
    clear h
    go_enter Tryz.func127, Tryz.ntmps127
    go_wp2_with (go_at_call 230; refine hA.mono ?_; rintro e w1 ⟨rfl, h1⟩; subst w1)
    go_ret
    exact ⟨rfl, ht⟩
  | true =>
    cases hu : isU prot with
    | false =>
      have e0 : mapE P a n prot = 1 := by unfold mapE; rw [if_neg (by rw [ha]; decide), if_pos hu]
      rw [mapP, if_neg (by rw [e0]; decide)] at hP2
      rw [e0] at hV
      rw [ha] at hA
      rw [hu] at hU
      clear e0 ha hu
      subst hP2
      subst hV
      have ht := STurn.refl h
      clear h
      go_enter Tryz.func127, Tryz.ntmps127
      go_wp2_with (first
        | (go_at_call 230; refine hA.mono ?_; rintro e w1 ⟨rfl, h1⟩; subst w1)
        | (go_at_call 231; refine hU.mono ?_; rintro e w1 ⟨rfl, h1⟩; subst w1))
      go_ret
      exact ⟨rfl, ht⟩
    | true =>
      obtain ⟨hn1, ha0, han⟩ := areP_true.1 ha
      obtain ⟨k, rfl⟩ : ∃ k : Nat, n = (k : Int) := ⟨n.toNat, by omega⟩
      have hC := h.sp.count a k ha0 han
      have hq := fun w => run_eql_map_nil_sl (P := Tryz.prog) w 319 _ _ (some gc) Tryz.underlying319
      have c1 := h.sp.c1
      have hpr := isU_true.1 hu
      rw [ha] at hA
      rw [hu] at hU
      by_cases hz : hasP P a k = 0
      · have e0 : mapE P a (k : Int) prot = 0 := by unfold mapE; rw [if_neg (by rw [ha]; decide), if_neg (by rw [hu]; decide), Int.toNat_natCast, if_pos hz]
        rw [mapP, if_pos e0, Int.toNat_natCast] at hP2
        rw [e0] at hV
        have hnone := hasP_none hz
        rw [hz] at hC
        subst hP2
        subst hV
        clear e0 hz ha hu
        go_enter Tryz.func127, Tryz.ntmps127
        go_wp2_with (first
          | (go_at_call 230; refine hA.mono ?_; rintro e w1 ⟨rfl, h1⟩; subst w1)
          | (go_at_call 231; refine hU.mono ?_; rintro e w1 ⟨rfl, h1⟩; subst w1)
          | (go_at_call 232; refine hC.mono ?_; rintro e w1 ⟨rfl, b1⟩))
        clear hA hU hC hq c1
        go_loopg [36] k (fun mm s36 wr => ∃ i : Nat, i + mm = k ∧ s36 = .int .i64 (i : Int) ∧ STurn E w c gc A wr D (mapTo P a i prot) o)
        case atStart => exact ⟨0, by omega, rfl, by rw [mapTo_zero]; exact STurn.below h b1⟩
        case round =>
          obtain ⟨i, hi, rfl, A1, v1, f1, s1⟩ := hrel
          by_cases hlt : (i : Int) < (k : Int)
          · have c1 := v1.sp.c1
            have hmp := v1.sp.map
            have hsz : lenP (mapTo P a i prot) < maxLen := by have := lenP_le (mapTo P a i prot); unfold maxLen; omega
            have hwf : (Lit.int .i64 (a + i)).wf = true := wf_small (by omega) (by omega)
            have hpp := pgv_put (mapTo P a i prot) (a + i) prot (-1)
            have hfr : frm (mapTo P a i prot) (a + i) = -1 := frm_none (by rw [mapTo_at]; exact hnone i (by omega))
            go_wp2_with (at_mapUpdate; refine wpList_kput rfl _ _ _ 319 rfl 315 Tryz.underlying319 gc _ _ rfl hmp hsz (a + i) rfl hwf (.agg #[.int .i64 prot, .int .i64 (-1)]) rfl ?_; intro w2 pm2 g2; rw [hpp] at pm2)
            go_roundg (k - (i + 1))
            case measure => omega
            case rel =>
              refine ⟨i + 1, by omega, by go_num, ?_⟩
              rw [mapTo_next]
              exact STurn.trans f1 s1 ⟨A1, v1.put_page (by omega) (by omega) hpr hfr.symm g2 pm2, (Fr.grown g2).mono (fun i _ e => .inr e), fun _ _ h => h⟩
          · have hik : i = k := by omega
            subst hik
            go_wp2_with fail
            go_ret
            exact ⟨rfl, A1, v1, f1, s1⟩
      · have e0 : mapE P a (k : Int) prot = 9 := by unfold mapE; rw [if_neg (by rw [ha]; decide), if_neg (by rw [hu]; decide), Int.toNat_natCast, if_neg hz]
        rw [mapP, if_neg (by rw [e0]; decide)] at hP2
        rw [e0] at hV
        subst hP2
        subst hV
        clear e0 ha hu
        have hgt : (0 : Int) < ((hasP P a k : Nat) : Int) := by omega
        generalize hasP P a k = hh at *
        go_enter Tryz.func127, Tryz.ntmps127
        go_wp2_with (first
          | (go_at_call 230; refine hA.mono ?_; rintro e w1 ⟨rfl, h1⟩; subst w1)
          | (go_at_call 231; refine hU.mono ?_; rintro e w1 ⟨rfl, h1⟩; subst w1)
          | (go_at_call 232; refine hC.mono ?_; rintro e w1 ⟨rfl, b1⟩))
        go_ret
        exact ⟨rfl, STurn.below h b1⟩

set_option maxRecDepth 100000 in
set_option maxHeartbeats 4000000 in
theorem VS.unmap_ok (h : VS E w c gc D A P o) (a n : Int) (hn : n ≤ 9223372036854775807) : Calls Tryz.prog 129 #[vp c, .int .i64 a, .int .i64 n] w fun e w' => e = .returned (errV (unE P a n)) ∧ STurn E w c gc A w' D (unP P a n) o := by
  have hA := arePages_ok w a n hn
  obtain ⟨V, hV⟩ : ∃ V, errV (unE P a n) = V := ⟨_, rfl⟩
  obtain ⟨P2, hP2⟩ : ∃ P2, unP P a n = P2 := ⟨_, rfl⟩
  rw [hV, hP2]
  cases ha : areP a n with
  | false =>
    have e0 : unE P a n = 2 := by unfold unE; rw [if_pos ha]
    rw [unP, if_neg (by rw [e0]; decide)] at hP2
    rw [e0] at hV
    rw [ha] at hA
    clear e0 ha
    subst hP2
    subst hV
    have ht := STurn.refl h
    clear h
    go_enter Tryz.func129, Tryz.ntmps129
    go_wp2_with (go_at_call 230; refine hA.mono ?_; rintro e w1 ⟨rfl, h1⟩; subst w1)
    go_ret
    exact ⟨rfl, ht⟩
  | true =>
    obtain ⟨hn1, ha0, han⟩ := areP_true.1 ha
    obtain ⟨k, rfl⟩ : ∃ k : Nat, n = (k : Int) := ⟨n.toNat, by omega⟩
    have hC := h.sp.count a k ha0 han
    rw [ha] at hA
    by_cases hz : hasP P a k < k
    · have e0 : unE P a (k : Int) = 7 := by unfold unE; rw [if_neg (by rw [ha]; decide), Int.toNat_natCast, if_pos hz]
      rw [unP, if_neg (by rw [e0]; decide)] at hP2
      rw [e0] at hV
      subst hP2
      subst hV
      clear e0 ha
      have hgt : ((hasP P a k : Nat) : Int) < (k : Int) := by omega
      generalize hasP P a k = hh at *
      go_enter Tryz.func129, Tryz.ntmps129
      go_wp2_with (first
        | (go_at_call 230; refine hA.mono ?_; rintro e w1 ⟨rfl, h1⟩; subst w1)
        | (go_at_call 232; refine hC.mono ?_; rintro e w1 ⟨rfl, b1⟩))
      go_ret
      exact ⟨rfl, STurn.below h b1⟩
    · have e0 : unE P a (k : Int) = 0 := by unfold unE; rw [if_neg (by rw [ha]; decide), Int.toNat_natCast, if_neg hz]
      rw [unP, if_pos e0, Int.toNat_natCast] at hP2
      rw [e0] at hV
      have hall := hasP_all hz
      subst hP2
      subst hV
      clear e0 ha
      have hgt : ¬ ((hasP P a k : Nat) : Int) < (k : Int) := by omega
      generalize hasP P a k = hh at *
      go_enter Tryz.func129, Tryz.ntmps129
      go_wp2_with (first
        | (go_at_call 230; refine hA.mono ?_; rintro e w1 ⟨rfl, h1⟩; subst w1)
        | (go_at_call 232; refine hC.mono ?_; rintro e w1 ⟨rfl, b1⟩))
      clear hA hC hz hgt
      go_loopg [21] k (fun mm s21 wr => ∃ i : Nat, i + mm = k ∧ s21 = .int .i64 (i : Int) ∧ STurn E w c gc A wr D (unTo P a i) o)
      case atStart => exact ⟨0, by omega, rfl, by rw [unTo_zero]; exact STurn.below h b1⟩
      case round =>
        obtain ⟨i, hi, rfl, A1, v1, f1, s1⟩ := hrel
        by_cases hlt : (i : Int) < (k : Int)
        · have hR := v1.remove (a + i) (by rw [unTo_at]; exact hall i (by omega))
          rw [← unTo_next] at hR
          go_wp2_with (go_at_call 216; refine hR.mono ?_; rintro e w2 ⟨rfl, t2⟩)
          go_roundg (k - (i + 1))
          case measure => omega
          case rel => exact ⟨i + 1, by omega, by go_num, STurn.trans f1 s1 t2⟩
        · have hik : i = k := by omega
          subst hik
          go_wp2_with fail
          go_ret
          exact ⟨rfl, A1, v1, f1, s1⟩

theorem unTo_all (h : PgOk E.n P) : unTo P 0 64 = fun _ => none := by
  funext x; unfold unTo; split
  · rfl
  · rename_i hx
    cases e : P x with
    | none => rfl
    | some p => have := h.key x (by rw [e]; rfl); omega

set_option maxRecDepth 100000 in
set_option maxHeartbeats 4000000 in
theorem VS.clear_ok (h : VS E w c gc D A P o) : Calls Tryz.prog 114 #[vp c] w fun e w' => e = .returned (.tuple #[]) ∧ STurn E w c gc A w' D (fun _ => none) o := by
  have hend := unTo_all h.ok
  go_enter Tryz.func114, Tryz.ntmps114
  go_wp2_with fail
  go_loopg [5] 64 (fun mm s5 wr => ∃ i : Nat, i + mm = 64 ∧ s5 = .int .i64 (i : Int) ∧ STurn E w c gc A wr D (unTo P 0 i) o)
  case atStart => exact ⟨0, by omega, rfl, by rw [unTo_zero]; exact STurn.refl h⟩
  case round =>
    clear h
    obtain ⟨i, hi, rfl, A1, v1, f1, s1⟩ := hrel
    by_cases hlt : (i : Int) < 64
    · have hF := find_ok v1.sp (i : Int) (wf_small (by omega) (by omega))
      have hnx := unTo_next P 0 i
      rw [Int.zero_add] at hnx
      generalize (pg (unTo P 0 i) (i : Int)).1 = x at *
      generalize (pg (unTo P 0 i) (i : Int)).2 = y at *
      cases hP : (unTo P 0 i (i : Int)).isSome with
      | true =>
        rw [hP] at hF
        have hR : ∀ w1, Below wr.heap.size wr w1 → Calls Tryz.prog 216 #[vp c, .int .i64 (i : Int)] w1 fun e w' => e = .returned (.tuple #[]) ∧ STurn E w c gc A w' D (unTo P 0 (i + 1)) o := fun w1 b1 => by
          refine ((v1.below b1).remove (i : Int) hP).mono ?_
          rintro e w' ⟨he, t⟩
          rw [← hnx] at t
          exact ⟨he, STurn.trans f1 s1 (STurn.trans (fr_below b1) (fun _ _ h => h) t)⟩
        clear hP hnx v1 f1 s1
        go_wp2_with (first
          | (go_at_call 215; refine hF.mono ?_; rintro e w1 ⟨rfl, b1⟩)
          | (go_at_call 216; refine (hR _ (Below.alloc b1 b1.size _)).mono ?_; rintro e w2 ⟨rfl, t2⟩))
        go_roundg (64 - (i + 1))
        case measure => omega
        case rel => exact ⟨i + 1, by omega, by go_num, t2⟩
      | false =>
        rw [hP] at hF
        have hd : delP (unTo P 0 i) (i : Int) = unTo P 0 i := by
          funext z; unfold delP; split
          · rename_i e; rw [e]; cases e' : unTo P 0 i (i : Int) with
            | none => rfl
            | some p => rw [e'] at hP; cases hP
          · rfl
        have ht : ∀ w1, Below wr.heap.size wr w1 → STurn E w c gc A w1 D (unTo P 0 (i + 1)) o := fun w1 b1 => by
          rw [hnx, hd]; exact STurn.trans f1 s1 (STurn.below v1 b1)
        clear hP hnx v1 f1 s1 hd
        go_wp2_with (go_at_call 215; refine hF.mono ?_; rintro e w1 ⟨rfl, b1⟩)
        go_roundg (64 - (i + 1))
        case measure => omega
        case rel => exact ⟨i + 1, by omega, by go_num, ht _ (Below.alloc b1 b1.size _)⟩
    · have hik : i = 64 := by omega
      subst hik
      rw [hend] at v1
      go_wp2_with fail
      go_end0
      exact ⟨rfl, A1, v1, f1, s1⟩
end
end Go.Proofs.YtcfhanoekniaaaaGreatDoor

namespace Go.Proofs.YtcfhanoekniaaaaGreatDoor
open Go.RowKit Go.Shelf Go.Lib Go.Sort Go.Maps

section
variable {E : St} {w w' : World} {c gc : Nat} {D : Nat → Nat → Int} {A : Nat → Prop} {P : PM} {o : Int → Nat}

/-- How many frames pages have. -/
def used (t : Int → Nat) (n : Nat) : Nat := num (Rof t) n

theorem num_lt {R : Int → Option Nat} {n k : Nat} (hk : k < n) (h : R (k : Int) = none) : num R n < n := by
  have h1 := num_put_new (m := 1) hk h
  have h2 := num_le (putC R (k : Int) 1) n
  omega

/-- A store whose words turned, nothing else. -/
theorem Vs.words {R : Int → Option Nat} (h : Vs E w D R A) {D' : Nat → Nat → Int} (hg : w.grownBy w' (some E.sm)) (m : Mem w' E.bm E.sm E.n D') : Vs E w' D' R A := by
  have hk : ∀ i, i < w.heap.size → i ≠ E.sm → w'.heap[i]? = w.heap[i]? := fun i hi hn => hg.block i hi (fun e => hn (Option.some.inj e))
  obtain ⟨U, T, a, s⟩ := h.pool
  exact ⟨(hk _ h.blt h.nbs).trans h.head, m, ⟨U, T, a.keep' (fun i hi => hk i (a.lt' hi) (fun e => h.offs (e ▸ hi))), s⟩, h.map.keep (hk _ h.glt (fun e => h.nsg e.symm)), h.small, h.offb, h.offm, h.offs, h.offg, h.nbs, h.nbg, h.nmg, h.nsg, h.n1⟩
theorem VS.words (h : VS E w c gc D A P o) {D' : Nat → Nat → Int} (hg : w.grownBy w' (some E.sm)) (m : Mem w' E.bm E.sm E.n D') : VS E w' c gc D' A P o := by
  have hk : ∀ i, i < w.heap.size → i ≠ E.sm → w'.heap[i]? = w.heap[i]? := fun i hi hn => hg.block i hi (fun e => hn (Option.some.inj e))
  exact ⟨h.st.words hg m, h.sp.keep (hk c h.sp.lt (fun e => h.offc (.inr (.inl e)))) (hk gc h.sp.glt (fun e => h.offg (.inr (.inl e)))), h.ok, h.dis, h.offc, h.offg, h.gb, h.gm⟩

/-- A page has a frame of its own, and a word of it is written. -/
theorem VS.stored (h : VS E w c gc D A P o) {a x y : Int} (hP : P a = some (x, y)) {k : Nat} (hk : k < E.n) (hk0 : sh P (k : Int) + o (k : Int) = 0) {i0 : Nat} (hi : ¬ vown E A i0) (hic : i0 ≠ c) (_hig : i0 ≠ gc) (hib : i0 ≠ E.b) (him : i0 ≠ E.bm) (hil : i0 < w.heap.size)
    {w2 w3 w4 w5 : World} {A2 : Nat → Prop} {D2 D5 : Nat → Nat → Int} (v2 : Vs E w2 D2 (putC (dropR (Rof fun f => sh P f + o f) y) (k : Int) 1) A2) (f2 : Fr (vown E A) w w2) (s2 : ∀ i, i < w.heap.size → A2 i → A i)
    (f3 : Fr (· = i0) w2 w3) (g4 : w3.grownBy w4 (some gc)) (pm4 : PMap w4 gc (if (pgv P a).isSome then lenP P else lenP P + 1) (pgv (putP P a (x, (k : Int)))))
    (g5 : w4.grownBy w5 (some E.sm)) (m5 : Mem w5 E.bm E.sm E.n D5) :
    ∃ A', VS E w5 c gc D5 A' (putP P a (x, (k : Int))) o ∧ Fr (fun i => (vown E A i ∨ i = gc) ∨ i = i0) w w5 ∧ ∀ i, i < w.heap.size → A' i → A i := by
  have hsome : (P a).isSome = true := by rw [hP]; rfl
  have hka := h.ok.key a hsome
  have hpr := h.ok.prot a _ hP
  have hfr : frm P a = y := frm_some hP
  have hown2 : ∀ i, i < w.heap.size → vown E A2 i → vown E A i := fun i hi ho => by
    rcases ho with ho | ho
    · exact .inl (s2 i hi ho)
    · exact .inr ho
  have l2 : ∀ i, i < w.heap.size → i < w2.heap.size := fun i hi => Nat.lt_of_lt_of_le hi f2.size
  have l3 : ∀ i, i < w2.heap.size → i < w3.heap.size := fun i hi => Nat.lt_of_lt_of_le hi f3.size
  have k4 : ∀ i, i < w2.heap.size → i ≠ i0 → i ≠ gc → w4.heap[i]? = w2.heap[i]? := fun i hi h1 h2 => (g4.block i (l3 i hi) (fun e => h2 (Option.some.inj e))).trans (f3.block i hi h1)
  have hR : putC (dropR (Rof fun f => sh P f + o f) y) (k : Int) 1 = Rof fun f => sh (putP P a (x, (k : Int))) f + o f := by
    refine v2.rof (fun z hz => ?_)
    have hs := sh_put (P := P) hka.1 hka.2 (x, (k : Int)) z
    simp only at hs
    rw [val_put]
    by_cases e : z = (k : Int)
    · subst e
      rw [if_pos rfl]
      have : ¬ frm P a = (k : Int) := sh_none (by omega) h.ok (by omega) a
      rw [if_neg this, if_pos rfl] at hs
      omega
    · rw [if_neg e, dropR_val]
      have q1 : (if (k : Int) = z then 1 else 0) = 0 := if_neg (fun h => e h.symm)
      rw [q1] at hs
      by_cases e' : z = y
      · rw [if_pos (by rw [hfr, e'])] at hs
        rw [if_pos e', Rof_val (by rw [← e']; exact hz), ← e']; omega
      · rw [if_neg (by rw [hfr]; exact fun h => e' h.symm)] at hs
        rw [if_neg e', Rof_val hz]; omega
  rw [hR] at v2
  have v4 : Vs E w4 D2 (Rof fun f => sh (putP P a (x, (k : Int))) f + o f) A2 := by
    refine v2.keep (fun i hi' => k4 i (v2.olt hi') (fun e => hi (hown2 i0 hil (e ▸ hi'))) (fun e => h.offg (hown2 gc h.sp.glt (e ▸ hi')))) (k4 _ v2.blt (fun e => hib e.symm) (fun e => h.gb e.symm)) (k4 _ v2.mlt (fun e => him e.symm) (fun e => h.gm e.symm))
  have hgc4 : gc ≠ E.sm := fun e => h.offg (.inr (.inl e))
  have sp4 : Sp w4 c E.b gc (putP P a (x, (k : Int))) := by
    refine ⟨((k4 c (l2 c h.sp.lt) (fun e => hic e.symm) h.sp.ne).trans (f2.block c h.sp.lt h.offc)).trans h.sp.head, ?_⟩
    rw [lenP_put_old hsome]
    rw [pgv_isSome, if_pos hsome] at pm4
    exact pm4
  have V4 : VS E w4 c gc D2 A2 (putP P a (x, (k : Int))) o :=
    ⟨v4, sp4, h.ok.put hka.1 hka.2 hpr (.inr ⟨by show (0 : Int) ≤ (k : Int); omega, by show (k : Int) < (E.n : Int); omega⟩), h.dis.put hka.1 hka.2 (.inr (.inl (by show sh P (k : Int) = 0; omega))), fun ho => h.offc (hown2 c h.sp.lt ho), fun ho => h.offg (hown2 gc h.sp.glt ho), h.gb, h.gm⟩
  refine ⟨A2, V4.words g5 m5, ?_, s2⟩
  exact (((f2.mono (fun i _ h => .inl (.inl h))).trans f3 (fun i _ e => .inr e)).trans (Fr.grown g4) (fun i _ e => .inl (.inr e))).trans (Fr.grown g5) (fun i _ e => .inl (.inl (.inr (.inl e))))

/-- What Store answers, and makes. -/
def StR (n : Nat) (P : PM) (o : Int → Nat) (D : Nat → Nat → Int) (a k v : Int) (er : Int) (P' : PM) (D' : Nat → Nat → Int) : Prop :=
  (useE P a k 2 ≠ 0 ∧ er = useE P a k 2 ∧ P' = P ∧ D' = D) ∨
  (useE P a k 2 = 0 ∧ frm P a ≠ -1 ∧ sh P (frm P a) + o (frm P a) = 1 ∧ er = 0 ∧ P' = P ∧ D' = upd D (frm P a).toNat k.toNat v) ∨
  (useE P a k 2 = 0 ∧ (frm P a = -1 ∨ 1 < sh P (frm P a) + o (frm P a)) ∧ used (fun f => sh P f + o f) n = n ∧ er = 12 ∧ P' = P ∧ D' = D) ∨
  (useE P a k 2 = 0 ∧ (frm P a = -1 ∨ 1 < sh P (frm P a) + o (frm P a)) ∧ ∃ f : Nat, f < n ∧ sh P (f : Int) + o (f : Int) = 0 ∧ er = 0 ∧ P' = putP P a ((pg P a).1, (f : Int)) ∧ D' = upd (row D f (firstW D (frm P a))) f k.toNat v)

set_option maxRecDepth 100000 in
set_option maxHeartbeats 8000000 in
theorem VS.store_ok (h : VS E w c gc D A P o) (a k v : Int) (ha : (Lit.int .i64 a).wf = true) :
    Calls Tryz.prog 121 #[vp c, .int .i64 a, .int .i64 k, .int .i64 v] w fun e w' => ∃ er P' D', StR E.n P o D a k v er P' D' ∧ e = .returned (errV er) ∧ STurn E w c gc A w' D' P' o := by
  have hU := usable_ok h.sp h.ok a k 2 ha (.inr rfl)
  go_enter Tryz.func121, Tryz.ntmps121
  go_wp2_with fail
  refine hU.mono ?_
  rintro e w1 ⟨x, y, rfl, hxy, b1⟩
  clear hU
  have bA : Below w.heap.size w (w1.alloc (.cells #[.int .i64 x, .int .i64 y] 315)) := b1.alloc b1.size _
  by_cases hz : useE P a k 2 = 0
  · have hP := hxy hz
    have hf : frm P a = y := frm_some hP
    have hk : 0 ≤ k ∧ k < 8 := by
      apply Classical.byContradiction; intro hk
      unfold useE at hz; rw [hP] at hz; simp only [if_neg hk] at hz; omega
    have hev : errV (useE P a k 2) = .nilIface := by rw [hz]; rfl
    rw [hev]
    have hpgx : (pg P a).1 = x := by unfold pg; rw [hP]; rfl
    have h1 := h.below bA
    have hn1 := heap_new w1 (.cells #[.int .i64 x, .int .i64 y] 315)
    obtain ⟨W, hW⟩ : ∃ W, w1.alloc (.cells #[.int .i64 x, .int .i64 y] 315) = W := ⟨_, rfl⟩
    obtain ⟨i0, hi0⟩ : ∃ i0, w1.heap.size = i0 := ⟨_, rfl⟩
    have hW0 : w.heap.size ≤ i0 := by rw [← hi0]; exact b1.size
    rw [hW] at bA h1 hn1
    rw [hi0] at hn1
    have hil : i0 < W.heap.size := lt_of_heap hn1
    obtain ⟨p0, p1, pf0, pf1⟩ := page_cells hn1
    have c0 := h1.sp.c0
    have c1 := h1.sp.c1
    have d0 := h1.st.c0
    have hwt : ∀ {V : World} {P' : PM} {D' : Nat → Nat → Int}, STurn E W c gc A V D' P' o → STurn E w c gc A V D' P' o := fun t => STurn.trans (fr_below bA) (fun _ _ h => h) t
    have hval : y ≠ -1 → val (Rof fun f => sh P f + o f) y = sh P y + o y := fun hy => Rof_val (by rcases h.ok.frame a with e | e <;> rw [hf] at e <;> omega)
    have hpos : y ≠ -1 → 1 ≤ sh P y + o y := fun hy => by
      have := sh_pos (a := a) h.ok (by rw [hf]; exact hy)
      rw [hf] at this; omega
    have hyw : (Lit.int .i64 y).wf = true := by
      rcases h.ok.frame a with e | e <;> rw [hf] at e
      · subst e; kernel_rfl
      · have := h.st.n256; exact wf_small (by omega) (by omega)
    by_cases hown : y ≠ -1 ∧ sh P y + o y = 1
    · have hIs : ∀ q, Calls Tryz.prog 221 #[vp E.b, .int .i64 y] (W.drewN q) fun e w' => e = .returned (.bool true) ∧ ∃ q', w' = (W.drewN q).drewN q' := fun q => by
        refine ((h1.drewN q).st.isOwn y hyw).mono ?_
        rintro e w' ⟨he, hw⟩
        rw [hval hown.1, hown.2] at he
        exact ⟨he, 0, hw⟩
      have hfr : 0 ≤ y ∧ y < (E.n : Int) := by rcases h.ok.frame a with e | e <;> rw [hf] at e <;> omega
      have hSet : ∀ q, Calls Tryz.prog 223 #[mp E.bm, .int .i64 y, .int .i64 k, .int .i64 v] (W.drewN q) fun e w' => e = .returned .nilIface ∧ STurn E w c gc A w' (upd D y.toNat k.toNat v) P o := fun q => by
        have hq := h1.drewN q
        refine (setF_ok hq.st.mem y k v hfr.1 hfr.2 hk.1 hk.2).mono ?_
        rintro e w' ⟨he, m', _, g'⟩
        refine ⟨he, hwt ⟨A, hq.words g' m', (Fr.drewN _ W q).trans (Fr.grown g') (fun i _ e => .inl (.inr (.inl e))), fun _ _ h => h⟩⟩
      have HR : Hid (StR E.n P o D a k v 0 P (upd D y.toNat k.toNat v)) := hide (.inr (.inl ⟨hz, by rw [hf]; exact hown.1, by rw [hf]; exact hown.2, rfl, rfl, by rw [hf]⟩))
      clear h1 hxy hz hP hf hval hpos hown hwt h hn1 hev
      go_upto_region 4 with fail
      go_quiet (first | (go_at_call 221; exact Calls.quiet_of (hIs _)))
      go_wp2_with fail
      go_region_with (go_at_call 223; refine (hSet _).mono ?_; rintro e w5 ⟨rfl, t5⟩)
      all_goals
        go_wp2_with fail
        go_ret
        exact ⟨_, _, _, HR.out, rfl, t5⟩
    · have hnot : y = -1 ∨ 1 < sh P y + o y := by
        by_cases hy : y = -1
        · exact .inl hy
        · have := hpos hy
          exact .inr (by have : ¬ sh P y + o y = 1 := fun e => hown ⟨hy, e⟩; omega)
      have hIs : ∀ q, Calls Tryz.prog 221 #[vp E.b, .int .i64 y] (W.drewN q) fun e w' => e = .returned (.bool false) ∧ ∃ q', w' = (W.drewN q).drewN q' := fun q => by
        refine ((h1.drewN q).st.isOwn y hyw).mono ?_
        rintro e w' ⟨he, hw⟩
        have hne : ¬ val (Rof fun f => sh P f + o f) y = 1 := by
          by_cases hy : y = -1
          · rw [hy, val, h.st.neg (by omega)]; simp
          · rw [hval hy]; exact fun e => hown ⟨hy, e⟩
        rw [decide_eq_false hne] at he
        exact ⟨he, 0, hw⟩
      have hnR : y = -1 ∨ 1 < val (Rof fun f => sh P f + o f) y := by
        rcases hnot with e | e
        · exact .inl e
        · by_cases hy : y = -1
          · exact .inl hy
          · exact .inr (by rw [hval hy]; exact e)
      have hnot' : frm P a = -1 ∨ 1 < sh P (frm P a) + o (frm P a) := by rw [hf]; exact hnot
      by_cases hfull : used (fun f => sh P f + o f) E.n = E.n
      · have hOwn : ∀ q, Calls Tryz.prog 222 #[vp E.b, .int .i64 y] (W.drewN q) fun e w' => e = .returned (.tuple #[.int .i64 (-1), enr 12]) ∧ ∃ q', w' = (W.drewN q).drewN q' := fun q => by
          refine ((h1.drewN q).st.own_ok y hnR).mono ?_
          rintro e w' (⟨_, he, hw⟩ | ⟨f, hf1, hf2, _⟩)
          · exact ⟨he, 0, hw⟩
          · have := num_lt hf1 hf2
            unfold used at hfull; omega
        have HR : Hid (StR E.n P o D a k v 12 P D) := hide (.inr (.inr (.inl ⟨hz, hnot', hfull, rfl, rfl, rfl⟩)))
        have ht : ∀ q u, STurn E w c gc A ((W.drewN q).setCell ⟨i0, 1, none⟩ u) D P o := fun q u => by
          refine STurn.below h (Below.setCell (p := ⟨i0, 1, none⟩) ?_ hW0 u)
          exact ⟨bA.os, bA.tape, bA.output, bA.size, bA.block⟩
        clear h1 hxy hz hP hf hval hpos hown hwt h hn1 hev hnot hnR hnot' hfull
        go_upto_region 4 with fail
        go_quiet (first | (go_at_call 221; exact Calls.quiet_of (hIs _)))
        go_wp2_with fail
        go_region_with (go_at_call 222; refine (hOwn _).mono ?_; rintro e w2 ⟨rfl, q2, rfl⟩)
        all_goals
          go_wp2_with fail
          go_ret
          exact ⟨_, _, _, HR.out, rfl, ht _ _⟩
      · have hic : i0 ≠ c := fun e => by have := h.sp.lt; omega
        have hig : i0 ≠ gc := fun e => by have := h.sp.glt; omega
        have hib : i0 ≠ E.b := fun e => by have := h.st.blt; omega
        have him : i0 ≠ E.bm := fun e => by have := h.st.mlt; omega
        have hio : ¬ vown E A i0 := fun ho => by have := h.st.olt ho; omega
        have hOwn : ∀ q, Calls Tryz.prog 222 #[vp E.b, .int .i64 y] (W.drewN q) fun e w2 => ∃ f : Nat, e = .returned (.tuple #[.int .i64 (f : Int), .nilIface]) ∧ f < E.n ∧ sh P (f : Int) + o (f : Int) = 0 ∧
            (∃ A2, Vs E w2 (row D f (firstW D y)) (putC (dropR (Rof fun f => sh P f + o f) y) (f : Int) 1) A2 ∧ Fr (vown E A) W w2 ∧ (∀ i, i < W.heap.size → A2 i → A i)) ∧
            w2.cell? ⟨c, 0, none⟩ = some (vp E.b) ∧ w2.cell? ⟨c, 1, none⟩ = some (.map (some gc)) ∧ w2.cell? ⟨E.b, 0, none⟩ = some (mp E.bm) ∧ w2.heap[i0]? = some (.cells #[.int .i64 x, .int .i64 y] 315) ∧ PMap w2 gc (lenP P) (pgv P) := fun q => by
          refine ((h1.drewN q).st.own_ok y hnR).mono ?_
          rintro e w2 (⟨hn, _⟩ | ⟨f, hf1, hf2, he, A2, v2, f2, s2⟩)
          · exact absurd hn hfull
          · have f2' : Fr (vown E A) W w2 := (Fr.drewN _ W q).trans f2 (fun _ _ h => h)
            refine ⟨f, he, hf1, (Rof_none (t := fun f => sh P f + o f) (by omega)).1 hf2, ⟨A2, v2, f2', s2⟩, ?_, ?_, ?_, (f2'.block i0 hil hio).trans hn1, h1.sp.map.keep (f2'.block gc h1.sp.glt h1.offg)⟩
            · rw [World.cell?_of_block (w := W) (a := ⟨c, 0, none⟩) (f2'.block c h1.sp.lt h1.offc)]; exact c0
            · rw [World.cell?_of_block (w := W) (a := ⟨c, 1, none⟩) (f2'.block c h1.sp.lt h1.offc)]; exact c1
            · rw [World.cell?_of_block (w := W) (a := ⟨E.b, 0, none⟩) (f2'.block E.b h1.st.blt h1.st.bno)]; exact d0
        have HR : Hid (∀ f : Nat, f < E.n → sh P (f : Int) + o (f : Int) = 0 → StR E.n P o D a k v 0 (putP P a (x, (f : Int))) (upd (row D f (firstW D y)) f k.toNat v)) := hide (fun f hf1 hf2 => .inr (.inr (.inr ⟨hz, hnot', f, hf1, hf2, rfl, by rw [hpgx], by rw [hf]⟩)))
        have hfin := fun (f : Nat) (hf1 : f < E.n) (hf2 : sh P (f : Int) + o (f : Int) = 0) (w2 w3 w4 w5 : World) A2 (v2 : Vs E w2 (row D f (firstW D y)) _ A2) f2 s2 f3 g4 pm4 g5 (m5 : Mem w5 E.bm E.sm E.n (upd (row D f (firstW D y)) f k.toNat v)) => h1.stored hP hf1 hf2 hio hic hig hib him hil (w2 := w2) (w3 := w3) (w4 := w4) (w5 := w5) (A2 := A2) v2 f2 s2 f3 g4 pm4 g5 m5
        have hfin2 : ∀ (f : Nat) (w5 : World), (∃ A', VS E w5 c gc (upd (row D f (firstW D y)) f k.toNat v) A' (putP P a (x, (f : Int))) o ∧ Fr (fun i => (vown E A i ∨ i = gc) ∨ i = i0) W w5 ∧ ∀ i, i < W.heap.size → A' i → A i) → STurn E w c gc A w5 (upd (row D f (firstW D y)) f k.toNat v) (putP P a (x, (f : Int))) o := fun f w5 ⟨A', v', f', s'⟩ => by
          have fA : Fr (fun i => vown E A i ∨ i = gc) w W := fr_below bA
          exact ⟨A', v', fA.trans f' (fun i hi ho => by rcases ho with ho | ho; exact ho; omega) |> fun z => z, fun i hi ha => s' i (Nat.lt_of_lt_of_le hi bA.size) ha⟩
        have hcg : c ≠ gc := h.sp.ne
        have hgb := h.gb
        have hgm := h.gm
        have his : E.sm ≠ i0 := fun e => hio (.inr (.inl e.symm))
        have hsg : E.sm ≠ gc := fun e => h.offg (.inr (.inl e.symm))
        have hsz : lenP P < maxLen := by have := lenP_le P; unfold maxLen; omega
        clear h1 hxy hz hP hf hval hpos hown hwt h hev hnot hnR hnot' hfull hpgx
        go_upto_region 4 with fail
        go_quiet (first | (go_at_call 221; exact Calls.quiet_of (hIs _)))
        go_wp2_with fail
        go_region_with (go_at_call 222; refine (hOwn _).mono ?_; rintro e w2 ⟨f, rfl, hf1, hf2, ⟨A2, v2, f2, s2⟩, cc0, cc1, dd0, hblk, pm2⟩; obtain ⟨pp0, pp1, ppf0, ppf1⟩ := page_cells hblk)
        all_goals
          have hblk3 := heap_setCell_same w2 i0 1 (.int .i64 (f : Int)) _ _ _ hblk
          have f3 : Fr (· = i0) w2 (w2.setCell ⟨i0, 1, none⟩ (.int .i64 (f : Int))) := (Fr.refl _ _).setCell i0 1 _ (fun _ => rfl)
          obtain ⟨W3, hW3⟩ : ∃ W3, w2.setCell ⟨i0, 1, none⟩ (.int .i64 (f : Int)) = W3 := ⟨_, rfl⟩
          rw [hW3] at hblk3 f3 ⊢
          replace hblk3 : W3.heap[i0]? = some (.cells #[.int .i64 x, .int .i64 (f : Int)] 315) := hblk3
          obtain ⟨q0, q1, _, _⟩ := page_cells hblk3
          have lc : c < w2.heap.size := World.block_lt_of_cell? w2 _ cc0
          have lb : E.b < w2.heap.size := World.block_lt_of_cell? w2 _ dd0
          have c0' : W3.cell? ⟨c, 0, none⟩ = some (vp E.b) := by rw [World.cell?_of_block (w := w2) (a := ⟨c, 0, none⟩) (f3.block c lc (fun e => hic e.symm))]; exact cc0
          have c1' : W3.cell? ⟨c, 1, none⟩ = some (.map (some gc)) := by rw [World.cell?_of_block (w := w2) (a := ⟨c, 1, none⟩) (f3.block c lc (fun e => hic e.symm))]; exact cc1
          have d0' : W3.cell? ⟨E.b, 0, none⟩ = some (mp E.bm) := by rw [World.cell?_of_block (w := w2) (a := ⟨E.b, 0, none⟩) (f3.block E.b lb (fun e => hib e.symm))]; exact dd0
          have pm3 := pm2.keep (f3.block gc pm2.lt (fun e => hig e.symm))
          obtain ⟨w4, hrun, pm4, g4⟩ := (pm3.keep (w' := W3.drew) rfl).put Tryz.underlying319 hsz a ha (.agg #[.int .i64 x, .int .i64 (f : Int)])
          rw [pgv_put] at pm4
          have g4' : W3.grownBy w4 (some gc) := ⟨g4.os, g4.tape, g4.output, g4.size, g4.block⟩
          have c0'' := g4'.cell c0' (fun e => hcg (Option.some.inj e))
          have d0'' := g4'.cell d0' (fun e => hgb (Option.some.inj e).symm)
          have q1'' := g4'.cell q1 (fun e => hig (Option.some.inj e))
          have k4 : ∀ i, i < w2.heap.size → i ≠ i0 → i ≠ gc → w4.heap[i]? = w2.heap[i]? := fun i hi h1 h2 => (g4'.block i (Nat.lt_of_lt_of_le hi f3.size) (fun e => h2 (Option.some.inj e))).trans (f3.block i hi h1)
          have m4 := v2.mem.keep (k4 _ v2.mlt (fun e => him e.symm) (fun e => hgm e.symm)) (k4 _ v2.slt his hsg)
          have hSet : ∀ q, Calls Tryz.prog 223 #[mp E.bm, .int .i64 (f : Int), .int .i64 k, .int .i64 v] (w4.drewN q) fun e w' => e = .returned .nilIface ∧ STurn E w c gc A w' (upd (row D f (firstW D y)) f k.toNat v) (putP P a (x, (f : Int))) o := fun q => by
            refine (setF_ok (m4.keep (w' := w4.drewN q) rfl rfl) (f : Int) k v (by omega) (by omega) hk.1 hk.2).mono ?_
            rintro e w5 ⟨he, m5, _, g5⟩
            have g5' : w4.grownBy w5 (some E.sm) := ⟨g5.os, g5.tape, g5.output, g5.size, g5.block⟩
            exact ⟨he, hfin2 f w5 (hfin f hf1 hf2 w2 W3 w4 w5 A2 v2 f2 s2 f3 g4' pm4 g5' (by simpa using m5))⟩
          have HF : Hid (StR E.n P o D a k v 0 (putP P a (x, (f : Int))) (upd (row D f (firstW D y)) f k.toNat v)) := hide (HR.out f hf1 hf2)
          clear hfin hfin2 HR v2 f2 s2 m4 k4 pm4 pm3 pm2 f3 g4 hblk hblk3 hW3 cc0 cc1 dd0 pp0 pp1 ppf0 ppf1 hOwn hIs c0 c1 d0 p0 p1 pf0 pf1
          go_wp2_with fail
          go_region
          go_wp2_with fail
          go_region_with (go_at_call 223; refine (hSet _).mono ?_; rintro e w5 ⟨rfl, t5⟩)
          all_goals
            go_wp2_with fail
            go_ret
            exact ⟨_, _, _, HF.out, rfl, t5⟩
  · have hev : errV (useE P a k 2) = enr (useE P a k 2) := by unfold errV; rw [if_neg hz]
    rw [hev]
    have HE := hide hev
    have HZ := hide hz
    have ht := STurn.below h bA
    clear hxy hz h hev
    go_wp2_with fail
    go_ret
    exact ⟨_, _, _, .inl ⟨HZ.out, rfl, rfl, rfl⟩, by rw [HE.out]; rfl, ht⟩
end
end Go.Proofs.YtcfhanoekniaaaaGreatDoor

namespace Go.Proofs.YtcfhanoekniaaaaGreatDoor
open Go.RowKit Go.Shelf Go.Lib Go.Sort Go.Maps

theorem sole_rof : Sole (Rof fun _ => 0) (fun _ => none) := fun x => by
  unfold Rof; rw [if_neg (fun h => h.2 rfl)]; rfl
theorem num_rof (n : Nat) : num (Rof fun _ => 0) n = 0 := sumTo_zero _ _ (fun i _ _ => by simp [Rof])

set_option maxRecDepth 100000 in
set_option maxHeartbeats 2000000 in
theorem newStore_ok2 (w : World) (n : Nat) (h1 : 1 ≤ n) (h2 : n ≤ 256) : Calls Tryz.prog 46 #[.int .i64 (n : Int)] w fun e w' => ∃ b, e = .returned (.tuple #[vp b, .nilIface]) ∧ ∃ E A, E.b = b ∧ E.n = n ∧ Vs E w' (fun _ _ => 0) (Rof fun _ => 0) A ∧ Below w.heap.size w w' ∧ (∀ i, i < w.heap.size → ¬ vown E A i) ∧ w.heap.size ≤ b ∧ w.heap.size ≤ E.bm := by
  have hmm := @run_makeMap Tryz.prog
  go_enter Tryz.func46, Tryz.ntmps46
  go_wp2_with fail
  refine (newF_ok w n (by omega) (by omega)).mono ?_
  rintro e w1 ⟨bm, rfl, sm, m1, ls, lb, b1⟩
  rw [Int.toNat_natCast] at m1
  go_wp2_with fail
  refine (pool_ok w1 n h1 h2).mono ?_
  rintro e w2 ⟨bp, rfl, A, a2, f2, o2⟩
  have b2 : Below w1.heap.size w1 w2 := ⟨f2.os, f2.tape, f2.output, f2.size, fun i hi => f2.block i hi (fun h => h)⟩
  have hfin : ∀ W : World, Below w2.heap.size w2 W → W.heap[w2.heap.size]? = some (.map #[] 0) → W.heap[w2.heap.size + 1]? = some (.cells #[mp bm, pp bp, .map (some w2.heap.size)] 201) →
      ∃ E A, E.b = w2.heap.size + 1 ∧ E.n = n ∧ Vs E W (fun _ _ => 0) (Rof fun _ => 0) A ∧ Below w.heap.size w W ∧ (∀ i, i < w.heap.size → ¬ vown E A i) ∧ w.heap.size ≤ w2.heap.size + 1 ∧ w.heap.size ≤ E.bm := by
    intro W hB hm hs
    have s1 := b1.size
    have s2 := b2.size
    have lbm := m1.lt_b
    have lsm := m1.lt_s (by omega)
    have hA : ∀ i, A i → i < w2.heap.size ∧ w1.heap.size ≤ i := fun i hi => ⟨a2.lt' hi, by
      apply Classical.byContradiction; intro hn; exact o2 i (by omega) hi⟩
    refine ⟨⟨w2.heap.size + 1, bm, sm, bp, w2.heap.size, n⟩, A, rfl, rfl, ⟨hs, m1.keep ((hB.block bm (by omega)).trans (b2.block bm lbm)) ((hB.block sm (by omega)).trans (b2.block sm lsm)), ⟨_, _, (a2.more' (by omega : 0 ≤ 256)).keep' (fun i hi => hB.block i (hA i hi).1), sole_rof⟩, ?_, fun x k hx => ?_, fun ha => ?_, fun ha => ?_, fun ha => ?_, fun ha => ?_, ?_, ?_, ?_, ?_, h1⟩, (b1.trans (b2.mono s1)).trans (hB.mono (by omega)), fun i hi ho => ?_, by omega, lb⟩
    · show PMap W w2.heap.size (num (Rof fun _ => 0) n) (tm (Rof fun _ => 0))
      rw [num_rof]
      have e0 : tm (Rof fun _ => 0) = fun _ => none := by funext x; unfold tm Rof; rw [if_neg (fun h => h.2 rfl)]; rfl
      rw [e0]
      have := PMap.made w2
      refine this.keep (hm.trans ?_)
      exact (heap_new w2 _).symm
    · unfold Rof at hx; rw [if_neg (fun h => h.2 rfl)] at hx; cases hx
    · have := (hA _ ha).1; simp only at this; omega
    · have := (hA _ ha).2; simp only at this; omega
    · have := (hA _ ha).2; simp only at this; omega
    · have := (hA _ ha).1; simp only at this; omega
    · simp only; omega
    · simp only; omega
    · simp only; omega
    · simp only; omega
    · rcases ho with ho | ho | ho
      · have := (hA i ho).2; omega
      · simp only at ho; omega
      · simp only at ho; omega
  clear m1 a2 f2 o2 b1 b2
  go_wp2_with fail
  go_ret2
  refine ⟨w2.heap.size + 1, by simp, hfin _ ?_ ?_ ?_⟩
  · exact ((Below.refl _ w2).alloc (Nat.le_refl _) _).alloc (by simp) _
  · show ((w2.heap.push _).push _)[w2.heap.size]? = _
    rw [Array.getElem?_push, if_neg (by simp), Array.getElem?_push, if_pos rfl]
  · show ((w2.heap.push _).push _)[w2.heap.size + 1]? = _
    rw [Array.getElem?_push, if_pos (by simp)]

set_option maxHeartbeats 1000000 in
theorem newSpace_ok {E : St} {w : World} {D : Nat → Nat → Int} {A : Nat → Prop} {o : Int → Nat} (h : Vs E w D (Rof o) A) : Calls Tryz.prog 133 #[vp E.b] w fun e w' => ∃ c, e = .returned (.tuple #[vp c, .nilIface]) ∧ ∃ gc, VS E w' c gc D A (fun _ => none) o ∧ Below w.heap.size w w' ∧ w.heap.size ≤ c ∧ w.heap.size ≤ gc := by
  have hmm := @run_makeMap Tryz.prog
  have hfin : ∀ W : World, Below w.heap.size w W → W.heap[w.heap.size]? = some (.map #[] 0) → W.heap[w.heap.size + 1]? = some (.cells #[vp E.b, .map (some w.heap.size)] 321) → VS E W (w.heap.size + 1) w.heap.size D A (fun _ => none) o := by
    intro W hB hm hs
    have e1 : Rof (fun f => sh (fun _ => none) f + o f) = Rof o := Rof_congr (fun x hx => by rw [sh_empty hx]; omega)
    refine ⟨by rw [e1]; exact h.below hB, ⟨hs, ?_⟩, PgOk.none _, Dis.none, fun ho => ?_, fun ho => ?_, fun e => ?_, fun e => ?_⟩
    · rw [lenP_none]
      have e0 : pgv (fun _ => none) = fun _ => none := rfl
      rw [e0]
      exact (PMap.made w).keep (hm.trans (heap_new w _).symm)
    · have := h.olt ho; omega
    · have := h.olt ho; omega
    · have := h.blt; omega
    · have := h.mlt; omega
  clear h
  go_enter Tryz.func133, Tryz.ntmps133
  go_wp2_with fail
  go_ret2
  have hB : Below w.heap.size w ((w.alloc (.map #[] 0)).alloc (.cells #[vp E.b, .map (some w.heap.size)] 321)) := ((Below.refl _ w).alloc (Nat.le_refl _) _).alloc (by simp) _
  refine ⟨w.heap.size + 1, by simp, w.heap.size, hfin _ hB ?_ ?_, hB, by omega, by omega⟩
  · show ((w.heap.push _).push _)[w.heap.size]? = _
    rw [Array.getElem?_push, if_neg (by simp), Array.getElem?_push, if_pos rfl]
  · show ((w.heap.push _).push _)[w.heap.size + 1]? = _
    rw [Array.getElem?_push, if_pos (by simp)]
end Go.Proofs.YtcfhanoekniaaaaGreatDoor
