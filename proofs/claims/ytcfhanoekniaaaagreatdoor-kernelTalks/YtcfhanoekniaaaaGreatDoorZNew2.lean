/- A kernel: one more is born: spaces, tables, holdings beside each other. -/
import Derived.Test.YtcfhanoekniaaaaGreatDoorZEnd
namespace Go.Proofs.YtcfhanoekniaaaaGreatDoor
open Go.RowKit Go.Maps

/-- Where things lie, with one more. -/
def KH.add (H : KH) (j s t b : Nat) : KH := { H with hs := fun i => if i = j then b else H.hs i, sp := fun i => if i = j then s else H.sp i, tb := fun i => if i = j then t else H.tb i }
/-- One more birth, nobody's yet. -/
def KS.born (S : KS) (j : Nat) : KS := { S with D := forkD S.D (tsJ S j), Ts := S.Ts ++ [tsJ S j], Ms := S.Ms ++ [msJ S j] }
section
variable {w w' w1 w2 : World} {m : Int} {H : KH} {S : KS} {U : Nat → Nat → Int} {q : Nat} {G : KG} {A : Nat → Prop} {p : Int} {o : Ow}
theorem nx_fork (D : DS) (N : Ns) : (forkD D N).nx = D.nx := by
  unfold forkD
  have : ∀ (l : Ns) (D : DS), (l.foldl (fun D x => if 0 < x.1 then incR D x.1 else D) D).nx = D.nx := fun l => by
    induction l with
    | nil => intro D; rfl
    | cons x r ih =>
      intro D
      rw [List.foldl_cons, ih]
      split <;> rfl
  exact this N D
theorem KM.forked (h : KM w m H S U q G) (hq : q ≤ 90) (ho : S.O p = some o) (hj : o.j < G.L.length) {c' gc' : Nat} (t1 : ATurn G.E w G.Av G.L w1 S.W (G.L ++ [(c', gc', G.L[o.j].2.2)])) (hc' : w.heap.size ≤ c') (hc1 : c' < w1.heap.size) :
    Calls Tryz.prog 140 #[wp H.f, wp (H.tb o.j)] w1 fun y w2 => ∃ t', y = .returned (wp t') ∧ Hd w2 (H.hs o.j) (H.sp o.j) (H.tb o.j) (U o.j) o.m o.adj ∧
      ∃ G', KM (w2.alloc (.cells (hcs c' t' (U o.j) o.m o.adj) 115)) m (H.add S.Ts.length c' t' w2.heap.size) (S.born o.j) U (q + 1) G' ∧ G'.κ w2.heap.size = 5 ∧ (∀ p' o', S.O p' = some o' → H.hs o'.j < w2.heap.size) ∧ Stp w (w2.alloc (.cells (hcs c' t' (U o.j) o.m o.adj) 115)) (fun i => G.κ i ≠ 0) (fun i => G'.κ i ≠ 0) := by
  obtain ⟨Av1, a1, f1, sub1⟩ := t1
  have wt1 : Wt (fun i => G.κ i = 1) w w1 := ⟨f1.os, f1.tape, f1.output, f1.size, fun i hi hn => f1.block i hi (fun ho => hn (h.k1 i ho))⟩
  have k1 := h.kept (X := 1) ⟨by omega, by omega⟩ wt1
  have hjT : o.j < S.Ts.length := by rw [← h.Ll]; exact hj
  have hjb : o.j < G.bs.length := by rw [h.Lb]; exact hjT
  have hfew := h.few
  have hF := (k1.kd (by omega)).fork (by omega) hjb
  rw [h.tb _ hjb] at hF
  refine hF.mono ?_
  rintro y w2 ⟨Ad', rfl, kd2, st2⟩
  have hPj : G.L[o.j].2.2 = msJ S o.j := by
    rw [ms_at (by rw [h.len]; exact hjT)]
    have : S.Ms = G.L.map (fun x => x.2.2) := h.ms.symm
    simp only [this, List.getElem_map]
  have hAd : ∀ i, G.Ad i → i < w.heap.size := fun i hi => h.klt i (by rw [h.k2 i hi]; omega)
  -- what neither turned
  have hb : ∀ i c, G.κ i = c → c ≠ 0 → c ≠ 1 → c ≠ 2 → w2.heap[i]? = w.heap[i]? := fun i c e h0 h1 h2 => by
    have hi : i < w.heap.size := h.klt i (by omega)
    rw [st2.wt.block i (Nat.lt_of_lt_of_le hi f1.size) (fun z => h2 (by rw [← e]; exact h.k2 i z))]
    exact wt1.block i hi (fun z => h1 (by rw [← e]; exact z))
  have hz : ∀ i, G.κ i = 0 → i < w.heap.size → w2.heap[i]? = w.heap[i]? := fun i e hi => by
    rw [st2.wt.block i (Nat.lt_of_lt_of_le hi f1.size) (fun z => by have := h.k2 i z; omega)]
    exact wt1.block i hi (fun z => by omega)
  have hsz : w.heap.size ≤ w2.heap.size := Nat.le_trans f1.size st2.wt.size
  have hd2 : ∀ p' o', S.O p' = some o' → Hd w2 (H.hs o'.j) (H.sp o'.j) (H.tb o'.j) (U o'.j) o'.m o'.adj := fun p' o' ho' => (h.hold p' o' ho').keep (hb _ 5 (h.k5 p' o' ho') (by omega) (by omega) (by omega))
  have a2 : Al G.E w2 S.W Av1 (G.L ++ [(c', gc', G.L[o.j].2.2)]) := by
    have hno : ∀ i, i < w1.heap.size → ¬ G.Ad i → w2.heap[i]? = w1.heap[i]? := fun i hi hn => st2.wt.block i hi hn
    refine a1.keep (fun i hi => hno i (a1.olt hi) (fun z => ?_)) (hno _ a1.st.blt (fun z => ?_)) (hno _ a1.st.mlt (fun z => ?_)) (fun i hi => hno _ (a1.sp i hi).sp.lt (fun z => ?_))
    · have := h.k1 i (sub1 i (hAd i z) hi)
      have := h.k2 i z; omega
    · have := h.k2 _ z; have := h.kE; omega
    · have := h.k2 _ z; have := h.kB; omega
    · by_cases e : i < G.L.length
      · rw [List.getElem_append_left e] at z
        rw [h.sp i e] at z
        have := h.k2 _ z; have := h.ks i (by rw [← h.Ll]; exact e); omega
      · have e2 : i = G.L.length := by simp at hi; omega
        subst e2
        simp only [List.getElem_concat_length] at z
        have := hAd _ z; omega
  let κ' : Nat → Nat := fun i => if i < w.heap.size then G.κ i else if i = c' then 6 else if i = w2.heap.size then 5 else if i < w1.heap.size then 1 else if i < w2.heap.size then 2 else 0
  have ko : ∀ {i c}, c ≠ 0 → G.κ i = c → κ' i = c := fun {i c} hc e => by
    show (if i < w.heap.size then G.κ i else _) = c
    rw [if_pos (h.klt i (by omega))]; exact e
  have kz : ∀ {i}, i < w.heap.size → G.κ i = 0 → κ' i = 0 := fun {i} hi e => by
    show (if i < w.heap.size then G.κ i else _) = 0
    rw [if_pos hi]; exact e
  have hw2 : w1.heap.size ≤ w2.heap.size := st2.wt.size
  have hcne : c' ≠ w2.heap.size := by omega
  have bA : Below w2.heap.size w2 (w2.alloc (.cells (hcs c' w1.heap.size (U o.j) o.m o.adj) 115)) := (Below.refl _ w2).alloc (Nat.le_refl _) _
  have hA3 : (w2.alloc (.cells (hcs c' w1.heap.size (U o.j) o.m o.adj) 115)).heap.size = w2.heap.size + 1 := by show (w2.heap.push _).size = _; rw [Array.size_push]
  obtain ⟨c, qj⟩ := h.qj
  obtain ⟨z, hm⟩ := h.map
  have hlen : S.Ts.length = G.L.length := h.Ll.symm
  have hLc : (G.L ++ [(c', gc', G.L[o.j].2.2)]).length = S.Ts.length + 1 := by simp [hlen]
  have kc' : κ' c' = 6 := by
    show (if c' < w.heap.size then _ else if c' = c' then 6 else _) = 6
    rw [if_neg (by omega), if_pos rfl]
  have kb' : κ' w2.heap.size = 5 := by
    show (if w2.heap.size < w.heap.size then _ else if w2.heap.size = c' then _ else if w2.heap.size = w2.heap.size then 5 else _) = 5
    rw [if_neg (by omega), if_neg (by omega), if_pos rfl]
  have kO : ∀ p' o', S.O p' = some o' → o'.j ≠ S.Ts.length := fun p' o' ho' => by have := h.lt p' o' ho'; omega
  have hsO : ∀ p' o', S.O p' = some o' → (H.add S.Ts.length c' w1.heap.size w2.heap.size).hs o'.j = H.hs o'.j := fun p' o' ho' => if_neg (kO p' o' ho')
  refine ⟨w1.heap.size, rfl, hd2 p o ho, ⟨G.E, Av1, G.L ++ [(c', gc', G.L[o.j].2.2)], G.bs ++ [w1.heap.size], Ad', κ'⟩, ?_, kb', fun p' o' ho' => (hd2 p' o' ho').lt, ?_⟩
  · refine
      { head := (bA.block _ (lt_of_heap ((hb _ 6 h.kk (by omega) (by omega) (by omega)).trans h.head))).trans ((hb _ 6 h.kk (by omega) (by omega) (by omega)).trans h.head)
        eb := h.eb
        en := h.en
        al := a2.below bA
        ms := ?_
        sp := fun x hx => ?_
        kd := ?_
        tb := fun x hx => ?_
        qj := ⟨c, ⟨(qj.toQM.keep (hb _ 6 h.kt (by omega) (by omega) (by omega)) (hb _ 3 h.k3 (by omega) (by omega) (by omega))).below bA, qj.ok, qj.dj⟩⟩
        map := ⟨z, ?_⟩
        hold := fun p' o' ho' => ?_
        hinj := fun p1 o1 p2 o2 e1 e2 e3 => ?_
        len := ?_
        lt := fun p' o' ho' => ?_
        key := h.key
        tab := (h.tab.keep (hz _ h.kd0 h.tab.lt)).keep (bA.block _ (h.tab.keep (hz _ h.kd0 h.tab.lt)).lt)
        nx := ?_
        few := ?_
        k1 := fun i hi => ?_
        k2 := fun i hi => ?_
        k3 := ko (by omega) h.k3
        k4 := ko (by omega) h.k4
        k5 := fun p' o' ho' => ?_
        kk := ko (by omega) h.kk
        kE := ko (by omega) h.kE
        kB := ko (by omega) h.kB
        kt := ko (by omega) h.kt
        ks := fun x hx => ?_
        km := kz h.ml_lt h.km
        ke := kz h.er_lt h.ke
        kd0 := kz h.zero_lt h.kd0
        klt := fun i hi => ?_ }
    · show (G.L ++ [(c', gc', G.L[o.j].2.2)]).map _ = S.Ms ++ [msJ S o.j]
      rw [List.map_append, h.ms, List.map_cons, List.map_nil, hPj]
    · by_cases e : x < G.L.length
      · have : (G.L ++ [(c', gc', G.L[o.j].2.2)])[x] = G.L[x] := List.getElem_append_left e
        simp only [this]
        rw [h.sp x e]
        show _ = if x = S.Ts.length then c' else H.sp x
        rw [if_neg (by omega)]
      · have e2 : x = G.L.length := by simp at hx; omega
        subst e2
        simp only [List.getElem_concat_length]
        show _ = if G.L.length = S.Ts.length then c' else _
        rw [if_pos hlen.symm]
    · have k3 := (kd2.below bA).more (k' := 2 * (q + 1)) (by omega)
      have e : forkD S.D (S.Ts[o.j]'hjT) = (S.born o.j).D := by show _ = forkD S.D (tsJ S o.j); rw [ts_at hjT]
      have e2 : S.Ts ++ [S.Ts[o.j]'hjT] = (S.born o.j).Ts := by show _ = S.Ts ++ [tsJ S o.j]; rw [ts_at hjT]
      rw [← e, ← e2]
      exact k3
    · by_cases e : x < G.bs.length
      · have : (G.bs ++ [w1.heap.size])[x] = G.bs[x] := List.getElem_append_left e
        simp only [this]
        rw [h.tb x e]
        show _ = if x = S.Ts.length then _ else H.tb x
        rw [if_neg (by have := h.Lb; omega)]
      · have e2 : x = G.bs.length := by simp at hx; omega
        subst e2
        simp only [List.getElem_concat_length]
        show _ = if G.bs.length = S.Ts.length then w1.heap.size else _
        rw [if_pos h.Lb]
    · have e : (fun x => (S.O x).map (fun o => wp ((H.add S.Ts.length c' w1.heap.size w2.heap.size).hs o.j))) = fun x => (S.O x).map (fun o => wp (H.hs o.j)) := by
        funext x
        cases hx : S.O x with
        | none => rfl
        | some o' => show some (wp ((H.add S.Ts.length c' w1.heap.size w2.heap.size).hs o'.j)) = some (wp (H.hs o'.j)); rw [hsO x o' hx]
      show PMap _ H.gm z (fun x => (S.O x).map (fun o => wp ((H.add S.Ts.length c' w1.heap.size w2.heap.size).hs o.j)))
      rw [e]
      have h4 := hm.keep (hb _ 4 h.k4 (by omega) (by omega) (by omega))
      exact h4.keep (bA.block _ h4.lt)
    · have e1 := hsO p' o' ho'
      have e2 : (H.add S.Ts.length c' w1.heap.size w2.heap.size).sp o'.j = H.sp o'.j := if_neg (kO p' o' ho')
      have e3 : (H.add S.Ts.length c' w1.heap.size w2.heap.size).tb o'.j = H.tb o'.j := if_neg (kO p' o' ho')
      rw [e1, e2, e3]
      exact (hd2 p' o' ho').below bA
    · rw [hsO p1 o1 e1, hsO p2 o2 e2] at e3
      exact h.hinj p1 o1 p2 o2 e1 e2 e3
    · show (S.Ms ++ [_]).length = (S.Ts ++ [_]).length
      rw [List.length_append, List.length_append, h.len]; rfl
    · show o'.j < (S.Ts ++ [_]).length
      rw [List.length_append]; have := h.lt p' o' ho'; omega
    · show (forkD S.D (tsJ S o.j)).nx ≤ _
      rw [nx_fork]; have := h.nx; omega
    · show (S.Ts ++ [_]).length ≤ _
      rw [List.length_append]; show S.Ts.length + 1 ≤ _; omega
    · have hi' := a1.olt hi
      by_cases e : i < w.heap.size
      · exact ko (by omega) (h.k1 i (sub1 i e hi))
      · have hne : i ≠ c' := fun ec => by
          subst ec
          have hLl : G.L.length < (G.L ++ [(i, gc', G.L[o.j].2.2)]).length := by simp
          have hs := (a1.sp G.L.length hLl)
          have e9 : (G.L ++ [(i, gc', G.L[o.j].2.2)])[G.L.length] = (i, gc', G.L[o.j].2.2) := by simp
          rcases hi with hi | ⟨x, hx, hxe⟩
          · have := hs.offc
            rw [e9] at this
            exact this hi
          · obtain ⟨j9, hj9, rfl⟩ := List.mem_iff_getElem.1 hx
            have h1 := hs.sp.head
            rw [e9] at h1
            obtain ⟨es, cl, hm9⟩ := (a1.sp j9 hj9).sp.map.isMap
            have : w1.heap[i]? = some (.map es cl) := by rw [hxe]; exact hm9
            simp only at h1
            rw [this] at h1; cases h1
        show (if i < w.heap.size then _ else if i = c' then _ else if i = w2.heap.size then _ else if i < w1.heap.size then 1 else _) = 1
        rw [if_neg e, if_neg hne, if_neg (by omega), if_pos hi']
    · have hi' := kd2.lt i hi
      rcases st2.own i hi with z | z
      · exact ko (by omega) (h.k2 i z)
      · show (if i < w.heap.size then _ else if i = c' then _ else if i = w2.heap.size then _ else if i < w1.heap.size then _ else if i < w2.heap.size then 2 else _) = 2
        rw [if_neg (by have := f1.size; omega), if_neg (by omega), if_neg (by omega), if_neg (by omega), if_pos hi']
    · rw [hsO p' o' ho']
      exact ko (by omega) (h.k5 p' o' ho')
    · have hx' : x < S.Ts.length + 1 := by
        have : x < (S.Ts ++ [tsJ S o.j]).length := hx
        simpa using this
      show κ' (if x = S.Ts.length then c' else H.sp x) = 6
      by_cases e : x = S.Ts.length
      · rw [if_pos e]; exact kc'
      · rw [if_neg e]; exact ko (by omega) (h.ks x (by omega))
    · rw [hA3]
      have hi : κ' i ≠ 0 := hi
      by_cases e : i < w.heap.size
      · omega
      · by_cases e1 : i = c'
        · omega
        · by_cases e2 : i = w2.heap.size
          · omega
          · have : κ' i = if i < w1.heap.size then 1 else if i < w2.heap.size then 2 else 0 := by
              show (if i < w.heap.size then _ else if i = c' then _ else if i = w2.heap.size then _ else if i < w1.heap.size then 1 else if i < w2.heap.size then 2 else 0) = _
              rw [if_neg e, if_neg e1, if_neg e2]
            rw [this] at hi
            split at hi
            · omega
            · split at hi
              · omega
              · exact absurd rfl hi
  · refine ⟨⟨bA.os.trans (st2.wt.os.trans f1.os), bA.tape.trans (st2.wt.tape.trans f1.tape), bA.output.trans (st2.wt.output.trans f1.output), by rw [hA3]; omega, fun i hi hn => ?_⟩, fun i hi => ?_⟩
    · rw [bA.block i (by omega)]
      exact hz i (by simpa using hn) hi
    · by_cases e : i < w.heap.size
      · left
        have hi : κ' i ≠ 0 := hi
        have : κ' i = G.κ i := if_pos e
        rw [this] at hi; exact hi
      · exact .inr (by omega)
/-- It has an owner now. -/
theorem KM.put (h : KM w m H S U q G) {k : Int} (hk : S.O k = none) (hk24 : 1 ≤ k ∧ k ≤ 24) {o' : Ow} (hj : o'.j < S.Ts.length) (h5 : G.κ (H.hs o'.j) = 5) (hfree : ∀ p o, S.O p = some o → H.hs o.j ≠ H.hs o'.j) {U' : Nat → Int} (hd : Hd w (H.hs o'.j) (H.sp o'.j) (H.tb o'.j) U' o'.m o'.adj) :
    ∃ w', (Instr.mapUpdate 104 (.map (some H.gm)) (.int .i64 k) (wp (H.hs o'.j))).run Tryz.prog w = .ok () w' ∧ ∃ G', KM w' m H (S.own k o') (fun i => if i = o'.j then U' else U i) q G' ∧ Stp w w' (fun i => G.κ i ≠ 0) (fun i => G'.κ i ≠ 0) := by
  obtain ⟨z, hm⟩ := h.map
  have hzl : z < maxLen := by
    have := (hm.isN).few (B := 24) (by omega) (fun x hx => by
      rw [Option.isSome_map] at hx
      obtain ⟨o9, h9⟩ := Option.isSome_iff_exists.1 hx
      have := h.key x o9 h9; omega)
    unfold maxLen; omega
  obtain ⟨w', hrun, hm', g⟩ := hm.put Tryz.underlying104 hzl k (wf24 hk24) (wp (H.hs o'.j))
  have wt : Wt (fun i => G.κ i = 4) w w' := ⟨g.os, g.tape, g.output, g.size, fun i hi hn => g.block i hi (fun e => hn (by cases e; exact h.k4))⟩
  have kp := h.kept (X := 4) ⟨by omega, by omega⟩ wt
  have hklt := h.klt
  have keep : ∀ {i c}, c ≠ 0 → G.κ i = c → tg G.κ 4 w w' i = c := fun hc e => tg_keep hklt hc e
  have hO : ∀ x o9, putO S.O k o' x = some o9 → (x = k ∧ o9 = o') ∨ (x ≠ k ∧ S.O x = some o9) := fun x o9 e => by
    by_cases ex : x = k
    · rw [ex, putO_same] at e; exact .inl ⟨ex, (Option.some.inj e).symm⟩
    · rw [putO_ne ex] at e; exact .inr ⟨ex, e⟩
  refine ⟨w', hrun, ⟨G.E, G.Av, G.L, G.bs, G.Ad, tg G.κ 4 w w'⟩, ⟨kp.head, h.eb, h.en, kp.al (by omega), h.ms, h.sp, kp.kd (by omega), h.tb, kp.qj (by omega), ?_, fun x o9 e => ?_, fun x o1 y o2 e1 e2 e3 => ?_, h.len, fun x o9 e => ?_, fun x o9 e => ?_, kp.tab, h.nx, h.few, fun i hi => keep (by omega) (h.k1 i hi), fun i hi => keep (by omega) (h.k2 i hi), keep (by omega) h.k3, keep (by omega) h.k4, fun x o9 e => ?_, keep (by omega) h.kk, keep (by omega) h.kE, keep (by omega) h.kB, keep (by omega) h.kt, fun x hx => keep (by omega) (h.ks x hx), tg_zero h.ml_lt h.km, tg_zero h.er_lt h.ke, tg_zero h.zero_lt h.kd0, tg_lt hklt wt.size⟩, tg_stp wt (by omega)⟩
  · refine ⟨if ((S.O k).map (fun o => wp (H.hs o.j))).isSome then z else z + 1, ?_⟩
    have e : (fun x => (putO S.O k o' x).map (fun o => wp (H.hs o.j))) = fun x => if x = k then some (wp (H.hs o'.j)) else (S.O x).map (fun o => wp (H.hs o.j)) := by
      funext x
      by_cases ex : x = k
      · rw [ex, putO_same, if_pos rfl]; rfl
      · rw [putO_ne ex, if_neg ex]
    show PMap w' H.gm (if ((S.O k).map (fun o => wp (H.hs o.j))).isSome then z else z + 1) (fun x => (putO S.O k o' x).map (fun o => wp (H.hs o.j)))
    rw [e]; exact hm'
  · rcases hO x o9 e with ⟨rfl, rfl⟩ | ⟨hne, z9⟩
    · simp only [if_true]
      exact hd.keep (g.block _ hd.lt (fun e => by
        have := h.k4; rw [← Option.some.inj e] at this; omega))
    · have hne2 : o9.j ≠ o'.j := fun ej => hfree x o9 z9 (by rw [ej])
      simp only [if_neg hne2]
      exact kp.hold (by omega) x o9 z9
  · rcases hO x o1 e1 with ⟨rfl, rfl⟩ | ⟨hne, z9⟩ <;> rcases hO y o2 e2 with ⟨rfl, rfl⟩ | ⟨hne2, z8⟩
    · rfl
    · exact absurd e3.symm (hfree y o2 z8)
    · exact absurd e3 (hfree x o1 z9)
    · exact h.hinj x o1 y o2 z9 z8 e3
  · rcases hO x o9 e with ⟨rfl, rfl⟩ | ⟨hne, z9⟩
    · exact hj
    · exact h.lt x o9 z9
  · rcases hO x o9 e with ⟨rfl, rfl⟩ | ⟨hne, z9⟩
    · exact hk24
    · exact h.key x o9 z9
  · rcases hO x o9 e with ⟨rfl, rfl⟩ | ⟨hne, z9⟩
    · exact keep (by omega) h5
    · exact keep (by omega) (h.k5 x o9 z9)
end
end Go.Proofs.YtcfhanoekniaaaaGreatDoor

namespace Go.Proofs.YtcfhanoekniaaaaGreatDoor
open Go.RowKit Go.Maps

section
variable {w w' w1 w2 : World} {m : Int} {H : KH} {S : KS} {U : Nat → Nat → Int} {q : Nat} {G : KG} {A : Nat → Prop} {p : Int} {o : Ow}
theorem Hd.nine {b s t : Nat} {U M : Nat → Int} {a : Int} (h : Hd w b s t U M a) : w.cell? ⟨b, 0, none⟩ = some (wp s) ∧ w.cell? ⟨b, 1, none⟩ = some (wp t) ∧ w.cell? ⟨b, 2, none⟩ = some (.int .i64 (U 0)) ∧ w.cell? ⟨b, 3, none⟩ = some (.int .i64 (U 1)) ∧ w.cell? ⟨b, 4, none⟩ = some (.int .i64 (U 2)) ∧ w.cell? ⟨b, 5, none⟩ = some (.int .i64 (M 0)) ∧ w.cell? ⟨b, 6, none⟩ = some (.int .i64 (M 1)) ∧ w.cell? ⟨b, 7, none⟩ = some (.int .i64 (M 2)) ∧ w.cell? ⟨b, 8, none⟩ = some (.int .i64 a) :=
  ⟨h.at 0, h.at 1, h.at 2, h.at 3, h.at 4, h.at 5, h.at 6, h.at 7, h.at 8⟩
/-- What holding.fork leaves. -/
def Born (w : World) (m : Int) (H : KH) (S : KS) (U : Nat → Nat → Int) (q : Nat) (A : Nat → Prop) (o : Ow) (s t b : Nat) (w' : World) : Prop :=
  ∃ G', KM w' m (H.add S.Ts.length s t b) (S.born o.j) U (q + 1) G' ∧ G'.κ b = 5 ∧ (∀ p' o', S.O p' = some o' → H.hs o'.j < b) ∧ Hd w' b s t (U o.j) o.m o.adj ∧ Stp w w' A (fun i => G'.κ i ≠ 0)
set_option maxRecDepth 100000 in
set_option maxHeartbeats 4000000 in
theorem KX.hfork (h : KX w m H S U q A) (ho : S.O p = some o) (hq : q ≤ 90) :
    Calls Tryz.prog 56 #[wp (H.hs o.j), wp H.f] w fun y w' => ∃ s t b, y = .returned (wp b) ∧ Born w m H S U q A o s t b w' := by
  have c9 := (h.hd ho).nine
  have hV : Calls Tryz.prog 139 #[wp (H.sp o.j)] w.drew fun y w1 => ∃ s, y = .returned (wp s) ∧ (w1.cell? ⟨H.hs o.j, 0, none⟩ = some (wp (H.sp o.j)) ∧ w1.cell? ⟨H.hs o.j, 1, none⟩ = some (wp (H.tb o.j)) ∧ w1.cell? ⟨H.hs o.j, 2, none⟩ = some (.int .i64 (U o.j 0)) ∧ w1.cell? ⟨H.hs o.j, 3, none⟩ = some (.int .i64 (U o.j 1)) ∧ w1.cell? ⟨H.hs o.j, 4, none⟩ = some (.int .i64 (U o.j 2)) ∧ w1.cell? ⟨H.hs o.j, 5, none⟩ = some (.int .i64 (o.m 0)) ∧ w1.cell? ⟨H.hs o.j, 6, none⟩ = some (.int .i64 (o.m 1)) ∧ w1.cell? ⟨H.hs o.j, 7, none⟩ = some (.int .i64 (o.m 2)) ∧ w1.cell? ⟨H.hs o.j, 8, none⟩ = some (.int .i64 o.adj)) ∧
      Calls Tryz.prog 140 #[wp H.f, wp (H.tb o.j)] w1 fun y w2 => ∃ t, y = .returned (wp t) ∧ (w2.cell? ⟨H.hs o.j, 0, none⟩ = some (wp (H.sp o.j)) ∧ w2.cell? ⟨H.hs o.j, 1, none⟩ = some (wp (H.tb o.j)) ∧ w2.cell? ⟨H.hs o.j, 2, none⟩ = some (.int .i64 (U o.j 0)) ∧ w2.cell? ⟨H.hs o.j, 3, none⟩ = some (.int .i64 (U o.j 1)) ∧ w2.cell? ⟨H.hs o.j, 4, none⟩ = some (.int .i64 (U o.j 2)) ∧ w2.cell? ⟨H.hs o.j, 5, none⟩ = some (.int .i64 (o.m 0)) ∧ w2.cell? ⟨H.hs o.j, 6, none⟩ = some (.int .i64 (o.m 1)) ∧ w2.cell? ⟨H.hs o.j, 7, none⟩ = some (.int .i64 (o.m 2)) ∧ w2.cell? ⟨H.hs o.j, 8, none⟩ = some (.int .i64 o.adj)) ∧
        ((w2.alloc (.cells #[wp s, wp t, .int .i64 (U o.j 0), .int .i64 (U o.j 1), .int .i64 (U o.j 2), .int .i64 (o.m 0), .int .i64 (o.m 1), .int .i64 (o.m 2), .int .i64 o.adj] 115)).cell? ⟨H.hs o.j, 0, none⟩ = some (wp (H.sp o.j)) ∧ (w2.alloc (.cells #[wp s, wp t, .int .i64 (U o.j 0), .int .i64 (U o.j 1), .int .i64 (U o.j 2), .int .i64 (o.m 0), .int .i64 (o.m 1), .int .i64 (o.m 2), .int .i64 o.adj] 115)).cell? ⟨H.hs o.j, 1, none⟩ = some (wp (H.tb o.j)) ∧ (w2.alloc (.cells #[wp s, wp t, .int .i64 (U o.j 0), .int .i64 (U o.j 1), .int .i64 (U o.j 2), .int .i64 (o.m 0), .int .i64 (o.m 1), .int .i64 (o.m 2), .int .i64 o.adj] 115)).cell? ⟨H.hs o.j, 2, none⟩ = some (.int .i64 (U o.j 0)) ∧ (w2.alloc (.cells #[wp s, wp t, .int .i64 (U o.j 0), .int .i64 (U o.j 1), .int .i64 (U o.j 2), .int .i64 (o.m 0), .int .i64 (o.m 1), .int .i64 (o.m 2), .int .i64 o.adj] 115)).cell? ⟨H.hs o.j, 3, none⟩ = some (.int .i64 (U o.j 1)) ∧ (w2.alloc (.cells #[wp s, wp t, .int .i64 (U o.j 0), .int .i64 (U o.j 1), .int .i64 (U o.j 2), .int .i64 (o.m 0), .int .i64 (o.m 1), .int .i64 (o.m 2), .int .i64 o.adj] 115)).cell? ⟨H.hs o.j, 4, none⟩ = some (.int .i64 (U o.j 2)) ∧ (w2.alloc (.cells #[wp s, wp t, .int .i64 (U o.j 0), .int .i64 (U o.j 1), .int .i64 (U o.j 2), .int .i64 (o.m 0), .int .i64 (o.m 1), .int .i64 (o.m 2), .int .i64 o.adj] 115)).cell? ⟨H.hs o.j, 5, none⟩ = some (.int .i64 (o.m 0)) ∧ (w2.alloc (.cells #[wp s, wp t, .int .i64 (U o.j 0), .int .i64 (U o.j 1), .int .i64 (U o.j 2), .int .i64 (o.m 0), .int .i64 (o.m 1), .int .i64 (o.m 2), .int .i64 o.adj] 115)).cell? ⟨H.hs o.j, 6, none⟩ = some (.int .i64 (o.m 1)) ∧ (w2.alloc (.cells #[wp s, wp t, .int .i64 (U o.j 0), .int .i64 (U o.j 1), .int .i64 (U o.j 2), .int .i64 (o.m 0), .int .i64 (o.m 1), .int .i64 (o.m 2), .int .i64 o.adj] 115)).cell? ⟨H.hs o.j, 7, none⟩ = some (.int .i64 (o.m 2)) ∧ (w2.alloc (.cells #[wp s, wp t, .int .i64 (U o.j 0), .int .i64 (U o.j 1), .int .i64 (U o.j 2), .int .i64 (o.m 0), .int .i64 (o.m 1), .int .i64 (o.m 2), .int .i64 o.adj] 115)).cell? ⟨H.hs o.j, 8, none⟩ = some (.int .i64 o.adj)) ∧
        Aside (Born w m H S U q A o s t w2.heap.size (w2.alloc (.cells #[wp s, wp t, .int .i64 (U o.j 0), .int .i64 (U o.j 1), .int .i64 (U o.j 2), .int .i64 (o.m 0), .int .i64 (o.m 1), .int .i64 (o.m 2), .int .i64 o.adj] 115))) := by
    obtain ⟨G, k, e⟩ := h
    have kd := k.below (bel_drew w)
    have hl : o.j < G.L.length := by rw [k.Ll]; exact k.lt p o ho
    have hfew := k.few
    have hF := kd.al.fork_ok (by rw [k.Ll]; omega) hl
    rw [k.sp _ hl] at hF
    refine hF.mono ?_
    rintro y w1 ⟨s, rfl, gc, t1, hs⟩
    have hs1 : s < w1.heap.size := by
      obtain ⟨A9, a9, _, _⟩ := t1
      have := (a9.sp G.L.length (by simp)).sp.lt
      simpa using this
    have hd1 : Hd w1 (H.hs o.j) (H.sp o.j) (H.tb o.j) (U o.j) o.m o.adj := by
      obtain ⟨A9, a9, f9, _⟩ := t1
      exact (kd.hold p o ho).keep (f9.block _ (kd.hold p o ho).lt (fun z => by have := kd.k1 _ z; have := kd.k5 p o ho; omega))
    refine ⟨s, rfl, hd1.nine, (kd.forked hq ho hl t1 hs hs1).mono ?_⟩
    rintro y w2 ⟨t, rfl, hd2, G', k', h5, hlt, st⟩
    refine ⟨t, rfl, hd2.nine, (hd2.below ((Below.refl _ w2).alloc (Nat.le_refl _) _)).nine, G', k', h5, hlt, ?_, stp_iff e (Stp.base (V := w.drew) rfl rfl rfl rfl st)⟩
    show (w2.heap.push _)[w2.heap.size]? = _
    rw [Array.getElem?_push, if_pos rfl]
  generalize U o.j 0 = u0 at *
  generalize U o.j 1 = u1 at *
  generalize U o.j 2 = u2 at *
  generalize o.m 0 = m0 at *
  generalize o.m 1 = m1 at *
  generalize o.m 2 = m2 at *
  clear h ho
  go_enter Tryz.func56, Tryz.ntmps56
  go_upto_region 1 with fail
  go_region_held3 (fun w' => w'.cell? ⟨H.hs o.j, 0, none⟩ = some (wp (H.sp o.j)) ∧ w'.cell? ⟨H.hs o.j, 1, none⟩ = some (wp (H.tb o.j)) ∧ w'.cell? ⟨H.hs o.j, 2, none⟩ = some (.int .i64 u0) ∧ w'.cell? ⟨H.hs o.j, 3, none⟩ = some (.int .i64 u1) ∧ w'.cell? ⟨H.hs o.j, 4, none⟩ = some (.int .i64 u2) ∧ w'.cell? ⟨H.hs o.j, 5, none⟩ = some (.int .i64 m0) ∧ w'.cell? ⟨H.hs o.j, 6, none⟩ = some (.int .i64 m1) ∧ w'.cell? ⟨H.hs o.j, 7, none⟩ = some (.int .i64 m2) ∧ w'.cell? ⟨H.hs o.j, 8, none⟩ = some (.int .i64 o.adj)) (first | exact c9 | exact d9 | exact d10) (first
    | (go_at_call 139; refine hV.mono ?_; rintro e w1 ⟨s, rfl, d9, hD⟩)
    | (go_at_call 140; refine hD.mono ?_; rintro e w2 ⟨t, rfl, d9, d10, hB⟩))
  all_goals
    clear c9 d9 d10 hV hD
    go_wp2_with fail
    go_ret
    exact ⟨s, t, w2.heap.size, rfl, hB.out⟩
end
end Go.Proofs.YtcfhanoekniaaaaGreatDoor

namespace Go.Proofs.YtcfhanoekniaaaaGreatDoor
open Go.RowKit Go.Maps

/-- What Fork leaves. -/
def forkKS (S : KS) (p : Int) (o : Ow) : KS := ((S.procs (forkP S.P p (leastJ S.P))).born o.j).own (leastJ S.P) ⟨S.Ts.length, o.m, o.adj⟩
section
variable {w w' w1 w2 : World} {m : Int} {H : KH} {S : KS} {U : Nat → Nat → Int} {q : Nat} {G : KG} {A : Nat → Prop} {p : Int} {o : Ow}
theorem ts_born (S : KS) (j i : Nat) : tsJ (S.born j) i = if i = S.Ts.length then tsJ S j else tsJ S i := by
  show (S.Ts ++ [tsJ S j]).getD i zeroN = _
  rw [List.getD_eq_getElem?_getD]
  by_cases e : i < S.Ts.length
  · rw [List.getElem?_append_left e, if_neg (by omega)]
    unfold tsJ
    rw [List.getD_eq_getElem?_getD]
  · rw [List.getElem?_append_right (by omega)]
    by_cases e2 : i = S.Ts.length
    · rw [if_pos e2, e2]; simp
    · rw [if_neg e2, List.getElem?_eq_none (by simp; omega)]
      unfold tsJ
      rw [List.getD_eq_getElem?_getD, List.getElem?_eq_none (by omega)]
theorem ms_born (S : KS) (hl : S.Ms.length = S.Ts.length) (j i : Nat) : msJ (S.born j) i = if i = S.Ts.length then msJ S j else msJ S i := by
  show (S.Ms ++ [msJ S j]).getD i noP = _
  rw [List.getD_eq_getElem?_getD]
  by_cases e : i < S.Ms.length
  · rw [List.getElem?_append_left e, if_neg (by omega)]
    unfold msJ
    rw [List.getD_eq_getElem?_getD]
  · rw [List.getElem?_append_right (by omega)]
    by_cases e2 : i = S.Ts.length
    · rw [if_pos e2, e2, hl]; simp
    · rw [if_neg e2, List.getElem?_eq_none (by simp; omega)]
      unfold msJ
      rw [List.getD_eq_getElem?_getD, List.getElem?_eq_none (by omega)]
theorem runs_fork (P : Ps) (p k x : Int) : runsJ (forkP P p k) x = if x = k then true else runsJ P x := by
  unfold runsJ forkP
  by_cases e : x = k
  · subst e
    rw [stJ_some (setJ_same _ _ _), if_pos rfl]; rfl
  · rw [if_neg e]
    unfold stJ
    rw [setJ_ne e]
theorem KOk.forked (k : KOk S) (ho : S.O p = some o) (hl : S.Ms.length = S.Ts.length) (hk : S.O (leastJ S.P) = none) : KOk (forkKS S p o) := by
  have hO : ∀ x o', (forkKS S p o).O x = some o' → (x = leastJ S.P ∧ o' = ⟨S.Ts.length, o.m, o.adj⟩) ∨ (x ≠ leastJ S.P ∧ S.O x = some o') := fun x o' e => by
    have e : putO S.O (leastJ S.P) ⟨S.Ts.length, o.m, o.adj⟩ x = some o' := e
    by_cases ex : x = leastJ S.P
    · rw [ex, putO_same] at e; exact .inl ⟨ex, (Option.some.inj e).symm⟩
    · rw [putO_ne ex] at e; exact .inr ⟨ex, e⟩
  refine ⟨fun x => ?_, fun j hj hn => ?_, fun x o' e => ?_⟩
  · show (putO S.O (leastJ S.P) _ x).isSome = runsJ (forkP S.P p (leastJ S.P)) x
    rw [runs_fork]
    by_cases e : x = leastJ S.P
    · rw [if_pos e, e, putO_same]; rfl
    · rw [if_neg e, putO_ne e]; exact k.run x
  · have e1 : tsJ (forkKS S p o) j = tsJ ((S.procs (forkP S.P p (leastJ S.P))).born o.j) j := rfl
    have e2 : msJ (forkKS S p o) j = msJ ((S.procs (forkP S.P p (leastJ S.P))).born o.j) j := rfl
    have hj' : j < S.Ts.length + 1 := by
      have : j < (S.Ts ++ [tsJ S o.j]).length := hj
      simpa using this
    have hne : j ≠ S.Ts.length := fun e => hn (leastJ S.P) ⟨S.Ts.length, o.m, o.adj⟩ (putO_same _ _ _) e.symm
    rw [e1, e2, ts_born, ms_born (S.procs (forkP S.P p (leastJ S.P))) hl]
    have hne' : ¬ j = (S.procs (forkP S.P p (leastJ S.P))).Ts.length := hne
    rw [if_neg hne', if_neg hne']
    refine k.gone j (by omega) (fun x o' e z => ?_)
    by_cases ex : x = leastJ S.P
    · rw [ex, hk] at e; cases e
    · exact hn x o' (by show putO S.O _ _ x = _; rw [putO_ne ex]; exact e) z
  · rcases hO x o' e with ⟨_, rfl⟩ | ⟨_, e⟩
    · exact k.fit p o ho
    · exact k.fit x o' e
theorem KN.least (h : KN w m H S q A) (hc : (pidsJ S.P).length < 24) : FreeJ S.P (leastJ S.P) ∧ leastJ S.P ≤ 24 ∧ S.O (leastJ S.P) = none := by
  obtain ⟨k, hk, hk24⟩ := FreeJ.ex h.1.jok.pidsN hc
  rw [leastJ_eq hk hk24]
  refine ⟨hk, hk24, h.norun.2 ?_⟩
  unfold runsJ
  rw [stJ_none hk.no]; rfl
theorem KX.forkPK (h : KX w m H S U q A) (n : Int) (hn : (Lit.int .i64 n).wf = true) : Calls Tryz.prog 55 #[wp H.t, .int .i64 n] w fun y w' => y = .returned (.tuple #[.int .i64 (forkK S.P n (pidsJ S.P).length), uev (forkE S.P n (pidsJ S.P).length)]) ∧ ∃ A', KX w' m H (S.procs (forkQ S.P n (pidsJ S.P).length)) U q A' ∧ Stp w w' A A' := by
  refine (h.proc (Q := fun y P' => y = .returned (.tuple #[.int .i64 (forkK S.P n (pidsJ S.P).length), uev (forkE S.P n (pidsJ S.P).length)]) ∧ P' = forkQ S.P n (pidsJ S.P).length) (fun c qj => ?_)).mono ?_
  · have e : c = (pidsJ S.P).length := qj.toQM.num.one h.jok.pidsN
    subst e
    refine (qj.fork n hn).mono ?_
    rintro y w' ⟨rfl, t⟩; exact ⟨_, ⟨rfl, rfl⟩, t⟩
  · rintro y w' ⟨P', ⟨rfl, rfl⟩, r⟩; exact ⟨rfl, r⟩
set_option maxRecDepth 100000 in
set_option maxHeartbeats 4000000 in
theorem KN.fork_go (h : KN w m H S q A) (ho : S.O p = some o) (hq : q ≤ 90) (hc : (pidsJ S.P).length < 24) :
    Calls Tryz.prog 14 #[wp H.kb, .int .i64 p] w fun y w' => y = .returned (.tuple #[.int .i64 (leastJ S.P), .nilIface]) ∧ ∃ H' A', (H'.kb = H.kb ∧ H'.ok = H.ok) ∧ KN w' m H' (forkKS S p o) (q + 1) A' ∧ Stp w w' A A' := by
  have hF := h.1.find_yes ho
  have c3 := h.1.c3
  have hr : runsJ S.P p = true := by rw [← h.2.run p, ho]; rfl
  obtain ⟨hfr, h24, hkO⟩ := h.least hc
  have hk1 := hfr.pos
  have e1 : forkE S.P p (pidsJ S.P).length = 0 := by unfold forkE; rw [hr, if_neg (by simp), if_neg (by omega)]
  have e2 : forkK S.P p (pidsJ S.P).length = leastJ S.P := by unfold forkK; rw [if_pos e1]
  have e3 : forkQ S.P p (pidsJ S.P).length = forkP S.P p (leastJ S.P) := by unfold forkQ; rw [if_pos e1]
  have hX : Calls Tryz.prog 55 #[wp H.t, .int .i64 p] w fun y w' => y = .returned (.tuple #[.int .i64 (leastJ S.P), .nilIface]) ∧ (w'.cell? ⟨H.kb, 4, none⟩ = some (.map (some H.gm)) ∧ w'.cell? ⟨H.kb, 2, none⟩ = some (wp H.f)) ∧
      Calls Tryz.prog 56 #[wp (H.hs o.j), wp H.f] w'.drew fun y w2 => ∃ b, y = .returned (wp b) ∧ (w2.cell? ⟨H.kb, 4, none⟩ = some (.map (some H.gm)) ∧ w2.cell? ⟨H.kb, 2, none⟩ = some (wp H.f)) ∧ ∃ w3, (Instr.mapUpdate 104 (.map (some H.gm)) (.int .i64 (leastJ S.P)) (wp b)).run Tryz.prog w2 = .ok () w3 ∧ (w3.cell? ⟨H.kb, 4, none⟩ = some (.map (some H.gm)) ∧ w3.cell? ⟨H.kb, 2, none⟩ = some (wp H.f)) ∧ Aside (∃ H' A', (H'.kb = H.kb ∧ H'.ok = H.ok) ∧ KN w3 m H' (forkKS S p o) (q + 1) A' ∧ Stp w w3 A A') := by
    refine (h.1.forkPK p (h.1.wfp ho)).mono ?_
    rintro y w1 ⟨rfl, A1, k1, st1⟩
    rw [e1, e2, uev_zero]
    rw [e3] at k1
    refine ⟨rfl, k1.cells4 (p := p) (o := o) ho, ((k1.below (bel_drew w1)).hfork (p := p) (o := o) ho hq).mono ?_⟩
    rintro y w2 ⟨s, t, b, rfl, G', k', h5, hlt, hd, st2⟩
    have hb : (H.add S.Ts.length s t b).hs S.Ts.length = b := if_pos rfl
    have hs : (H.add S.Ts.length s t b).sp S.Ts.length = s := if_pos rfl
    have ht : (H.add S.Ts.length s t b).tb S.Ts.length = t := if_pos rfl
    have c2 : w2.cell? ⟨H.kb, 4, none⟩ = some (.map (some H.gm)) ∧ w2.cell? ⟨H.kb, 2, none⟩ = some (wp H.f) := ⟨(KX.of k').c4, (KX.of k').c2⟩
    obtain ⟨w3, hrun, G3, k3, st3⟩ := k'.put (k := leastJ S.P) hkO ⟨hk1, h24⟩ (o' := ⟨S.Ts.length, o.m, o.adj⟩) (by show S.Ts.length < (S.Ts ++ [_]).length; simp) (by show G'.κ ((H.add S.Ts.length s t b).hs S.Ts.length) = 5; rw [hb]; exact h5) (fun p' o' ho' => by
        have ho2 : S.O p' = some o' := ho'
        have hl := h.1.jlt ho2
        show (H.add S.Ts.length s t b).hs o'.j ≠ (H.add S.Ts.length s t b).hs S.Ts.length
        rw [hb, show (H.add S.Ts.length s t b).hs o'.j = H.hs o'.j from if_neg (by omega)]
        have := hlt p' o' ho2
        omega) (U' := Uof S o.j) (by
        show Hd w2 ((H.add S.Ts.length s t b).hs S.Ts.length) ((H.add S.Ts.length s t b).sp S.Ts.length) ((H.add S.Ts.length s t b).tb S.Ts.length) (Uof S o.j) o.m o.adj
        rw [hb, hs, ht]; exact hd)
    have hrun' : (Instr.mapUpdate 104 (.map (some H.gm)) (.int .i64 (leastJ S.P)) (wp b)).run Tryz.prog w2 = .ok () w3 := by rw [← hb]; exact hrun
    refine ⟨b, rfl, c2, w3, hrun', ⟨(KX.of k3).c4, (KX.of k3).c2⟩, H.add S.Ts.length s t b, _, ⟨rfl, rfl⟩, (KX.of k3).toN (h.2.forked ho h.1.len hkO) (fun p' o' ho' k hk => ?_), (st1.trans (Stp.base (V := w1.drew) rfl rfl rfl rfl st2)).trans st3⟩
    have hO : (p' = leastJ S.P ∧ o' = ⟨S.Ts.length, o.m, o.adj⟩) ∨ (p' ≠ leastJ S.P ∧ S.O p' = some o') := by
      have e : putO S.O (leastJ S.P) ⟨S.Ts.length, o.m, o.adj⟩ p' = some o' := ho'
      by_cases ex : p' = leastJ S.P
      · rw [ex, putO_same] at e; exact .inl ⟨ex, (Option.some.inj e).symm⟩
      · rw [putO_ne ex] at e; exact .inr ⟨ex, e⟩
    have et : ∀ i, tsJ (forkKS S p o) i = if i = S.Ts.length then tsJ S o.j else tsJ S i := fun i => ts_born (S.procs (forkP S.P p (leastJ S.P))) o.j i
    have em : ∀ i, msJ (forkKS S p o) i = if i = S.Ts.length then msJ S o.j else msJ S i := fun i => ms_born (S.procs (forkP S.P p (leastJ S.P))) h.1.len o.j i
    rcases hO with ⟨_, rfl⟩ | ⟨_, ho2⟩
    · simp only [if_true]
      have e9 : Uof (forkKS S p o) S.Ts.length k = Uof S o.j k := by
        unfold Uof
        rw [et, em, if_pos rfl, if_pos rfl]
      exact e9.symm
    · have hl := h.1.jlt ho2
      simp only
      rw [if_neg (by omega)]
      have e9 : Uof (forkKS S p o) o'.j k = Uof S o'.j k := by
        unfold Uof
        have hne : ¬ o'.j = S.Ts.length := by omega
        rw [et, em, if_neg hne, if_neg hne]
      exact e9.symm
  generalize forkKS S p o = S2 at *
  generalize leastJ S.P = X at *
  clear h ho hr e1 e2 e3 hfr hkO
  go_enter Tryz.func14, Tryz.ntmps14
  go_upto_region 7 with (first
    | (go_at_call 51; refine hF.mono ?_; rintro e w1 ⟨rfl, hw⟩; subst w1)
    | (go_at_call 55; refine hX.mono ?_; rintro e w1 ⟨rfl, c0, hC⟩))
  clear hX hF c3
  go_region_held3 (fun w' => w'.cell? ⟨H.kb, 4, none⟩ = some (.map (some H.gm)) ∧ w'.cell? ⟨H.kb, 2, none⟩ = some (wp H.f)) (first | exact c0 | exact c1 | exact c9) (first
    | (go_at_call 56; refine hC.mono ?_; rintro e w2 ⟨b, rfl, c1, w3, hrun, c9, hR⟩))
  all_goals
    clear c0 hC hrun c1 c9
    go_wp2_with fail
    go_ret2
    exact ⟨rfl, hR.out⟩
end
end Go.Proofs.YtcfhanoekniaaaaGreatDoor

namespace Go.Proofs.YtcfhanoekniaaaaGreatDoor
open Go.RowKit Go.Maps

section
variable {w w' w1 w2 : World} {m : Int} {H : KH} {S : KS} {U : Nat → Nat → Int} {q : Nat} {G : KG} {A : Nat → Prop} {p : Int} {o : Ow}
/-- The ledgers, with so many numbers more for one. -/
def payU (S : KS) (j : Nat) (n : Int) : Nat → Nat → Int := fun i => if i = j then after (Uof S j) 1 n else Uof S i
/-- Both sets. -/
def Or2 (A X : Nat → Prop) : Nat → Prop := fun i => A i ∨ X i
theorem Stp.with {A' X : Nat → Prop} (h : Stp w w' A A') (_hX : ∀ i, X i → i < w.heap.size) : Stp w w' (Or2 A X) (Or2 A' X) :=
  ⟨⟨h.wt.os, h.wt.tape, h.wt.output, h.wt.size, fun i hi hn => h.wt.block i hi (fun z => hn (.inl z))⟩, fun i hi => by
    rcases hi with z | z
    · rcases h.own i z with y | y
      · exact .inl (.inl y)
      · exact .inr y
    · exact .inl (.inr z)⟩
theorem why_pay {S : KS} {o : Ow} {n : Int} (hn : 1 ≤ n ∧ n ≤ 2) (h8 : (tsJ S o.j).length = 8) : why (Uof S o.j) o.m 1 n = if ((usedN (tsJ S o.j) : Nat) : Int) + n ≤ o.m 1 then 0 else 4 := by
  have e : Uof S o.j (1 : Int).toNat = ((usedN (tsJ S o.j) : Nat) : Int) := rfl
  have e2 : o.m (1 : Int).toNat = o.m 1 := rfl
  unfold why
  rw [e, e2]
  have := usedN_le8 h8
  by_cases hc : ((usedN (tsJ S o.j) : Nat) : Int) + n ≤ o.m 1
  · rw [if_pos hc, if_neg (by omega), if_neg (by omega), if_neg (by omega), if_neg (by omega)]
  · rw [if_neg hc, if_neg (by omega), if_neg (by omega), if_pos (by omega)]
theorem payU_files {S : KS} {o : Ow} {n : Int} {D' : DS} {N' : Ns} (hj : o.j < S.Ts.length) (hu : ((usedN N' : Nat) : Int) = usedN (tsJ S o.j) + n) (i k : Nat) (hk : k < 3) : payU S o.j n i k = Uof (S.files D' o.j N') i k := by
  unfold payU
  by_cases e : i = o.j
  · rw [if_pos e, e]
    unfold after put Uof
    rw [ts_files hj, if_pos rfl, ms_files]
    match k, hk with
    | 0, _ => rfl
    | 1, _ => show ((usedN (tsJ S o.j) : Nat) : Int) + n = _; rw [← hu]; rfl
    | 2, _ => rfl
  · rw [if_neg e]
    unfold Uof
    rw [ts_files hj, if_neg e, ms_files]
theorem KX.payFirst (h : KN w m H S q A) (ho : S.O p = some o) {n : Int} (hn : 1 ≤ n ∧ n ≤ 2) {fn : Nat} {lb : Array Value} (ef : ∀ args w, (callFunc fn args).run Tryz.prog w = .ok (.enter fn args) w) {X : Nat → Prop} (hX : ∀ i, X i → i < w.heap.size) {Q : Int → DS → Ns → World → Prop}
    (hQ : ∀ c D' N' w2 w3, Q c D' N' w2 → w2.grownBy w3 (some (H.hs o.j)) → Q c D' N' w3)
    (hdo : ∀ V, KX V m H S (payU S o.j n) q A → Stp w V A A → Calls Tryz.prog fn lb V fun y w2 => ∃ c D' N', y = .returned (uev c) ∧ Q c D' N' w2 ∧ (c = 0 → ((usedN N' : Nat) : Int) = usedN (tsJ S o.j) + n) ∧ (c ≠ 0 → D' = S.D ∧ N' = tsJ S o.j) ∧ ∃ A2, (∀ i, X i → ¬ A2 i) ∧ KX w2 m H (S.files D' o.j N') (payU S o.j n) (q + 1) A2 ∧ Stp V w2 (Or2 A X) (Or2 A2 X)) :
    Calls Tryz.prog 52 #[wp (H.hs o.j), .int .i64 1, .int .i64 n, .func (.func fn) #[] lb] w fun y w' => ∃ c, y = .returned (uev c) ∧
      ((¬ ((usedN (tsJ S o.j) : Nat) : Int) + n ≤ o.m 1 ∧ c = 4 ∧ ∃ A', KN w' m H S q A' ∧ Stp w w' A A') ∨
       (((usedN (tsJ S o.j) : Nat) : Int) + n ≤ o.m 1 ∧ ∃ D' N', Q c D' N' w' ∧ ∃ A', (∀ i, X i → ¬ A' i) ∧ KN w' m H (S.files D' o.j N') (q + 1) A' ∧ Stp w w' (Or2 A X) (Or2 A' X))) := by
  have hj := h.1.jlt ho
  have hw := why_pay (S := S) (o := o) hn (h.1.tlen o.j)
  refine (h.1.hd ho).payFirst (h.1.fitU o.j) (h.2.fit p o ho).1 h.1.er (h.1.hne ho) 1 n ef (R := fun c w' => (¬ ((usedN (tsJ S o.j) : Nat) : Int) + n ≤ o.m 1 ∧ c = 4 ∧ ∃ A', KN w' m H S q A' ∧ Stp w w' A A') ∨
       (((usedN (tsJ S o.j) : Nat) : Int) + n ≤ o.m 1 ∧ ∃ D' N', Q c D' N' w' ∧ ∃ A', (∀ i, X i → ¬ A' i) ∧ KN w' m H (S.files D' o.j N') (q + 1) A' ∧ Stp w w' (Or2 A X) (Or2 A' X))) (fun hne V hd g => ?_) (fun he V hd g => ?_)
  · obtain ⟨k', st⟩ := h.1.led2 ho hd g
    rw [hw] at hne ⊢
    split at hne
    · exact absurd rfl hne
    · rename_i hc
      rw [if_neg hc]
      refine .inl ⟨hc, rfl, A, k'.toN h.2 (fun p' o' ho' k hk => ?_), st⟩
      by_cases ej : o'.j = o.j
      · simp only [if_pos ej]; rw [ej]
      · simp only [if_neg ej]
  · have hle : ((usedN (tsJ S o.j) : Nat) : Int) + n ≤ o.m 1 := by
      rw [hw] at he
      split at he
      · assumption
      · omega
    obtain ⟨k', st⟩ := h.1.led2 ho hd g
    refine (hdo V k' st).mono ?_
    rintro y w2 ⟨c, D', N', rfl, hQ2, hc0, hc1, A2, nA, k2, st2⟩
    refine ⟨c, rfl, fun hc => ?_, fun hc => ⟨?_, fun i hi hiV => ?_, fun w3 hd3 g3 => ?_⟩⟩
    · subst hc
      refine .inr ⟨hle, D', N', hQ2, A2, nA, k2.toN (h.2.files ho _ _) (fun p' o' ho' k hk => payU_files hj (hc0 rfl) _ _ hk), (st.with hX).trans st2⟩
    · have := k2.hd (p := p) (o := o) ho
      unfold payU at this
      rw [if_pos rfl] at this
      exact this
    · refine st2.wt.block i hiV (fun z => ?_)
      rcases z with z | z
      · have := h.1.lt i z; omega
      · have := hX i z; omega
    · obtain ⟨rfl, rfl⟩ := hc1 hc
      rw [files_self hj] at k2
      obtain ⟨k3, st3⟩ := k2.led2 (p := p) (o := o) ho hd3 g3
      have hX2 : ∀ i, X i → i < w2.heap.size := fun i hi => Nat.lt_of_lt_of_le (hX i hi) (Nat.le_trans st.wt.size st2.wt.size)
      refine .inr ⟨hle, S.D, tsJ S o.j, hQ _ _ _ _ _ hQ2 g3, A2, nA, ?_, ((st.with hX).trans st2).trans (st3.with hX2)⟩
      rw [files_self hj]
      refine k3.toN h.2 (fun p' o' ho' k hk => ?_)
      by_cases ej : o'.j = o.j
      · simp only [if_pos ej]; rw [ej]
      · simp only [if_neg ej]
        unfold payU
        rw [if_neg ej]
end
end Go.Proofs.YtcfhanoekniaaaaGreatDoor

namespace Go.Proofs.YtcfhanoekniaaaaGreatDoor
open Go.RowKit Go.Maps

section
variable {w w' w1 w2 : World} {m : Int} {H : KH} {S : KS} {U : Nat → Nat → Int} {q : Nat} {G : KG} {A : Nat → Prop} {p : Int} {o : Ow}
/-- No block of the kernel's turned. -/
theorem KM.same (h : KM w m H S U q G) (hs : w.heap.size ≤ w'.heap.size) (hk : ∀ i, G.κ i ≠ 0 → w'.heap[i]? = w.heap[i]?) (g1 : w'.heap[4]? = w.heap[4]?) (g2 : w'.heap[0]? = w.heap[0]?) (g3 : w'.heap[2]? = w.heap[2]?) : KM w' m H S U q G := by
  have hb : ∀ i c, G.κ i = c → c ≠ 0 → w'.heap[i]? = w.heap[i]? := fun i c e h0 => hk i (by omega)
  have m1 : w'.cell? ⟨4, 0, none⟩ = some (.int .i64 m) := by
    rw [World.cell?_of_block (w := w) (a := ⟨4, 0, none⟩) g1]; exact h.kd.ml
  have m2 : w'.cell? ⟨0, 0, none⟩ = some errT := by
    rw [World.cell?_of_block (w := w) (a := ⟨0, 0, none⟩) g2]; exact h.kd.er
  obtain ⟨c, hc⟩ := h.qj
  obtain ⟨z, hm⟩ := h.map
  exact { h with
    head := (hb _ 6 h.kk (by omega)).trans h.head
    al := h.al.keep (fun i hi => hb i 1 (h.k1 i hi) (by omega)) (hb _ 6 h.kE (by omega)) (hb _ 6 h.kB (by omega)) (fun i hi => by
      rw [h.sp i hi]
      exact hb _ 6 (h.ks i (by rw [← h.Ll]; exact hi)) (by omega))
    kd := h.kd.keep (fun i hi => hb i 2 (h.k2 i hi) (by omega)) hs m1 m2
    qj := ⟨c, ⟨hc.toQM.keep (hb _ 6 h.kt (by omega)) (hb _ 3 h.k3 (by omega)), hc.ok, hc.dj⟩⟩
    map := ⟨z, hm.keep (hb _ 4 h.k4 (by omega))⟩
    hold := fun p o ho => (h.hold p o ho).keep (hb _ 5 (h.k5 p o ho) (by omega))
    tab := h.tab.keep g3
    klt := fun i hi => Nat.lt_of_lt_of_le (h.klt i hi) hs }
/-- A box of one's own: not the kernel's, and no variable of a package's. -/
def Out (w : World) (A : Nat → Prop) (x : Nat) : Prop := ¬ A x ∧ x ≠ 4 ∧ x ≠ 0 ∧ x ≠ 2 ∧ w.frozen? ⟨x, 0, none⟩ = false ∧ ∃ v, w.cell? ⟨x, 0, none⟩ = some v
theorem Out.stp {A' : Nat → Prop} {x : Nat} (h : Out w A x) (st : Stp w w' A A') : Out w' A' x := by
  obtain ⟨h1, h2, h3, h4, h5, v, hv⟩ := h
  obtain ⟨c, n⟩ := st.cellKept hv h1
  have hlt : x < w.heap.size := World.block_lt_of_cell? w _ hv
  exact ⟨n, h2, h3, h4, by rw [World.frozen?_of_block (w := w) (a := ⟨x, 0, none⟩) (st.wt.block x hlt h1)]; exact h5, v, c⟩
theorem KX.box (h : KX w m H S U q A) {x : Nat} (hx : Out w A x) (v : Value) : KX (w.setCell ⟨x, 0, none⟩ v) m H S U q A := by
  obtain ⟨G, k, e⟩ := h
  obtain ⟨h1, h2, h3, h4, _, _⟩ := hx
  have hk : ∀ i, i ≠ x → (w.setCell ⟨x, 0, none⟩ v).heap[i]? = w.heap[i]? := fun i hi => Below.heap_setCell _ _ _ _ (fun e => hi (by rw [e]))
  exact ⟨G, k.same (by simp [World.setCell]) (fun i hi => hk i (fun z => by subst z; exact h1 ((e i).2 hi))) (hk _ (Ne.symm h2)) (hk _ (Ne.symm h3)) (hk _ (Ne.symm h4)), e⟩
theorem Out.set {x y : Nat} (h : Out w A x) (v : Value) : Out (w.setCell ⟨y, 0, none⟩ v) A x := by
  obtain ⟨h1, h2, h3, h4, h5, u, hu⟩ := h
  refine ⟨h1, h2, h3, h4, by rw [World.frozen?_setCell]; exact h5, ?_⟩
  by_cases e : x = y
  · subst e; exact ⟨v, World.cell?_setCell_same _ _ _ hu⟩
  · exact ⟨u, by rw [World.cell?_setCell_other _ _ _ _ (by intro z; simp only [Addr.mk.injEq, and_true] at z; exact e z.symm)]; exact hu⟩
theorem Out.got {x : Nat} (h : Out w A x) (v : Value) : (w.setCell ⟨x, 0, none⟩ v).cell? ⟨x, 0, none⟩ = some v := by
  obtain ⟨_, _, _, _, _, u, hu⟩ := h
  exact World.cell?_setCell_same _ _ _ hu
theorem set_other {x b o' : Nat} {u : Value} (hu : w.cell? ⟨b, o', none⟩ = some u) (hne : b ≠ x) (v : Value) : (w.setCell ⟨x, 0, none⟩ v).cell? ⟨b, o', none⟩ = some u := by
  rw [World.cell?_setCell_other _ _ _ _ (by intro z; simp only [Addr.mk.injEq, and_true] at z; exact hne z.1.symm)]; exact hu
theorem Bxs.set {x : Nat} {l : List (Nat × Value)} (h : Bxs w A l) (hl : ∀ y ∈ l, y.1 ≠ x) (v : Value) : Bxs (w.setCell ⟨x, 0, none⟩ v) A l := fun y hy => ⟨set_other (h y hy).1 (hl y hy) v, (h y hy).2⟩
end
end Go.Proofs.YtcfhanoekniaaaaGreatDoor

namespace Go.Proofs.YtcfhanoekniaaaaGreatDoor
open Go.RowKit Go.Maps

section
variable {w w' w1 w2 V : World} {m : Int} {H : KH} {S : KS} {U : Nat → Nat → Int} {q : Nat} {G : KG} {A A' X : Nat → Prop} {p : Int} {o : Ow}
theorem Stp.inner (hb : Below w.heap.size w V) (st : Stp V w2 (Or2 A X) (Or2 A' X)) (hX : ∀ i, X i → w.heap.size ≤ i) : Stp w w2 A A' :=
  ⟨⟨st.wt.os.trans hb.os, st.wt.tape.trans hb.tape, st.wt.output.trans hb.output, Nat.le_trans hb.size st.wt.size, fun i hi hn => by
    rw [st.wt.block i (Nat.lt_of_lt_of_le hi hb.size) (fun z => by
      rcases z with z | z
      · exact hn z
      · have := hX i z; omega)]
    exact hb.block i hi⟩, fun i hi => by
    rcases st.own i (.inl hi) with z | z
    · rcases z with z | z
      · exact .inl z
      · exact .inr (hX i z)
    · exact .inr (Nat.le_trans hb.size z)⟩
/-- A last store into a box that is newer than the call. -/
theorem Stp.boxed {x : Nat} (st : Stp w w2 A A') (hx : w.heap.size ≤ x) (v : Value) : Stp w (w2.setCell ⟨x, 0, none⟩ v) A A' :=
  ⟨⟨st.wt.os, st.wt.tape, st.wt.output, by simpa [World.setCell] using st.wt.size, fun i hi hn => by
    rw [Below.heap_setCell _ _ _ _ (fun e => by simp only at e; omega)]
    exact st.wt.block i hi hn⟩, st.own⟩
theorem KN.box (h : KN w m H S q A) {x : Nat} (hx : Out w A x) (v : Value) : KN (w.setCell ⟨x, 0, none⟩ v) m H S q A := ⟨h.1.box hx v, h.2⟩
theorem KX.outOf (h : KX w m H S U q A) (_hb : Below w.heap.size w V) {x : Nat} (hx : w.heap.size ≤ x) {v : Value} (hc : V.cell? ⟨x, 0, none⟩ = some v) (hf : V.frozen? ⟨x, 0, none⟩ = false) : Out V A x := by
  obtain ⟨G, k, e⟩ := h
  have g1 := k.ml_lt
  have g2 := k.er_lt
  have g3 := k.zero_lt
  exact ⟨fun z => by have := k.klt x ((e x).1 z); omega, by omega, by omega, by omega, hf, v, hc⟩
theorem frozenUp (hb : Below w.heap.size w V) {x : Nat} (hx : x < w.heap.size) (h : w.frozen? ⟨x, 0, none⟩ = false) : V.frozen? ⟨x, 0, none⟩ = false := by
  rw [World.frozen?_of_block (w := w) (a := ⟨x, 0, none⟩) (hb.block x hx)]; exact h
/-- What Dup tells, and leaves. -/
def fitsF (S : KS) (o : Ow) (n : Int) : Prop := ((usedN (tsJ S o.j) : Nat) : Int) + n ≤ o.m 1
instance (S : KS) (o : Ow) (n : Int) : Decidable (fitsF S o n) := by unfold fitsF; infer_instance
end
end Go.Proofs.YtcfhanoekniaaaaGreatDoor

namespace Go.Proofs.YtcfhanoekniaaaaGreatDoor
open Go.RowKit Go.Maps

section
variable {w w' w1 w2 V : World} {m : Int} {H : KH} {S : KS} {U : Nat → Nat → Int} {q : Nat} {G : KG} {A A' X : Nat → Prop} {p : Int} {o : Ow}
theorem stp_set2 {x y : Nat} {A' : Nat → Prop} (st : Stp w w1 A A') (u v : Value) {X : Nat → Prop} (hX : X x ∧ X y) : Stp w ((w1.setCell ⟨x, 0, none⟩ u).setCell ⟨y, 0, none⟩ v) (Or2 A X) (Or2 A' X) :=
  ⟨⟨st.wt.os, st.wt.tape, st.wt.output, by simpa [World.setCell] using st.wt.size, fun i hi hn => by
    rw [Below.heap_setCell _ _ _ _ (fun e => hn (.inr (by simp only at e; rw [e]; exact hX.2))), Below.heap_setCell _ _ _ _ (fun e => hn (.inr (by simp only at e; rw [e]; exact hX.1)))]
    exact st.wt.block i hi (fun z => hn (.inl z))⟩, fun i hi => by
    rcases hi with z | z
    · rcases st.own i z with y | y
      · exact .inl (.inl y)
      · exact .inr y
    · exact .inl (.inr z)⟩
set_option maxRecDepth 100000 in
set_option maxHeartbeats 4000000 in
theorem KX.pipe1 (h : KX w m H S U q A) (ho : S.O p = some o) (hq : q ≤ 200) {n : Nat} (hN : IsN S.D.E n) {xk xh xa xb : Nat} (hb : Bxs w A [(xk, wp H.kb), (xh, wp (H.hs o.j))]) (hxa : Out w A xa) (hxb : Out w A xb) (hne : xk ≠ xa ∧ xh ≠ xa ∧ xk ≠ xb ∧ xh ≠ xb ∧ xa ≠ xb) :
    Calls Tryz.prog 53 #[wp xk, wp xh, wp xa, wp xb] w fun y w' => ∃ x y9 c D' N', y = .returned (uev c) ∧ PipeO S.D (tsJ S o.j) n x y9 c D' N' ∧ (w'.cell? ⟨xa, 0, none⟩ = some (.int .i64 x) ∧ w'.cell? ⟨xb, 0, none⟩ = some (.int .i64 y9) ∧ ∃ A', Out w' A' xa ∧ Out w' A' xb ∧ KX w' m H (S.files D' o.j N') U (q + 1) A' ∧ Stp w w' (Or2 A (fun i => i = xa ∨ i = xb)) (Or2 A' (fun i => i = xa ∨ i = xb))) := by
  have cells : ∀ {w' : World} {A' : Nat → Prop} {S' : KS} {q' : Nat}, KX w' m H S' U q' A' → S'.O p = some o → Bxs w' A' [(xk, wp H.kb), (xh, wp (H.hs o.j))] → w'.cell? ⟨xk, 0, none⟩ = some (wp H.kb) ∧ w'.cell? ⟨H.kb, 2, none⟩ = some (wp H.f) ∧ w'.cell? ⟨xh, 0, none⟩ = some (wp (H.hs o.j)) ∧ w'.cell? ⟨H.hs o.j, 1, none⟩ = some (wp (H.tb o.j)) := fun h' ho' b' =>
    ⟨(b' (xk, _) (by simp)).1, h'.c2, (b' (xh, _) (by simp)).1, (h'.hd ho').at 1⟩
  have c0 := cells h ho hb
  have hM : Calls Tryz.prog 54 #[wp H.f, wp (H.tb o.j)] w.drew fun y w' => ∃ x y9 c, y = .returned (.tuple #[.int .i64 x, .int .i64 y9, uev c]) ∧ (w'.cell? ⟨xk, 0, none⟩ = some (wp H.kb) ∧ w'.cell? ⟨H.kb, 2, none⟩ = some (wp H.f) ∧ w'.cell? ⟨xh, 0, none⟩ = some (wp (H.hs o.j)) ∧ w'.cell? ⟨H.hs o.j, 1, none⟩ = some (wp (H.tb o.j))) ∧ (w'.frozen? ⟨xa, 0, none⟩ = false ∧ w'.frozen? ⟨xb, 0, none⟩ = false) ∧ (∃ v, w'.cell? ⟨xa, 0, none⟩ = some v) ∧ (∃ v, w'.cell? ⟨xb, 0, none⟩ = some v) ∧ (∃ v, (w'.setCell ⟨xa, 0, none⟩ (.int .i64 x)).cell? ⟨xb, 0, none⟩ = some v) ∧ (∃ v, (w'.setCell ⟨xb, 0, none⟩ (.int .i64 y9)).cell? ⟨xa, 0, none⟩ = some v) ∧ ((w'.setCell ⟨xa, 0, none⟩ (.int .i64 x)).cell? ⟨xk, 0, none⟩ = some (wp H.kb) ∧ (w'.setCell ⟨xa, 0, none⟩ (.int .i64 x)).cell? ⟨H.kb, 2, none⟩ = some (wp H.f) ∧ (w'.setCell ⟨xa, 0, none⟩ (.int .i64 x)).cell? ⟨xh, 0, none⟩ = some (wp (H.hs o.j)) ∧ (w'.setCell ⟨xa, 0, none⟩ (.int .i64 x)).cell? ⟨H.hs o.j, 1, none⟩ = some (wp (H.tb o.j))) ∧ ((w'.setCell ⟨xb, 0, none⟩ (.int .i64 y9)).cell? ⟨xk, 0, none⟩ = some (wp H.kb) ∧ (w'.setCell ⟨xb, 0, none⟩ (.int .i64 y9)).cell? ⟨H.kb, 2, none⟩ = some (wp H.f) ∧ (w'.setCell ⟨xb, 0, none⟩ (.int .i64 y9)).cell? ⟨xh, 0, none⟩ = some (wp (H.hs o.j)) ∧ (w'.setCell ⟨xb, 0, none⟩ (.int .i64 y9)).cell? ⟨H.hs o.j, 1, none⟩ = some (wp (H.tb o.j))) ∧ (((w'.setCell ⟨xa, 0, none⟩ (.int .i64 x)).setCell ⟨xb, 0, none⟩ (.int .i64 y9)).cell? ⟨xk, 0, none⟩ = some (wp H.kb) ∧ ((w'.setCell ⟨xa, 0, none⟩ (.int .i64 x)).setCell ⟨xb, 0, none⟩ (.int .i64 y9)).cell? ⟨H.kb, 2, none⟩ = some (wp H.f) ∧ ((w'.setCell ⟨xa, 0, none⟩ (.int .i64 x)).setCell ⟨xb, 0, none⟩ (.int .i64 y9)).cell? ⟨xh, 0, none⟩ = some (wp (H.hs o.j)) ∧ ((w'.setCell ⟨xa, 0, none⟩ (.int .i64 x)).setCell ⟨xb, 0, none⟩ (.int .i64 y9)).cell? ⟨H.hs o.j, 1, none⟩ = some (wp (H.tb o.j))) ∧ (((w'.setCell ⟨xb, 0, none⟩ (.int .i64 y9)).setCell ⟨xa, 0, none⟩ (.int .i64 x)).cell? ⟨xk, 0, none⟩ = some (wp H.kb) ∧ ((w'.setCell ⟨xb, 0, none⟩ (.int .i64 y9)).setCell ⟨xa, 0, none⟩ (.int .i64 x)).cell? ⟨H.kb, 2, none⟩ = some (wp H.f) ∧ ((w'.setCell ⟨xb, 0, none⟩ (.int .i64 y9)).setCell ⟨xa, 0, none⟩ (.int .i64 x)).cell? ⟨xh, 0, none⟩ = some (wp (H.hs o.j)) ∧ ((w'.setCell ⟨xb, 0, none⟩ (.int .i64 y9)).setCell ⟨xa, 0, none⟩ (.int .i64 x)).cell? ⟨H.hs o.j, 1, none⟩ = some (wp (H.tb o.j))) ∧
      Aside (∃ D' N', PipeO S.D (tsJ S o.j) n x y9 c D' N' ∧ (((w'.setCell ⟨xa, 0, none⟩ (.int .i64 x)).setCell ⟨xb, 0, none⟩ (.int .i64 y9)).cell? ⟨xa, 0, none⟩ = some (.int .i64 x) ∧ ((w'.setCell ⟨xa, 0, none⟩ (.int .i64 x)).setCell ⟨xb, 0, none⟩ (.int .i64 y9)).cell? ⟨xb, 0, none⟩ = some (.int .i64 y9) ∧ ∃ A', Out ((w'.setCell ⟨xa, 0, none⟩ (.int .i64 x)).setCell ⟨xb, 0, none⟩ (.int .i64 y9)) A' xa ∧ Out ((w'.setCell ⟨xa, 0, none⟩ (.int .i64 x)).setCell ⟨xb, 0, none⟩ (.int .i64 y9)) A' xb ∧ KX ((w'.setCell ⟨xa, 0, none⟩ (.int .i64 x)).setCell ⟨xb, 0, none⟩ (.int .i64 y9)) m H (S.files D' o.j N') U (q + 1) A' ∧ Stp w ((w'.setCell ⟨xa, 0, none⟩ (.int .i64 x)).setCell ⟨xb, 0, none⟩ (.int .i64 y9)) (Or2 A (fun i => i = xa ∨ i = xb)) (Or2 A' (fun i => i = xa ∨ i = xb))) ∧ (((w'.setCell ⟨xb, 0, none⟩ (.int .i64 y9)).setCell ⟨xa, 0, none⟩ (.int .i64 x)).cell? ⟨xa, 0, none⟩ = some (.int .i64 x) ∧ ((w'.setCell ⟨xb, 0, none⟩ (.int .i64 y9)).setCell ⟨xa, 0, none⟩ (.int .i64 x)).cell? ⟨xb, 0, none⟩ = some (.int .i64 y9) ∧ ∃ A', Out ((w'.setCell ⟨xb, 0, none⟩ (.int .i64 y9)).setCell ⟨xa, 0, none⟩ (.int .i64 x)) A' xa ∧ Out ((w'.setCell ⟨xb, 0, none⟩ (.int .i64 y9)).setCell ⟨xa, 0, none⟩ (.int .i64 x)) A' xb ∧ KX ((w'.setCell ⟨xb, 0, none⟩ (.int .i64 y9)).setCell ⟨xa, 0, none⟩ (.int .i64 x)) m H (S.files D' o.j N') U (q + 1) A' ∧ Stp w ((w'.setCell ⟨xb, 0, none⟩ (.int .i64 y9)).setCell ⟨xa, 0, none⟩ (.int .i64 x)) (Or2 A (fun i => i = xa ∨ i = xb)) (Or2 A' (fun i => i = xa ∨ i = xb)))) := by
    refine ((h.below (bel_drew w)).pipeT (h.jlt ho) hq hN).mono ?_
    rintro y w' ⟨D', N', ⟨x, y9, c, rfl, hP⟩, A', h', st⟩
    have st' : Stp w w' A A' := Stp.base (V := w.drew) rfl rfl rfl rfl st
    have ha' := hxa.stp st'
    have hb9 := hxb.stp st'
    have hb' := hb.stp st'
    have nea : ∀ y ∈ [(xk, wp H.kb), (xh, wp (H.hs o.j))], (y : Nat × Value).1 ≠ xa := fun y hy => by
      simp at hy
      rcases hy with rfl | rfl <;> first | exact hne.1 | exact hne.2.1
    have neb : ∀ y ∈ [(xk, wp H.kb), (xh, wp (H.hs o.j))], (y : Nat × Value).1 ≠ xb := fun y hy => by
      simp at hy
      rcases hy with rfl | rfl <;> first | exact hne.2.2.1 | exact hne.2.2.2.1
    have ka := h'.box ha' (.int .i64 x)
    have kb := h'.box hb9 (.int .i64 y9)
    have kab := ka.box (hb9.set (y := xa) (.int .i64 x)) (.int .i64 y9)
    have kba := kb.box (ha'.set (y := xb) (.int .i64 y9)) (.int .i64 x)
    have ba := hb'.set (x := xa) nea (.int .i64 x)
    have bb := hb'.set (x := xb) neb (.int .i64 y9)
    have bab := ba.set (x := xb) neb (.int .i64 y9)
    have bba := bb.set (x := xa) nea (.int .i64 x)
    refine ⟨x, y9, c, rfl, cells h' ho hb', ⟨ha'.2.2.2.2.1, hb9.2.2.2.2.1⟩, ha'.2.2.2.2.2, hb9.2.2.2.2.2, (hb9.set (y := xa) (.int .i64 x)).2.2.2.2.2, (ha'.set (y := xb) (.int .i64 y9)).2.2.2.2.2, cells ka ho ba, cells kb ho bb, cells kab ho bab, cells kba ho bba, D', N', hP, ⟨set_other (ha'.got _) hne.2.2.2.2 _, (hb9.set _).got _, A', (ha'.set _).set _, (hb9.set _).set _, kab, stp_set2 st' _ _ ⟨.inl rfl, .inr rfl⟩⟩, ⟨(ha'.set _).got _, set_other (hb9.got _) (Ne.symm hne.2.2.2.2) _, A', (ha'.set _).set _, (hb9.set _).set _, kba, stp_set2 st' _ _ ⟨.inr rfl, .inl rfl⟩⟩⟩
  clear h ho cells hb hxa hxb hN
  go_enter Tryz.func53, Tryz.ntmps53
  go_upto_region 1 with fail
  go_region_held3 (fun w' => w'.cell? ⟨xk, 0, none⟩ = some (wp H.kb) ∧ w'.cell? ⟨H.kb, 2, none⟩ = some (wp H.f) ∧ w'.cell? ⟨xh, 0, none⟩ = some (wp (H.hs o.j)) ∧ w'.cell? ⟨H.hs o.j, 1, none⟩ = some (wp (H.tb o.j))) (first | exact c0 | exact c1 | exact c3 | exact c4 | exact c5 | exact c6) (first
    | (go_at_call 54; refine hM.mono ?_; rintro e w1 ⟨x, y9, c, rfl, c1, ⟨f1, f2⟩, ⟨v1, hv1⟩, ⟨v2, hv2⟩, ⟨v3, hv3⟩, ⟨v4, hv4⟩, c3, c4, c5, c6, hR⟩))
  all_goals
    clear c0 c1 c3 c4 c5 c6 hM f1 f2 hv1 hv2 hv3 hv4
    go_wp2_with fail
    go_ret
    obtain ⟨D', N', hP, r1, r2⟩ := hR.out
    first
      | exact ⟨x, y9, c, D', N', rfl, hP, r1⟩
      | exact ⟨x, y9, c, D', N', rfl, hP, r2⟩
/-- What Pipe tells, and leaves. -/
def PipeR (S : KS) (o : Ow) (n : Nat) (x y c : Int) (S' : KS) : Prop := (¬ fitsF S o 2 ∧ x = 0 ∧ y = 0 ∧ c = 4 ∧ S' = S) ∨ (fitsF S o 2 ∧ ∃ D' N', PipeO S.D (tsJ S o.j) n x y c D' N' ∧ S' = S.files D' o.j N')
set_option maxRecDepth 100000 in
set_option maxHeartbeats 4000000 in
theorem KN.pipe_yes (h : KN w m H S q A) (ho : S.O p = some o) (hq : q ≤ 200) {n : Nat} (hN : IsN S.D.E n) :
    Calls Tryz.prog 13 #[wp H.kb, .int .i64 p] w fun y w' => ∃ x y9 c S', y = .returned (.tuple #[.int .i64 x, .int .i64 y9, uev c]) ∧ PipeR S o n x y9 c S' ∧ ∃ A', KN w' m H S' (q + 1) A' ∧ Stp w w' A A' := by
  have hpay : ∀ (V : World) (xk xh xa xb : Nat), Below w.heap.size w V → Bxs V A [(xk, wp H.kb), (xh, wp (H.hs o.j))] → xk ≠ xa ∧ xh ≠ xa ∧ xk ≠ xb ∧ xh ≠ xb ∧ xa ≠ xb → w.heap.size ≤ xa ∧ w.heap.size ≤ xb → Out V A xa → Out V A xb → V.cell? ⟨xa, 0, none⟩ = some (.int .i64 0) → V.cell? ⟨xb, 0, none⟩ = some (.int .i64 0) →
      Calls Tryz.prog 52 #[wp (H.hs o.j), .int .i64 1, .int .i64 2, .func (.func 53) #[] #[wp xk, wp xh, wp xa, wp xb]] V fun y w' => ∃ x y9 c, y = .returned (uev c) ∧ (w'.cell? ⟨xa, 0, none⟩ = some (.int .i64 x) ∧ w'.cell? ⟨xb, 0, none⟩ = some (.int .i64 y9) ∧ w'.frozen? ⟨xa, 0, none⟩ = false ∧ w'.frozen? ⟨xb, 0, none⟩ = false) ∧ Aside (∀ W : World, W.heap = w'.heap → W.os = w'.os → W.tape = w'.tape → W.output = w'.output → (((W.setCell ⟨xa, 0, none⟩ (.int .i64 x)).setCell ⟨xb, 0, none⟩ (.int .i64 y9)).cell? ⟨xa, 0, none⟩ = some (.int .i64 x) ∧ ((W.setCell ⟨xa, 0, none⟩ (.int .i64 x)).setCell ⟨xb, 0, none⟩ (.int .i64 y9)).cell? ⟨xb, 0, none⟩ = some (.int .i64 y9) ∧ Aside (∃ S', PipeR S o n x y9 c S' ∧ ∃ A', KN ((W.setCell ⟨xa, 0, none⟩ (.int .i64 x)).setCell ⟨xb, 0, none⟩ (.int .i64 y9)) m H S' (q + 1) A' ∧ Stp w ((W.setCell ⟨xa, 0, none⟩ (.int .i64 x)).setCell ⟨xb, 0, none⟩ (.int .i64 y9)) A A')) ∧ (((W.setCell ⟨xb, 0, none⟩ (.int .i64 y9)).setCell ⟨xa, 0, none⟩ (.int .i64 x)).cell? ⟨xa, 0, none⟩ = some (.int .i64 x) ∧ ((W.setCell ⟨xb, 0, none⟩ (.int .i64 y9)).setCell ⟨xa, 0, none⟩ (.int .i64 x)).cell? ⟨xb, 0, none⟩ = some (.int .i64 y9) ∧ Aside (∃ S', PipeR S o n x y9 c S' ∧ ∃ A', KN ((W.setCell ⟨xb, 0, none⟩ (.int .i64 y9)).setCell ⟨xa, 0, none⟩ (.int .i64 x)) m H S' (q + 1) A' ∧ Stp w ((W.setCell ⟨xb, 0, none⟩ (.int .i64 y9)).setCell ⟨xa, 0, none⟩ (.int .i64 x)) A A'))) := fun V xk xh xa xb bV bx hne hxo hA9 hB9 hz hy => by
    have hxl : xa < V.heap.size := World.block_lt_of_cell? V _ hz
    have hyl : xb < V.heap.size := World.block_lt_of_cell? V _ hy
    have fin : ∀ (w2 : World) (x y9 c : Int) (S' : KS) (A2 : Nat → Prop), w2.cell? ⟨xa, 0, none⟩ = some (.int .i64 x) → w2.cell? ⟨xb, 0, none⟩ = some (.int .i64 y9) → PipeR S o n x y9 c S' → KN w2 m H S' (q + 1) A2 → Stp w w2 A A2 → Out w2 A2 xa → Out w2 A2 xb → ∀ W : World, W.heap = w2.heap → W.os = w2.os → W.tape = w2.tape → W.output = w2.output → (((W.setCell ⟨xa, 0, none⟩ (.int .i64 x)).setCell ⟨xb, 0, none⟩ (.int .i64 y9)).cell? ⟨xa, 0, none⟩ = some (.int .i64 x) ∧ ((W.setCell ⟨xa, 0, none⟩ (.int .i64 x)).setCell ⟨xb, 0, none⟩ (.int .i64 y9)).cell? ⟨xb, 0, none⟩ = some (.int .i64 y9) ∧ Aside (∃ S', PipeR S o n x y9 c S' ∧ ∃ A', KN ((W.setCell ⟨xa, 0, none⟩ (.int .i64 x)).setCell ⟨xb, 0, none⟩ (.int .i64 y9)) m H S' (q + 1) A' ∧ Stp w ((W.setCell ⟨xa, 0, none⟩ (.int .i64 x)).setCell ⟨xb, 0, none⟩ (.int .i64 y9)) A A')) ∧ (((W.setCell ⟨xb, 0, none⟩ (.int .i64 y9)).setCell ⟨xa, 0, none⟩ (.int .i64 x)).cell? ⟨xa, 0, none⟩ = some (.int .i64 x) ∧ ((W.setCell ⟨xb, 0, none⟩ (.int .i64 y9)).setCell ⟨xa, 0, none⟩ (.int .i64 x)).cell? ⟨xb, 0, none⟩ = some (.int .i64 y9) ∧ Aside (∃ S', PipeR S o n x y9 c S' ∧ ∃ A', KN ((W.setCell ⟨xb, 0, none⟩ (.int .i64 y9)).setCell ⟨xa, 0, none⟩ (.int .i64 x)) m H S' (q + 1) A' ∧ Stp w ((W.setCell ⟨xb, 0, none⟩ (.int .i64 y9)).setCell ⟨xa, 0, none⟩ (.int .i64 x)) A A')) := fun w2 x y9 c S' A2 ca cb hP k2 st2 oa ob W e1 e2 e3 e4 => by
      have bW : Below w2.heap.size w2 W := ⟨e2, e3, e4, by rw [e1]; exact Nat.le_refl _, fun i _ => by rw [e1]⟩
      have kW := k2.below bW
      have stW : Stp w W A A2 := st2.up e1 e2 e3 e4
      have oaW := oa.stp (.below bW)
      have obW := ob.stp (.below bW)
      refine ⟨⟨set_other (oaW.got _) hne.2.2.2.2 _, (obW.set _).got _, S', hP, A2, (kW.box oaW _).box (obW.set _) _, (stW.boxed hxo.1 _).boxed hxo.2 _⟩, ⟨(oaW.set _).got _, set_other (obW.got _) (Ne.symm hne.2.2.2.2) _, S', hP, A2, (kW.box obW _).box (oaW.set _) _, (stW.boxed hxo.2 _).boxed hxo.1 _⟩⟩
    have keepB : ∀ {w2 w3 : World} {z : Nat} {v : Value}, Out V A z → w2.cell? ⟨z, 0, none⟩ = some v → w2.grownBy w3 (some (H.hs o.j)) → w3.heap[z]? = w2.heap[z]? := fun hz9 h4 g => g.block _ (World.block_lt_of_cell? _ _ h4) (fun e => by
        have := hz9.1
        have e2 := Option.some.inj e
        obtain ⟨G, k, hκ⟩ := h.1
        exact this ((hκ _).2 (by rw [e2, k.k5 p o ho]; omega)))
    refine (KX.payFirst (h.below bV) ho (n := 2) ⟨by omega, by omega⟩ (fn := 53) (lb := #[wp xk, wp xh, wp xa, wp xb]) (fun args w => by kernel_rfl) (X := (fun i => i = xa ∨ i = xb)) (fun i hi => by rcases hi with rfl | rfl <;> assumption) (Q := fun c D' N' w2 => ∃ x y9, PipeO S.D (tsJ S o.j) n x y9 c D' N' ∧ w2.cell? ⟨xa, 0, none⟩ = some (.int .i64 x) ∧ w2.cell? ⟨xb, 0, none⟩ = some (.int .i64 y9) ∧ w2.frozen? ⟨xa, 0, none⟩ = false ∧ w2.frozen? ⟨xb, 0, none⟩ = false) ?_ ?_).mono ?_
    · rintro c D' N' w2 w3 ⟨x, y9, h1, h4, h5, h6, h7⟩ g
      have ka := keepB hA9 h4 g
      have kb := keepB hB9 h5 g
      exact ⟨x, y9, h1, by rw [World.cell?_of_block (w := w2) (a := ⟨xa, 0, none⟩) ka]; exact h4, by rw [World.cell?_of_block (w := w2) (a := ⟨xb, 0, none⟩) kb]; exact h5, by rw [World.frozen?_of_block (w := w2) (a := ⟨xa, 0, none⟩) ka]; exact h6, by rw [World.frozen?_of_block (w := w2) (a := ⟨xb, 0, none⟩) kb]; exact h7⟩
    · intro V1 k1 st1
      refine (k1.pipe1 ho hq hN (bx.stp st1) (hA9.stp st1) (hB9.stp st1) hne).mono ?_
      rintro y w2 ⟨x, y9, c, D', N', rfl, hP, ca, cb, A2, oa, ob, k2, st2⟩
      obtain ⟨u1, u2⟩ := used_pipe (h.1.tlen o.j) (fun z hz => by rw [ts_at (h.1.jlt ho)] at hz; exact h.1.inv.nn (h.1.jlt ho) z hz) h.1.inv.core.giv.n0 hP
      refine ⟨_, _, _, rfl, ⟨x, y9, hP, ca, cb, oa.2.2.2.2.1, ob.2.2.2.2.1⟩, fun e => ?_, fun e => ?_, A2, fun i hi => by
        rcases hi with rfl | rfl
        · exact oa.1
        · exact ob.1, k2, st2⟩
      · rw [u1 e]; rfl
      · exact ⟨(u2 e).2.2.1, (u2 e).2.2.2⟩
    · rintro y w2 ⟨c, rfl, hR⟩
      rcases hR with ⟨hc, rfl, A2, k2, st2⟩ | ⟨hc, D', N', ⟨x, y9, hP, h4, h5, h6, h7⟩, A2, nA, k2, st2⟩
      · have oa := hA9.stp st2
        have ob := hB9.stp st2
        have za : w2.cell? ⟨xa, 0, none⟩ = some (.int .i64 0) := (st2.cellKept hz hA9.1).1
        have zb : w2.cell? ⟨xb, 0, none⟩ = some (.int .i64 0) := (st2.cellKept hy hB9.1).1
        exact ⟨0, 0, 4, rfl, ⟨za, zb, oa.2.2.2.2.1, ob.2.2.2.2.1⟩, fin w2 0 0 4 S A2 za zb (.inl ⟨hc, rfl, rfl, rfl, rfl⟩) (k2.more (by omega)) (st2.after bV) oa ob⟩
      · have oa : Out w2 A2 xa := ⟨nA xa (.inl rfl), hA9.2.1, hA9.2.2.1, hA9.2.2.2.1, h6, _, h4⟩
        have ob : Out w2 A2 xb := ⟨nA xb (.inr rfl), hB9.2.1, hB9.2.2.1, hB9.2.2.2.1, h7, _, h5⟩
        exact ⟨x, y9, c, rfl, ⟨h4, h5, h6, h7⟩, fin w2 x y9 c _ A2 h4 h5 (.inr ⟨hc, D', N', hP, rfl⟩) k2 (Stp.inner bV st2 (fun i hi => by rcases hi with rfl | rfl; exact hxo.1; exact hxo.2)) oa ob⟩
  have hF := fun W (hb : Below w.heap.size w W) => (h.1.below hb).find_yes ho
  have hA := h.1.lt
  have hO := fun V (hb : Below w.heap.size w V) x v hx hc hf => h.1.outOf (V := V) hb (x := x) hx (v := v) hc hf
  have HP : Aside _ := hpay
  have HF : Aside _ := hF
  have HO : Aside _ := hO
  clear h ho hpay hF hO hN hq
  go_enter Tryz.func13, Tryz.ntmps13
  go_upto_region 1 with fail
  obtain ⟨b3, s3, c1, c2, c3⟩ := box3 w (wp H.kb) (.int .i64 0) (.int .i64 0) 25 3 3
  have f3 := (box1 ((w.alloc (.cells #[wp H.kb] 25)).alloc (.cells #[.int .i64 0] 3)) (.int .i64 0) 3).2.2.2
  rw [(box2 w (wp H.kb) (.int .i64 0) 25 3).2.1] at f3
  have f2 : (((w.alloc (.cells #[wp H.kb] 25)).alloc (.cells #[.int .i64 0] 3)).alloc (.cells #[.int .i64 0] 3)).frozen? ⟨w.heap.size + 1, 0, none⟩ = false := by
    have := (box1 (w.alloc (.cells #[wp H.kb] 25)) (.int .i64 0) 3).2.2.2
    rw [(box1 w (wp H.kb) 25).2.1] at this
    exact frozenUp ((Below.refl _ _).alloc (Nat.le_refl _) _) (by rw [(box2 w (wp H.kb) (.int .i64 0) 25 3).2.1]; omega) this
  generalize ((w.alloc (.cells #[wp H.kb] 25)).alloc (.cells #[.int .i64 0] 3)).alloc (.cells #[.int .i64 0] 3) = W at *
  have hF := HF.out W b3
  clear HF
  go_upto_region 4 with (go_at_call 51; refine hF.mono ?_; rintro e w1 ⟨rfl, hw⟩; subst w1)
  obtain ⟨b4, s4, c4, _⟩ := box1 W (wp (H.hs o.j)) 99
  rw [s3] at c4
  have d1 := cellsUp b4 c1
  have d2 := cellsUp b4 c2
  have d3 := cellsUp b4 c3
  have f4 := frozenUp b4 (World.block_lt_of_cell? W _ c3) f3
  have f5 := frozenUp b4 (World.block_lt_of_cell? W _ c2) f2
  generalize W.alloc (.cells #[wp (H.hs o.j)] 99) = V at *
  have bV : Below w.heap.size w V := b3.trans (b4.mono b3.size)
  have hP := HP.out V w.heap.size (w.heap.size + 1 + 1 + 1) (w.heap.size + 1) (w.heap.size + 1 + 1) bV (fun y hy => by
    have hn : ∀ i, w.heap.size ≤ i → ¬ A i := fun i hi z => by have := hA i z; omega
    simp only [List.mem_cons, List.not_mem_nil, or_false] at hy
    rcases hy with rfl | rfl
    · exact ⟨d1, hn _ (Nat.le_refl _)⟩
    · exact ⟨c4, hn _ (by omega)⟩) ⟨by omega, by omega, by omega, by omega, by omega⟩ ⟨by omega, by omega⟩ (HO.out V bV _ _ (by omega) d2 f5) (HO.out V bV _ _ (by omega) d3 f4) d2 d3
  clear HP HO c1 c2 c3 f2 f3 f4 f5 hF b3 b4 bV s3 s4 d1 d2 d3
  go_upto_region 5 with (go_at_call 52; refine hP.mono ?_; rintro e w1 ⟨x, y9, c, rfl, ⟨g1, g2, g3, g4⟩, hR⟩)
  clear hP c4
  have ya := World.cell?_setCell_same w1 ⟨w.heap.size + 1, 0, none⟩ (.int .i64 x) g1
  have yb := World.cell?_setCell_same w1 ⟨w.heap.size + 1 + 1, 0, none⟩ (.int .i64 y9) g2
  obtain ⟨⟨_, yab, _⟩, ⟨yba, _, _⟩⟩ := hR.out w1 rfl rfl rfl rfl
  have YA : Aside _ := ya
  have YB : Aside _ := yb
  have YAB : Aside _ := yab
  have YBA : Aside _ := yba
  clear ya yb yab yba
  go_region
  all_goals
    go_wp2_with fail
    obtain ⟨⟨z1, z2, z3⟩, ⟨z4, z5, z6⟩⟩ := hR.out w1.drew rfl rfl rfl rfl
    first
      | (obtain ⟨S', hF, hR⟩ := z3.out
         refine bodyPost_ret (v := .tuple #[.int .i64 x, .int .i64 y9, uev c]) (by simp [results, Tryz.results13, go_sem, YA.out, YAB.out]) rfl ⟨x, y9, c, S', rfl, hF, hR⟩)
      | (obtain ⟨S', hF, hR⟩ := z6.out
         refine bodyPost_ret (v := .tuple #[.int .i64 x, .int .i64 y9, uev c]) (by simp [results, Tryz.results13, go_sem, z4, z5, YA.out, YB.out, YAB.out, YBA.out]) rfl ⟨x, y9, c, S', rfl, hF, hR⟩)
end
end Go.Proofs.YtcfhanoekniaaaaGreatDoor

namespace Go.Proofs.YtcfhanoekniaaaaGreatDoor
open Go.RowKit Go.Maps

/-- What 1 may have at first. -/
def firstM : Nat → Int := fun k => if k = 0 then 64 else if k = 1 then 8 else if k = 2 then 200 else 0
def zeroU : Nat → Int := fun _ => 0
def limTo (j : Nat) : Nat → Int := fun k => if k < j then firstM k else 0
section
variable {w w' : World} {m : Int} {E : St} {D : Nat → Nat → Int} {A : Nat → Prop} {o : Int → Nat}
set_option maxRecDepth 100000 in
set_option maxHeartbeats 4000000 in
theorem newHolding_ok (h : Vs E w D (Rof o) A) :
    Calls Tryz.prog 49 #[wp E.b] w fun y w' => ∃ wa c gc, y = .returned (.tuple #[wp (wa.heap.size + 1), .nilIface]) ∧ VS E wa c gc D A (fun _ => none) o ∧ Below w.heap.size w wa ∧ w.heap.size ≤ c ∧ w.heap.size ≤ gc ∧ Below (wa.alloc (.cells (nv zeroN).toArray 216)).heap.size (wa.alloc (.cells (nv zeroN).toArray 216)) w' ∧ Hd w' (wa.heap.size + 1) c wa.heap.size zeroU firstM 0 := by
  have hN := newSpace_ok h
  clear h
  go_enter Tryz.func49, Tryz.ntmps49
  go_upto_region 5 with (go_at_call 133; refine hN.mono ?_; rintro e wa ⟨c, rfl, gc, hv, hb, hc, hg⟩)
  have hT : (.cells #[.int .i64 0, .bool false, .int .i64 0, .bool false, .int .i64 0, .bool false, .int .i64 0, .bool false, .int .i64 0, .bool false, .int .i64 0, .bool false, .int .i64 0, .bool false, .int .i64 0, .bool false] 216 : Obj) = .cells (nv zeroN).toArray 216 := rfl
  rw [hT]
  have s0 : (wa.alloc (.cells (nv zeroN).toArray 216)).heap.size = wa.heap.size + 1 := by show (wa.heap.push _).size = _; rw [Array.size_push]
  have hd0 : Hd ((wa.alloc (.cells (nv zeroN).toArray 216)).alloc (.cells (hcs c wa.heap.size zeroU (limTo 0) 0) 115)) (wa.heap.size + 1) c wa.heap.size zeroU (limTo 0) 0 := by
    unfold Hd
    rw [← s0]
    show ((wa.alloc _).heap.push _)[(wa.alloc _).heap.size]? = _
    rw [Array.getElem?_push, if_pos rfl]
  have b0 : Below (wa.alloc (.cells (nv zeroN).toArray 216)).heap.size (wa.alloc (.cells (nv zeroN).toArray 216)) ((wa.alloc (.cells (nv zeroN).toArray 216)).alloc (.cells (hcs c wa.heap.size zeroU (limTo 0) 0) 115)) := (Below.refl _ _).alloc (Nat.le_refl _) _
  have hH : (.cells #[vp c, .pointer (some ⟨wa.heap.size, 0, none⟩), .int .i64 0, .int .i64 0, .int .i64 0, .int .i64 0, .int .i64 0, .int .i64 0, .int .i64 0] 115 : Obj) = .cells (hcs c wa.heap.size zeroU (limTo 0) 0) 115 := rfl
  rw [hH]
  clear hT hH hN
  generalize hW0 : wa.alloc (.cells (nv zeroN).toArray 216) = W0 at *
  have HW0 : Aside _ := hW0
  clear hW0
  generalize W0.alloc (.cells (hcs c wa.heap.size zeroU (limTo 0) 0) 115) = W1 at *
  have HV : Aside (VS E wa c gc D A (fun _ => none) o) := hv
  have HB : Aside (Below w.heap.size w wa) := hb
  have HW : Aside (W0.heap.size = wa.heap.size + 1) := s0
  clear hv hb s0
  go_wp2_with fail
  go_loopg [24] 3 (fun k s24 wr => ∃ j : Nat, j + k = 3 ∧ s24 = .int .i64 j ∧ Aside (Hd wr (wa.heap.size + 1) c wa.heap.size zeroU (limTo j) 0 ∧ Below W0.heap.size W0 wr))
  case atStart => exact ⟨0, rfl, rfl, hd0, b0⟩
  case round =>
    obtain ⟨j, hj, rfl, hA⟩ := hrel
    clear hd0 b0
    have step : ∀ k : Nat, k < 3 → Hd wr (wa.heap.size + 1) c wa.heap.size zeroU (limTo k) 0 → Below W0.heap.size W0 wr → Calls Tryz.prog 120 #[lq (wa.heap.size + 1), .int .i64 (k : Int), .int .i64 (firstM k)] wr fun e w' => e = .returned .nilIface ∧ Aside (Hd w' (wa.heap.size + 1) c wa.heap.size zeroU (limTo (k + 1)) 0 ∧ Below W0.heap.size W0 w') := fun k hk hd bb => by
      have hf : 0 ≤ firstM k ∧ firstM k ≤ 1000000 := by
        match k, hk with
        | 0, _ | 1, _ | 2, _ => decide
      have e0 : limE k (firstM k) = 0 := by unfold limE; rw [if_neg (by omega), if_neg (by omega)]
      refine (hd.limit k (firstM k)).mono ?_
      rintro e w' ⟨rfl, hd', g⟩
      refine ⟨by rw [e0]; rfl, ?_, below_of_grown bb g (by have := HW.out; omega)⟩
      have e1 : limM (limTo k) k (firstM k) = limTo (k + 1) := by
        unfold limM
        rw [if_pos e0, Int.toNat_natCast]
        funext i
        unfold put limTo
        by_cases e : i = k
        · rw [if_pos e, if_pos (by omega), e]
        · rw [if_neg e]
          by_cases e2 : i < k
          · rw [if_pos e2, if_pos (by omega)]
          · rw [if_neg e2, if_neg (by omega)]
      rw [e1] at hd'
      exact hd'
    have hA' := hA.out
    by_cases h3 : j < 3
    · obtain ⟨hd, bb⟩ := hA'
      have hjj : j = 0 ∨ j = 1 ∨ j = 2 := by omega
      rcases hjj with rfl | rfl | rfl
      all_goals
        have hL := step _ h3 hd bb
        simp only [firstM] at hL
        clear step hA hd bb
        have i0 : (Instr.index 47 (.agg #[.int .i64 64, .int .i64 8, .int .i64 200]) (.int .i64 0)).run Tryz.prog wr = .ok (.int .i64 64) wr := by kernel_rfl
        have i1 : (Instr.index 47 (.agg #[.int .i64 64, .int .i64 8, .int .i64 200]) (.int .i64 1)).run Tryz.prog wr = .ok (.int .i64 8) wr := by kernel_rfl
        have i2 : (Instr.index 47 (.agg #[.int .i64 64, .int .i64 8, .int .i64 200]) (.int .i64 2)).run Tryz.prog wr = .ok (.int .i64 200) wr := by kernel_rfl
        go_wp2_with (go_at_call 120; refine hL.mono ?_; rintro e w1 ⟨rfl, hR⟩)
        go_roundg (gk - 1)
        case measure => omega
        case rel => exact ⟨_, by omega, by go_num, hR⟩
    · have hj3 : j = 3 := by omega
      subst hj3
      obtain ⟨hd, bb⟩ := hA'
      have e1 : limTo 3 = firstM := by
        funext i
        unfold limTo firstM
        by_cases e : i < 3
        · rw [if_pos e]
        · rw [if_neg e, if_neg (by omega), if_neg (by omega), if_neg (by omega)]
      rw [e1] at hd
      have HR : Aside _ := (⟨hd, bb⟩ : Hd wr (wa.heap.size + 1) c wa.heap.size zeroU firstM 0 ∧ Below W0.heap.size W0 wr)
      clear hA step hd bb e1
      go_wp2_with fail
      go_ret2
      exact ⟨wa, c, gc, rfl, HV.out, HB.out, hc, hg, by rw [HW0.out]; exact HR.out.2, HR.out.1⟩
end
/-- A kernel at first. -/
def firstS (n : Nat) : KS := ⟨n, firstJ, noneD nullT, [zeroN], [noP], fun _ _ => 0, fun p => if p = 1 then some ⟨0, firstM, 0⟩ else none⟩
theorem firstS_ok (n : Nat) : KOk (firstS n) := by
  refine ⟨fun p => ?_, fun j hj hn => ?_, fun p o e => ?_⟩
  · show (if p = 1 then some (⟨0, firstM, 0⟩ : Ow) else none).isSome = runsJ firstJ p
    unfold runsJ stJ firstJ
    by_cases e : p = 1
    · rw [if_pos e, if_pos e]; rfl
    · rw [if_neg e, if_neg e]; rfl
  · have : j = 0 := by
      have : j < 1 := hj
      omega
    exact absurd this.symm (hn 1 ⟨0, firstM, 0⟩ rfl)
  · have e : (if p = 1 then some (⟨0, firstM, 0⟩ : Ow) else none) = some o := e
    split at e
    · cases e
      refine ⟨fun k => ?_, by show (-100 : Int) ≤ 0; omega, by show (0 : Int) ≤ 100; omega⟩
      show 0 ≤ firstM k ∧ firstM k ≤ 1000000
      unfold firstM
      split
      · omega
      · split
        · omega
        · split <;> omega
    · cases e
open Classical in
theorem KM.first {ok : Bool} {w0 w : World} {m : Int} {E : St} {Av Ad : Nat → Prop} {n c gc f r tb hb t g gm kb : Nat} (hn : E.n = n)
    (v : VS E w c gc (fun _ _ => 0) Av (fun _ => none) (fun _ => 0)) (kd : KD w m f r (noneD nullT) [tb] [zeroN] 0 Ad) (qj : QJ w t g firstJ 1)
    (head : w.heap[kb]? = some (.cells #[wp E.b, wp r, wp f, wp t, .map (some gm)] 106)) (pm : PMap w gm 1 (fun p => if p = 1 then some (wp hb) else none)) (hd : Hd w hb c tb zeroU firstM 0) (tab : TabH ok w)
    (hv : ∀ i, vown E Av i → w0.heap.size ≤ i) (hA : ∀ i, Ad i → w0.heap.size ≤ i ∧ ¬ vown E Av i ∧ i ≠ gc ∧ i ≠ c ∧ i ≠ E.b ∧ i ≠ E.bm ∧ i ≠ g ∧ i ≠ gm ∧ i ≠ hb ∧ i ≠ kb ∧ i ≠ t)
    (h1 : ¬ vown E Av g ∧ ¬ vown E Av gm ∧ ¬ vown E Av hb ∧ ¬ vown E Av kb ∧ ¬ vown E Av t) (h2 : gc ≠ g ∧ gc ≠ gm ∧ gc ≠ hb ∧ gc ≠ kb ∧ gc ≠ t ∧ gc ≠ c) (h3 : g ≠ gm ∧ g ≠ hb ∧ g ≠ kb ∧ g ≠ E.b ∧ g ≠ E.bm ∧ g ≠ t ∧ g ≠ c) (h4 : gm ≠ hb ∧ gm ≠ kb ∧ gm ≠ E.b ∧ gm ≠ E.bm ∧ gm ≠ t ∧ gm ≠ c) (h5 : hb ≠ kb ∧ hb ≠ E.b ∧ hb ≠ E.bm ∧ hb ≠ t ∧ hb ≠ c)
    (h6 : w0.heap.size ≤ g ∧ w0.heap.size ≤ gm ∧ w0.heap.size ≤ hb ∧ w0.heap.size ≤ kb ∧ w0.heap.size ≤ t ∧ w0.heap.size ≤ c ∧ w0.heap.size ≤ gc ∧ w0.heap.size ≤ E.b ∧ w0.heap.size ≤ E.bm) (h7 : 4 < w0.heap.size ∧ 0 < w0.heap.size ∧ 2 < w0.heap.size) :
    ∃ A, KN w m ⟨kb, E.b, f, r, t, g, gm, fun _ => hb, fun _ => c, fun _ => tb, ok⟩ (firstS n) 0 A ∧ ∀ i, A i → w0.heap.size ≤ i := by
  let κ : Nat → Nat := fun i => if vown E Av i ∨ i = gc then 1 else if Ad i then 2 else if i = g then 3 else if i = gm then 4 else if i = hb then 5 else if i = kb ∨ i = E.b ∨ i = E.bm ∨ i = t ∨ i = c then 6 else 0
  have st := v.st
  have hO : ∀ p o, (firstS n).O p = some o → p = 1 ∧ o = ⟨0, firstM, 0⟩ := fun p o e => by
    have e : (if p = 1 then some (⟨0, firstM, 0⟩ : Ow) else none) = some o := e
    split at e
    · rename_i z; cases e; exact ⟨z, rfl⟩
    · cases e
  have al := Al.first v
  have k6 : ∀ i, (i = kb ∨ i = E.b ∨ i = E.bm ∨ i = t ∨ i = c) → ¬ vown E Av i → i ≠ gc → κ i = 6 := fun i hi hn hg => by
    have n2 : ¬ Ad i := fun z => by
      obtain ⟨_, _, _, a1, a2, a3, _, _, _, a4, a5⟩ := hA i z
      rcases hi with e | e | e | e | e
      · exact a4 e
      · exact a2 e
      · exact a3 e
      · exact a5 e
      · exact a1 e
    have n3 : i ≠ g ∧ i ≠ gm ∧ i ≠ hb := by
      rcases hi with e | e | e | e | e
      · rw [e]; exact ⟨Ne.symm h3.2.2.1, Ne.symm h4.2.1, Ne.symm h5.1⟩
      · rw [e]; exact ⟨Ne.symm h3.2.2.2.1, Ne.symm h4.2.2.1, Ne.symm h5.2.1⟩
      · rw [e]; exact ⟨Ne.symm h3.2.2.2.2.1, Ne.symm h4.2.2.2.1, Ne.symm h5.2.2.1⟩
      · rw [e]; exact ⟨Ne.symm h3.2.2.2.2.2.1, Ne.symm h4.2.2.2.2.1, Ne.symm h5.2.2.2.1⟩
      · rw [e]; exact ⟨Ne.symm h3.2.2.2.2.2.2, Ne.symm h4.2.2.2.2.2, Ne.symm h5.2.2.2.2⟩
    show (if vown E Av i ∨ i = gc then 1 else if Ad i then 2 else if i = g then 3 else if i = gm then 4 else if i = hb then 5 else if i = kb ∨ i = E.b ∨ i = E.bm ∨ i = t ∨ i = c then 6 else 0) = 6
    rw [if_neg (by rintro (z | z); exact hn z; exact hg z), if_neg n2, if_neg n3.1, if_neg n3.2.1, if_neg n3.2.2, if_pos hi]
  have k0 : ∀ i, i < w0.heap.size → κ i = 0 := fun i hi => by
    clear h2 h3 h4 h5 h1 k6 hO
    obtain ⟨a1, a2, a3, a4, a5, a6, a7, a8, a9⟩ := h6
    show (if vown E Av i ∨ i = gc then 1 else if Ad i then 2 else if i = g then 3 else if i = gm then 4 else if i = hb then 5 else if i = kb ∨ i = E.b ∨ i = E.bm ∨ i = t ∨ i = c then 6 else 0) = 0
    rw [if_neg (by rintro (z | z); have := hv i z; omega; omega), if_neg (fun z => by have := (hA i z).1; omega), if_neg (by omega), if_neg (by omega), if_neg (by omega), if_neg (by omega)]
  have hκ : ∀ i, κ i ≠ 0 → w0.heap.size ≤ i := fun i hi => by
    apply Classical.byContradiction
    intro z
    exact hi (k0 i (by omega))
  refine ⟨fun i => κ i ≠ 0, ⟨⟨⟨E, Av, [(c, gc, fun _ => none)], [tb], Ad, κ⟩, ?_, fun _ => Iff.rfl⟩, firstS_ok n⟩, hκ⟩
  refine
    { head := head
      eb := rfl
      en := hn
      al := al
      ms := rfl
      sp := fun j h => by
        have : j = 0 := by simp at h; omega
        subst this; rfl
      kd := kd
      tb := fun j h => by
        have : j = 0 := by simp at h; omega
        subst this; rfl
      qj := ⟨1, qj⟩
      map := ⟨1, ?_⟩
      hold := fun p o e => ?_
      hinj := fun p o p' o' e e' _ => by rw [(hO p o e).1, (hO p' o' e').1]
      len := rfl
      lt := fun p o e => by rw [(hO p o e).2]; show 0 < 1; omega
      key := fun p o e => by rw [(hO p o e).1]; omega
      tab := tab
      nx := by show (0 : Int) ≤ 3 * ((0 : Nat) : Int); omega
      few := by show 1 ≤ 0 + 1; omega
      k1 := fun i hi => ?_
      k2 := fun i hi => ?_
      k3 := ?_
      k4 := ?_
      k5 := fun p o e => ?_
      kk := k6 kb (.inl rfl) h1.2.2.2.1 (Ne.symm h2.2.2.2.1)
      kE := k6 E.b (.inr (.inl rfl)) st.bno (Ne.symm v.gb)
      kB := k6 E.bm (.inr (.inr (.inl rfl))) st.mno (Ne.symm v.gm)
      kt := k6 t (.inr (.inr (.inr (.inl rfl)))) h1.2.2.2.2 (Ne.symm h2.2.2.2.2.1)
      ks := fun j _ => k6 c (.inr (.inr (.inr (.inr rfl)))) v.offc (Ne.symm h2.2.2.2.2.2)
      km := k0 _ h7.1
      ke := k0 _ h7.2.1
      kd0 := k0 _ h7.2.2
      klt := fun i hi => ?_ }
  · have e : (fun p => ((firstS n).O p).map (fun _ => wp hb)) = fun p => if p = 1 then some (wp hb) else none := by
      funext p
      show (if p = 1 then some (⟨0, firstM, 0⟩ : Ow) else none).map _ = _
      split <;> rfl
    show PMap w gm 1 (fun p => ((firstS n).O p).map (fun _ => wp hb))
    rw [e]; exact pm
  · obtain ⟨rfl, rfl⟩ := hO p o e
    refine Hd.congr hd (fun k hk => ?_)
    have z1 : lenP noP = 0 := lenP_none
    have z2 : usedN zeroN = 0 := by decide
    show (0 : Int) = if k = 0 then ((lenP noP : Nat) : Int) else if k = 1 then ((usedN zeroN : Nat) : Int) else 0
    rw [z1, z2]
    split
    · rfl
    · split <;> rfl
  · show (if vown E Av i ∨ i = gc then 1 else _) = 1
    rw [if_pos]
    rcases hi with z | ⟨x, hx, e⟩
    · exact .inl z
    · simp at hx; subst hx; exact .inr e
  · obtain ⟨_, a1, a2, _⟩ := hA i hi
    show (if vown E Av i ∨ i = gc then 1 else if Ad i then 2 else _) = 2
    rw [if_neg (by rintro (z | z); exact a1 z; exact a2 z), if_pos hi]
  · show (if vown E Av g ∨ g = gc then 1 else if Ad g then 2 else if g = g then 3 else _) = 3
    rw [if_neg (by rintro (z | z); exact h1.1 z; exact h2.1 z.symm), if_neg (fun z => (hA g z).2.2.2.2.2.2.1 rfl), if_pos rfl]
  · show (if vown E Av gm ∨ gm = gc then 1 else if Ad gm then 2 else if gm = g then 3 else if gm = gm then 4 else _) = 4
    rw [if_neg (by rintro (z | z); exact h1.2.1 z; exact h2.2.1 z.symm), if_neg (fun z => (hA gm z).2.2.2.2.2.2.2.1 rfl), if_neg (Ne.symm h3.1), if_pos rfl]
  · show (if vown E Av hb ∨ hb = gc then 1 else if Ad hb then 2 else if hb = g then 3 else if hb = gm then 4 else if hb = hb then 5 else _) = 5
    rw [if_neg (by rintro (z | z); exact h1.2.2.1 z; exact h2.2.2.1 z.symm), if_neg (fun z => (hA hb z).2.2.2.2.2.2.2.2.1 rfl), if_neg (Ne.symm h3.2.1), if_neg (Ne.symm h4.1), if_pos rfl]
  · have hi : (if vown E Av i ∨ i = gc then 1 else if Ad i then 2 else if i = g then 3 else if i = gm then 4 else if i = hb then 5 else if i = kb ∨ i = E.b ∨ i = E.bm ∨ i = t ∨ i = c then 6 else 0) ≠ 0 := hi
    split at hi
    · rename_i z
      rcases z with z | z
      · exact st.olt z
      · rw [z]; exact v.sp.glt
    · split at hi
      · rename_i z; exact kd.lt i z
      · split at hi
        · rename_i z; rw [z]; exact qj.map.lt
        · split at hi
          · rename_i z; rw [z]; exact pm.lt
          · split at hi
            · rename_i z; rw [z]; exact hd.lt
            · split at hi
              · rename_i z
                rcases z with z | z | z | z | z
                · rw [z]; exact lt_of_heap head
                · rw [z]; exact st.blt
                · rw [z]; exact st.mlt
                · rw [z]; exact qj.toQM.tlt
                · rw [z]; exact v.sp.lt
              · exact absurd rfl hi
end Go.Proofs.YtcfhanoekniaaaaGreatDoor

namespace Go.Proofs.YtcfhanoekniaaaaGreatDoor
open Go.RowKit Go.Maps

section
variable {w w' : World} {m : Int}
set_option maxRecDepth 100000 in
set_option maxHeartbeats 4000000 in
theorem kernelNew_ok {ok : Bool} (w : World) (n : Nat) (h1 : 1 ≤ n) (h2 : n ≤ 256) (hm : w.cell? ⟨4, 0, none⟩ = some (.int .i64 m)) (he : w.cell? ⟨0, 0, none⟩ = some errT) (ht : TabH ok w) :
    Calls Tryz.prog 12 #[.int .i64 (n : Int)] w fun y w' => ∃ H A, y = .returned (.tuple #[wp H.kb, .nilIface]) ∧ KN w' m H (firstS n) 0 A ∧ (∀ i, A i → w.heap.size ≤ i) ∧ Below w.heap.size w w' ∧ H.ok = ok := by
  have g1 := World.block_lt_of_cell? w _ hm
  have g2 := World.block_lt_of_cell? w _ he
  have g3 := ht.lt
  have chain : Calls Tryz.prog 46 #[.int .i64 (n : Int)] w fun y w1 => ∃ b, y = .returned (.tuple #[wp b, .nilIface]) ∧ Calls Tryz.prog 47 #[] w1 fun y w2 => ∃ r, y = .returned (wp r) ∧ Calls Tryz.prog 48 #[wp r] w2 fun y w3 => ∃ f, y = .returned (.tuple #[wp f, .nilIface]) ∧ Calls Tryz.prog 49 #[wp b] w3 fun y w4 => ∃ hb, y = .returned (.tuple #[wp hb, .nilIface]) ∧ Calls Tryz.prog 50 #[] w4 fun y w5 => ∃ t, y = .returned (wp t) ∧ ∃ w6, (Instr.mapUpdate 104 (.map (some w5.heap.size)) (.int .i64 1) (wp hb)).run Tryz.prog (w5.alloc (.map #[] 0)) = .ok () w6 ∧ Aside (∃ H A, (H.kb = w6.heap.size ∧ H.ok = ok) ∧ KN (w6.alloc (.cells #[wp b, wp r, wp f, wp t, .map (some w5.heap.size)] 106)) m H (firstS n) 0 A ∧ (∀ i, A i → w.heap.size ≤ i) ∧ Below w.heap.size w (w6.alloc (.cells #[wp b, wp r, wp f, wp t, .map (some w5.heap.size)] 106))) := by
    refine (newStore_ok2 w n h1 h2).mono ?_
    rintro y w1 ⟨b, rfl, E, Av, rfl, hEn, vs1, b1, hv1, hbE, hmw⟩
    refine ⟨E.b, rfl, (KW.first w1 (m := m) (cell_below hm b1) (cell_below he b1)).mono ?_⟩
    rintro y w2 ⟨r, rfl, b2, hD⟩
    refine ⟨r, rfl, hD.mono ?_⟩
    rintro y w3 ⟨f, rfl, Ad, kd3, hAd, b13⟩
    have b3 : Below w.heap.size w w3 := b1.trans (b13.mono b1.size)
    have vs3 : Vs E w3 (fun _ _ => 0) (Rof fun _ => 0) Av := vs1.below b13
    refine ⟨f, rfl, (newHolding_ok vs3).mono ?_⟩
    rintro y w4 ⟨wa, c, gc, rfl, va, ba, hc, hgc, b4, hd4⟩
    have hba := ba.size
    have s0 : (wa.alloc (.cells (nv zeroN).toArray 216)).heap.size = wa.heap.size + 1 := by show (wa.heap.push _).size = _; rw [Array.size_push]
    have bT : Below wa.heap.size wa (wa.alloc (.cells (nv zeroN).toArray 216)) := (Below.refl _ _).alloc (Nat.le_refl _) _
    have ba4 : Below wa.heap.size wa w4 := bT.trans (b4.mono bT.size)
    have kdT := (kd3.below ba).table (by simp)
    have kd4 : KD w4 m f r (noneD nullT) [wa.heap.size] [zeroN] 0 (fun i => Ad i ∨ i = wa.heap.size) := kdT.below b4
    have v4 := va.below ba4
    have h41 := b4.size
    rw [s0] at h41
    have hdl : wa.heap.size + 1 < w4.heap.size := hd4.lt
    refine ⟨wa.heap.size + 1, rfl, (newTJ_ok w4).mono ?_⟩
    rintro y w5 ⟨t, g, rfl, qj5, b5, htl, hgl⟩
    have p0 : PMap (w5.alloc (.map #[] 0)) w5.heap.size 0 (fun _ => none) := PMap.made w5
    have bM : Below w5.heap.size w5 (w5.alloc (.map #[] 0)) := (Below.refl _ w5).alloc (Nat.le_refl _) _
    have sM : (w5.alloc (.map #[] 0)).heap.size = w5.heap.size + 1 := by show (w5.heap.push _).size = _; rw [Array.size_push]
    obtain ⟨w6, hrun, q6, g6⟩ := p0.put Tryz.underlying104 (by unfold maxLen; omega) 1 (by decide) (wp (wa.heap.size + 1))
    have b6 : Below w5.heap.size w5 w6 := below_of_grown bM g6 (Nat.le_refl _)
    have h61 : w5.heap.size + 1 ≤ w6.heap.size := by have := g6.size; rw [sM] at this; exact this
    have bK : Below w6.heap.size w6 (w6.alloc (.cells #[wp E.b, wp r, wp f, wp t, .map (some w5.heap.size)] 106)) := (Below.refl _ _).alloc (Nat.le_refl _) _
    have b5K : Below w5.heap.size w5 (w6.alloc (.cells #[wp E.b, wp r, wp f, wp t, .map (some w5.heap.size)] 106)) := b6.trans (bK.mono b6.size)
    have b4K := b5.trans (b5K.mono b5.size)
    have head : (w6.alloc (.cells #[wp E.b, wp r, wp f, wp t, .map (some w5.heap.size)] 106)).heap[w6.heap.size]? = some (.cells #[wp E.b, wp r, wp f, wp t, .map (some w5.heap.size)] 106) := by
      show (w6.heap.push _)[w6.heap.size]? = _
      rw [Array.getElem?_push, if_pos rfl]
    have q6' : PMap w6 w5.heap.size 1 (fun p => if p = 1 then some (wp (wa.heap.size + 1)) else none) := q6
    have pm := q6'.keep (bK.block _ q6'.lt)
    have bw1 := b1.size
    have bw13 := b13.size
    have bw5 := b5.size
    have hvlt : ∀ i, vown E Av i → w.heap.size ≤ i ∧ i < w1.heap.size := fun i hi => ⟨Nat.le_of_not_lt (fun z => hv1 i z hi), vs1.olt hi⟩
    have hAlt : ∀ i, (Ad i ∨ i = wa.heap.size) → w1.heap.size ≤ i ∧ i < wa.heap.size + 1 ∧ (i < w3.heap.size ∨ i = wa.heap.size) := fun i hi => by
      rcases hi with z | z
      · have := hAd i z; have := kd3.lt i z; exact ⟨by omega, by omega, .inl (by omega)⟩
      · exact ⟨by omega, by omega, .inr z⟩
    have hbl := vs1.blt
    have hml := vs1.mlt
    have hcl := va.sp.lt
    have hgl2 := va.sp.glt
    have htl5 := qj5.toQM.tlt
    have hgl5 := qj5.map.lt
    have htg := qj5.toQM.gt
    have hcg := va.sp.ne
    obtain ⟨A, kn, hA⟩ := KM.first (w0 := w) (m := m) hEn (v4.below b4K) (kd4.below b4K) ⟨qj5.toQM.below b5K, qj5.ok, qj5.dj⟩ head pm (hd4.below b4K) (ht.keep ((b3.trans ((ba.trans (ba4.mono ba.size)).mono b3.size |>.trans (b4K.mono (by omega)))).block _ g3)) (fun i hi => (hvlt i hi).1) (fun i hi => by
      obtain ⟨a1, a2, a3⟩ := hAlt i hi
      have n1 : ¬ vown E Av i := fun z => by have := hvlt i z; omega
      exact ⟨by omega, n1, by omega, by omega, by omega, by omega, by omega, by omega, by omega, by omega, by omega⟩)
      ⟨fun z => by have := hvlt _ z; omega, fun z => by have := hvlt _ z; omega, fun z => by have := hvlt _ z; omega, fun z => by have := hvlt _ z; omega, fun z => by have := hvlt _ z; omega⟩
      ⟨by omega, by omega, by omega, by omega, by omega, Ne.symm hcg⟩ ⟨by omega, by omega, by omega, by omega, by omega, htg, by omega⟩ ⟨by omega, by omega, by omega, by omega, by omega, by omega⟩ ⟨by omega, by omega, by omega, by omega, by omega⟩ ⟨by omega, by omega, by omega, by omega, by omega, by omega, by omega, by omega, hmw⟩ ⟨g1, g2, g3⟩
    refine ⟨t, rfl, w6, hrun, _, A, ⟨rfl, rfl⟩, kn, hA, ?_⟩
    exact (b3.trans (ba.mono b3.size)).trans ((ba4.trans (b4K.mono ba4.size)).mono (by omega))
  have hmm := @run_makeMap Tryz.prog
  clear hm he ht g1 g2 g3 h1 h2
  go_enter Tryz.func12, Tryz.ntmps12
  go_upto_region 11 with (first
    | (go_at_call 46; refine chain.mono ?_; rintro e w1 ⟨b, rfl, c1⟩)
    | (go_at_call 47; refine c1.mono ?_; rintro e w2 ⟨r, rfl, c2⟩)
    | (go_at_call 48; refine c2.mono ?_; rintro e w3 ⟨f, rfl, c3⟩)
    | (go_at_call 49; refine c3.mono ?_; rintro e w4 ⟨hb, rfl, c4⟩))
  clear chain c1 c2 c3
  go_wp2_with (go_at_call 50; refine c4.mono ?_; rintro e w5 ⟨t, rfl, w6, hrun, hR⟩)
  go_ret2
  obtain ⟨H, A, hk, kn, hA, bb⟩ := hR.out
  exact ⟨H, A, by rw [hk.1]; rfl, kn, hA, bb, hk.2⟩
end
end Go.Proofs.YtcfhanoekniaaaaGreatDoor
