/- A kernel: one more is born: spaces, tables, holdings beside each other. -/
import Derived.Test.YtcfhanoekniaaaaGreatDoorZEnd
namespace Go.Proofs.YtcfhanoekniaaaaGreatDoor
open Go.RowKit Go.Maps

/-- Where things lie, with one more. -/
def KH.add (H : KH) (j s t b : Nat) : KH := { H with hs := fun i => if i = j then b else H.hs i, sp := fun i => if i = j then s else H.sp i, tb := fun i => if i = j then t else H.tb i }
/-- One more birth, nobody's yet. -/
def KS.born (S : KS) (j : Nat) : KS := { S with D := forkD S.D (tsJ S j), Ts := S.Ts ++ [tsJ S j], Ms := S.Ms ++ [msJ S j] }
section
variable {w w' w1 w2 : World} {m : Int} {H : KH} {S : KS} {U : Nat → Nat → Int} {q : Nat} {G : KG} {A : Nat → Prop} {p : Int} {o : Ow}
theorem nx_fork (D : DS) (N : Ns) : (forkD D N).nx = D.nx := by
  unfold forkD
  have : ∀ (l : Ns) (D : DS), (l.foldl (fun D x => if 0 < x.1 then incR D x.1 else D) D).nx = D.nx := fun l => by
    induction l with
    | nil => intro D; rfl
    | cons x r ih =>
      intro D
      rw [List.foldl_cons, ih]
      split <;> rfl
  exact this N D
theorem KM.forked (h : KM w m H S U q G) (hq : q ≤ 90) (ho : S.O p = some o) (hj : o.j < G.L.length) {c' gc' : Nat} (t1 : ATurn G.E w G.Av G.L w1 S.W (G.L ++ [(c', gc', G.L[o.j].2.2)])) (hc' : w.heap.size ≤ c') (hc1 : c' < w1.heap.size) :
    Calls Tryz.prog 140 #[wp H.f, wp (H.tb o.j)] w1 fun y w2 => ∃ t', y = .returned (wp t') ∧ Hd w2 (H.hs o.j) (H.sp o.j) (H.tb o.j) (U o.j) o.m o.adj ∧
      ∃ G', KM (w2.alloc (.cells (hcs c' t' (U o.j) o.m o.adj) 115)) m (H.add S.Ts.length c' t' w2.heap.size) (S.born o.j) U (q + 1) G' ∧ G'.κ w2.heap.size = 5 ∧ (∀ p' o', S.O p' = some o' → H.hs o'.j < w2.heap.size) ∧ Stp w (w2.alloc (.cells (hcs c' t' (U o.j) o.m o.adj) 115)) (fun i => G.κ i ≠ 0) (fun i => G'.κ i ≠ 0) := by
  obtain ⟨Av1, a1, f1, sub1⟩ := t1
  have wt1 : Wt (fun i => G.κ i = 1) w w1 := ⟨f1.os, f1.tape, f1.output, f1.size, fun i hi hn => f1.block i hi (fun ho => hn (h.k1 i ho))⟩
  have k1 := h.kept (X := 1) ⟨by omega, by omega⟩ wt1
  have hjT : o.j < S.Ts.length := by rw [← h.Ll]; exact hj
  have hjb : o.j < G.bs.length := by rw [h.Lb]; exact hjT
  have hfew := h.few
  have hF := (k1.kd (by omega)).fork (by omega) hjb
  rw [h.tb _ hjb] at hF
  refine hF.mono ?_
  rintro y w2 ⟨Ad', rfl, kd2, st2⟩
  have hPj : G.L[o.j].2.2 = msJ S o.j := by
    rw [ms_at (by rw [h.len]; exact hjT)]
    have : S.Ms = G.L.map (fun x => x.2.2) := h.ms.symm
    simp only [this, List.getElem_map]
  have hAd : ∀ i, G.Ad i → i < w.heap.size := fun i hi => h.klt i (by rw [h.k2 i hi]; omega)
  -- what neither turned
  have hb : ∀ i c, G.κ i = c → c ≠ 0 → c ≠ 1 → c ≠ 2 → w2.heap[i]? = w.heap[i]? := fun i c e h0 h1 h2 => by
    have hi : i < w.heap.size := h.klt i (by omega)
    rw [st2.wt.block i (Nat.lt_of_lt_of_le hi f1.size) (fun z => h2 (by rw [← e]; exact h.k2 i z))]
    exact wt1.block i hi (fun z => h1 (by rw [← e]; exact z))
  have hz : ∀ i, G.κ i = 0 → i < w.heap.size → w2.heap[i]? = w.heap[i]? := fun i e hi => by
    rw [st2.wt.block i (Nat.lt_of_lt_of_le hi f1.size) (fun z => by have := h.k2 i z; omega)]
    exact wt1.block i hi (fun z => by omega)
  have hsz : w.heap.size ≤ w2.heap.size := Nat.le_trans f1.size st2.wt.size
  have hd2 : ∀ p' o', S.O p' = some o' → Hd w2 (H.hs o'.j) (H.sp o'.j) (H.tb o'.j) (U o'.j) o'.m o'.adj := fun p' o' ho' => (h.hold p' o' ho').keep (hb _ 5 (h.k5 p' o' ho') (by omega) (by omega) (by omega))
  have a2 : Al G.E w2 S.W Av1 (G.L ++ [(c', gc', G.L[o.j].2.2)]) := by
    have hno : ∀ i, i < w1.heap.size → ¬ G.Ad i → w2.heap[i]? = w1.heap[i]? := fun i hi hn => st2.wt.block i hi hn
    refine a1.keep (fun i hi => hno i (a1.olt hi) (fun z => ?_)) (hno _ a1.st.blt (fun z => ?_)) (hno _ a1.st.mlt (fun z => ?_)) (fun i hi => hno _ (a1.sp i hi).sp.lt (fun z => ?_))
    · have := h.k1 i (sub1 i (hAd i z) hi)
      have := h.k2 i z; omega
    · have := h.k2 _ z; have := h.kE; omega
    · have := h.k2 _ z; have := h.kB; omega
    · by_cases e : i < G.L.length
      · rw [List.getElem_append_left e] at z
        rw [h.sp i e] at z
        have := h.k2 _ z; have := h.ks i (by rw [← h.Ll]; exact e); omega
      · have e2 : i = G.L.length := by simp at hi; omega
        subst e2
        simp only [List.getElem_concat_length] at z
        have := hAd _ z; omega
  let κ' : Nat → Nat := fun i => if i < w.heap.size then G.κ i else if i = c' then 6 else if i = w2.heap.size then 5 else if i < w1.heap.size then 1 else if i < w2.heap.size then 2 else 0
  have ko : ∀ {i c}, c ≠ 0 → G.κ i = c → κ' i = c := fun {i c} hc e => by
    show (if i < w.heap.size then G.κ i else _) = c
    rw [if_pos (h.klt i (by omega))]; exact e
  have kz : ∀ {i}, i < w.heap.size → G.κ i = 0 → κ' i = 0 := fun {i} hi e => by
    show (if i < w.heap.size then G.κ i else _) = 0
    rw [if_pos hi]; exact e
  have hw2 : w1.heap.size ≤ w2.heap.size := st2.wt.size
  have hcne : c' ≠ w2.heap.size := by omega
  have bA : Below w2.heap.size w2 (w2.alloc (.cells (hcs c' w1.heap.size (U o.j) o.m o.adj) 115)) := (Below.refl _ w2).alloc (Nat.le_refl _) _
  have hA3 : (w2.alloc (.cells (hcs c' w1.heap.size (U o.j) o.m o.adj) 115)).heap.size = w2.heap.size + 1 := by show (w2.heap.push _).size = _; rw [Array.size_push]
  obtain ⟨c, qj⟩ := h.qj
  obtain ⟨z, hm⟩ := h.map
  have hlen : S.Ts.length = G.L.length := h.Ll.symm
  have hLc : (G.L ++ [(c', gc', G.L[o.j].2.2)]).length = S.Ts.length + 1 := by simp [hlen]
  have kc' : κ' c' = 6 := by
    show (if c' < w.heap.size then _ else if c' = c' then 6 else _) = 6
    rw [if_neg (by omega), if_pos rfl]
  have kb' : κ' w2.heap.size = 5 := by
    show (if w2.heap.size < w.heap.size then _ else if w2.heap.size = c' then _ else if w2.heap.size = w2.heap.size then 5 else _) = 5
    rw [if_neg (by omega), if_neg (by omega), if_pos rfl]
  have kO : ∀ p' o', S.O p' = some o' → o'.j ≠ S.Ts.length := fun p' o' ho' => by have := h.lt p' o' ho'; omega
  have hsO : ∀ p' o', S.O p' = some o' → (H.add S.Ts.length c' w1.heap.size w2.heap.size).hs o'.j = H.hs o'.j := fun p' o' ho' => if_neg (kO p' o' ho')
  refine ⟨w1.heap.size, rfl, hd2 p o ho, ⟨G.E, Av1, G.L ++ [(c', gc', G.L[o.j].2.2)], G.bs ++ [w1.heap.size], Ad', κ'⟩, ?_, kb', fun p' o' ho' => (hd2 p' o' ho').lt, ?_⟩
  · refine
      { head := (bA.block _ (lt_of_heap ((hb _ 6 h.kk (by omega) (by omega) (by omega)).trans h.head))).trans ((hb _ 6 h.kk (by omega) (by omega) (by omega)).trans h.head)
        eb := h.eb
        en := h.en
        al := a2.below bA
        ms := ?_
        sp := fun x hx => ?_
        kd := ?_
        tb := fun x hx => ?_
        qj := ⟨c, ⟨(qj.toQM.keep (hb _ 6 h.kt (by omega) (by omega) (by omega)) (hb _ 3 h.k3 (by omega) (by omega) (by omega))).below bA, qj.ok, qj.dj⟩⟩
        map := ⟨z, ?_⟩
        hold := fun p' o' ho' => ?_
        hinj := fun p1 o1 p2 o2 e1 e2 e3 => ?_
        len := ?_
        lt := fun p' o' ho' => ?_
        key := h.key
        tab := (h.tab.keep (hz _ h.kd0 h.tab.lt)).keep (bA.block _ (h.tab.keep (hz _ h.kd0 h.tab.lt)).lt)
        nx := ?_
        few := ?_
        k1 := fun i hi => ?_
        k2 := fun i hi => ?_
        k3 := ko (by omega) h.k3
        k4 := ko (by omega) h.k4
        k5 := fun p' o' ho' => ?_
        kk := ko (by omega) h.kk
        kE := ko (by omega) h.kE
        kB := ko (by omega) h.kB
        kt := ko (by omega) h.kt
        ks := fun x hx => ?_
        km := kz h.ml_lt h.km
        ke := kz h.er_lt h.ke
        kd0 := kz h.zero_lt h.kd0
        klt := fun i hi => ?_ }
    · show (G.L ++ [(c', gc', G.L[o.j].2.2)]).map _ = S.Ms ++ [msJ S o.j]
      rw [List.map_append, h.ms, List.map_cons, List.map_nil, hPj]
    · by_cases e : x < G.L.length
      · have : (G.L ++ [(c', gc', G.L[o.j].2.2)])[x] = G.L[x] := List.getElem_append_left e
        simp only [this]
        rw [h.sp x e]
        show _ = if x = S.Ts.length then c' else H.sp x
        rw [if_neg (by omega)]
      · have e2 : x = G.L.length := by simp at hx; omega
        subst e2
        simp only [List.getElem_concat_length]
        show _ = if G.L.length = S.Ts.length then c' else _
        rw [if_pos hlen.symm]
    · have k3 := (kd2.below bA).more (k' := 2 * (q + 1)) (by omega)
      have e : forkD S.D (S.Ts[o.j]'hjT) = (S.born o.j).D := by show _ = forkD S.D (tsJ S o.j); rw [ts_at hjT]
      have e2 : S.Ts ++ [S.Ts[o.j]'hjT] = (S.born o.j).Ts := by show _ = S.Ts ++ [tsJ S o.j]; rw [ts_at hjT]
      rw [← e, ← e2]
      exact k3
    · by_cases e : x < G.bs.length
      · have : (G.bs ++ [w1.heap.size])[x] = G.bs[x] := List.getElem_append_left e
        simp only [this]
        rw [h.tb x e]
        show _ = if x = S.Ts.length then _ else H.tb x
        rw [if_neg (by have := h.Lb; omega)]
      · have e2 : x = G.bs.length := by simp at hx; omega
        subst e2
        simp only [List.getElem_concat_length]
        show _ = if G.bs.length = S.Ts.length then w1.heap.size else _
        rw [if_pos h.Lb]
    · have e : (fun x => (S.O x).map (fun o => wp ((H.add S.Ts.length c' w1.heap.size w2.heap.size).hs o.j))) = fun x => (S.O x).map (fun o => wp (H.hs o.j)) := by
        funext x
        cases hx : S.O x with
        | none => rfl
        | some o' => show some (wp ((H.add S.Ts.length c' w1.heap.size w2.heap.size).hs o'.j)) = some (wp (H.hs o'.j)); rw [hsO x o' hx]
      show PMap _ H.gm z (fun x => (S.O x).map (fun o => wp ((H.add S.Ts.length c' w1.heap.size w2.heap.size).hs o.j)))
      rw [e]
      have h4 := hm.keep (hb _ 4 h.k4 (by omega) (by omega) (by omega))
      exact h4.keep (bA.block _ h4.lt)
    · have e1 := hsO p' o' ho'
      have e2 : (H.add S.Ts.length c' w1.heap.size w2.heap.size).sp o'.j = H.sp o'.j := if_neg (kO p' o' ho')
      have e3 : (H.add S.Ts.length c' w1.heap.size w2.heap.size).tb o'.j = H.tb o'.j := if_neg (kO p' o' ho')
      rw [e1, e2, e3]
      exact (hd2 p' o' ho').below bA
    · rw [hsO p1 o1 e1, hsO p2 o2 e2] at e3
      exact h.hinj p1 o1 p2 o2 e1 e2 e3
    · show (S.Ms ++ [_]).length = (S.Ts ++ [_]).length
      rw [List.length_append, List.length_append, h.len]; rfl
    · show o'.j < (S.Ts ++ [_]).length
      rw [List.length_append]; have := h.lt p' o' ho'; omega
    · show (forkD S.D (tsJ S o.j)).nx ≤ _
      rw [nx_fork]; have := h.nx; omega
    · show (S.Ts ++ [_]).length ≤ _
      rw [List.length_append]; show S.Ts.length + 1 ≤ _; omega
    · have hi' := a1.olt hi
      by_cases e : i < w.heap.size
      · exact ko (by omega) (h.k1 i (sub1 i e hi))
      · have hne : i ≠ c' := fun ec => by
          subst ec
          have hLl : G.L.length < (G.L ++ [(i, gc', G.L[o.j].2.2)]).length := by simp
          have hs := (a1.sp G.L.length hLl)
          have e9 : (G.L ++ [(i, gc', G.L[o.j].2.2)])[G.L.length] = (i, gc', G.L[o.j].2.2) := by simp
          rcases hi with hi | ⟨x, hx, hxe⟩
          · have := hs.offc
            rw [e9] at this
            exact this hi
          · obtain ⟨j9, hj9, rfl⟩ := List.mem_iff_getElem.1 hx
            have h1 := hs.sp.head
            rw [e9] at h1
            obtain ⟨es, cl, hm9⟩ := (a1.sp j9 hj9).sp.map.isMap
            have : w1.heap[i]? = some (.map es cl) := by rw [hxe]; exact hm9
            simp only at h1
            rw [this] at h1; cases h1
        show (if i < w.heap.size then _ else if i = c' then _ else if i = w2.heap.size then _ else if i < w1.heap.size then 1 else _) = 1
        rw [if_neg e, if_neg hne, if_neg (by omega), if_pos hi']
    · have hi' := kd2.lt i hi
      rcases st2.own i hi with z | z
      · exact ko (by omega) (h.k2 i z)
      · show (if i < w.heap.size then _ else if i = c' then _ else if i = w2.heap.size then _ else if i < w1.heap.size then _ else if i < w2.heap.size then 2 else _) = 2
        rw [if_neg (by have := f1.size; omega), if_neg (by omega), if_neg (by omega), if_neg (by omega), if_pos hi']
    · rw [hsO p' o' ho']
      exact ko (by omega) (h.k5 p' o' ho')
    · have hx' : x < S.Ts.length + 1 := by
        have : x < (S.Ts ++ [tsJ S o.j]).length := hx
        simpa using this
      show κ' (if x = S.Ts.length then c' else H.sp x) = 6
      by_cases e : x = S.Ts.length
      · rw [if_pos e]; exact kc'
      · rw [if_neg e]; exact ko (by omega) (h.ks x (by omega))
    · rw [hA3]
      have hi : κ' i ≠ 0 := hi
      by_cases e : i < w.heap.size
      · omega
      · by_cases e1 : i = c'
        · omega
        · by_cases e2 : i = w2.heap.size
          · omega
          · have : κ' i = if i < w1.heap.size then 1 else if i < w2.heap.size then 2 else 0 := by
              show (if i < w.heap.size then _ else if i = c' then _ else if i = w2.heap.size then _ else if i < w1.heap.size then 1 else if i < w2.heap.size then 2 else 0) = _
              rw [if_neg e, if_neg e1, if_neg e2]
            rw [this] at hi
            split at hi
            · omega
            · split at hi
              · omega
              · exact absurd rfl hi
  · refine ⟨⟨bA.os.trans (st2.wt.os.trans f1.os), bA.tape.trans (st2.wt.tape.trans f1.tape), bA.output.trans (st2.wt.output.trans f1.output), by rw [hA3]; omega, fun i hi hn => ?_⟩, fun i hi => ?_⟩
    · rw [bA.block i (by omega)]
      exact hz i (by simpa using hn) hi
    · by_cases e : i < w.heap.size
      · left
        have hi : κ' i ≠ 0 := hi
        have : κ' i = G.κ i := if_pos e
        rw [this] at hi; exact hi
      · exact .inr (by omega)
/-- It has an owner now. -/
theorem KM.put (h : KM w m H S U q G) {k : Int} (hk : S.O k = none) (hk24 : 1 ≤ k ∧ k ≤ 24) {o' : Ow} (hj : o'.j < S.Ts.length) (h5 : G.κ (H.hs o'.j) = 5) (hfree : ∀ p o, S.O p = some o → H.hs o.j ≠ H.hs o'.j) {U' : Nat → Int} (hd : Hd w (H.hs o'.j) (H.sp o'.j) (H.tb o'.j) U' o'.m o'.adj) :
    ∃ w', (Instr.mapUpdate 104 (.map (some H.gm)) (.int .i64 k) (wp (H.hs o'.j))).run Tryz.prog w = .ok () w' ∧ ∃ G', KM w' m H (S.own k o') (fun i => if i = o'.j then U' else U i) q G' ∧ Stp w w' (fun i => G.κ i ≠ 0) (fun i => G'.κ i ≠ 0) := by
  obtain ⟨z, hm⟩ := h.map
  have hzl : z < maxLen := by
    have := (hm.isN).few (B := 24) (by omega) (fun x hx => by
      rw [Option.isSome_map] at hx
      obtain ⟨o9, h9⟩ := Option.isSome_iff_exists.1 hx
      have := h.key x o9 h9; omega)
    unfold maxLen; omega
  obtain ⟨w', hrun, hm', g⟩ := hm.put Tryz.underlying104 hzl k (wf24 hk24) (wp (H.hs o'.j))
  have wt : Wt (fun i => G.κ i = 4) w w' := ⟨g.os, g.tape, g.output, g.size, fun i hi hn => g.block i hi (fun e => hn (by cases e; exact h.k4))⟩
  have kp := h.kept (X := 4) ⟨by omega, by omega⟩ wt
  have hklt := h.klt
  have keep : ∀ {i c}, c ≠ 0 → G.κ i = c → tg G.κ 4 w w' i = c := fun hc e => tg_keep hklt hc e
  have hO : ∀ x o9, putO S.O k o' x = some o9 → (x = k ∧ o9 = o') ∨ (x ≠ k ∧ S.O x = some o9) := fun x o9 e => by
    by_cases ex : x = k
    · rw [ex, putO_same] at e; exact .inl ⟨ex, (Option.some.inj e).symm⟩
    · rw [putO_ne ex] at e; exact .inr ⟨ex, e⟩
  refine ⟨w', hrun, ⟨G.E, G.Av, G.L, G.bs, G.Ad, tg G.κ 4 w w'⟩, ⟨kp.head, h.eb, h.en, kp.al (by omega), h.ms, h.sp, kp.kd (by omega), h.tb, kp.qj (by omega), ?_, fun x o9 e => ?_, fun x o1 y o2 e1 e2 e3 => ?_, h.len, fun x o9 e => ?_, fun x o9 e => ?_, kp.tab, h.nx, h.few, fun i hi => keep (by omega) (h.k1 i hi), fun i hi => keep (by omega) (h.k2 i hi), keep (by omega) h.k3, keep (by omega) h.k4, fun x o9 e => ?_, keep (by omega) h.kk, keep (by omega) h.kE, keep (by omega) h.kB, keep (by omega) h.kt, fun x hx => keep (by omega) (h.ks x hx), tg_zero h.ml_lt h.km, tg_zero h.er_lt h.ke, tg_zero h.zero_lt h.kd0, tg_lt hklt wt.size⟩, tg_stp wt (by omega)⟩
  · refine ⟨if ((S.O k).map (fun o => wp (H.hs o.j))).isSome then z else z + 1, ?_⟩
    have e : (fun x => (putO S.O k o' x).map (fun o => wp (H.hs o.j))) = fun x => if x = k then some (wp (H.hs o'.j)) else (S.O x).map (fun o => wp (H.hs o.j)) := by
      funext x
      by_cases ex : x = k
      · rw [ex, putO_same, if_pos rfl]; rfl
      · rw [putO_ne ex, if_neg ex]
    show PMap w' H.gm (if ((S.O k).map (fun o => wp (H.hs o.j))).isSome then z else z + 1) (fun x => (putO S.O k o' x).map (fun o => wp (H.hs o.j)))
    rw [e]; exact hm'
  · rcases hO x o9 e with ⟨rfl, rfl⟩ | ⟨hne, z9⟩
    · simp only [if_true]
      exact hd.keep (g.block _ hd.lt (fun e => by
        have := h.k4; rw [← Option.some.inj e] at this; omega))
    · have hne2 : o9.j ≠ o'.j := fun ej => hfree x o9 z9 (by rw [ej])
      simp only [if_neg hne2]
      exact kp.hold (by omega) x o9 z9
  · rcases hO x o1 e1 with ⟨rfl, rfl⟩ | ⟨hne, z9⟩ <;> rcases hO y o2 e2 with ⟨rfl, rfl⟩ | ⟨hne2, z8⟩
    · rfl
    · exact absurd e3.symm (hfree y o2 z8)
    · exact absurd e3 (hfree x o1 z9)
    · exact h.hinj x o1 y o2 z9 z8 e3
  · rcases hO x o9 e with ⟨rfl, rfl⟩ | ⟨hne, z9⟩
    · exact hj
    · exact h.lt x o9 z9
  · rcases hO x o9 e with ⟨rfl, rfl⟩ | ⟨hne, z9⟩
    · exact hk24
    · exact h.key x o9 z9
  · rcases hO x o9 e with ⟨rfl, rfl⟩ | ⟨hne, z9⟩
    · exact keep (by omega) h5
    · exact keep (by omega) (h.k5 x o9 z9)
end
end Go.Proofs.YtcfhanoekniaaaaGreatDoor

namespace Go.Proofs.YtcfhanoekniaaaaGreatDoor
open Go.RowKit Go.Maps

section
variable {w w' w1 w2 : World} {m : Int} {H : KH} {S : KS} {U : Nat → Nat → Int} {q : Nat} {G : KG} {A : Nat → Prop} {p : Int} {o : Ow}
theorem Hd.nine {b s t : Nat} {U M : Nat → Int} {a : Int} (h : Hd w b s t U M a) : w.cell? ⟨b, 0, none⟩ = some (wp s) ∧ w.cell? ⟨b, 1, none⟩ = some (wp t) ∧ w.cell? ⟨b, 2, none⟩ = some (.int .i64 (U 0)) ∧ w.cell? ⟨b, 3, none⟩ = some (.int .i64 (U 1)) ∧ w.cell? ⟨b, 4, none⟩ = some (.int .i64 (U 2)) ∧ w.cell? ⟨b, 5, none⟩ = some (.int .i64 (M 0)) ∧ w.cell? ⟨b, 6, none⟩ = some (.int .i64 (M 1)) ∧ w.cell? ⟨b, 7, none⟩ = some (.int .i64 (M 2)) ∧ w.cell? ⟨b, 8, none⟩ = some (.int .i64 a) :=
  ⟨h.at 0, h.at 1, h.at 2, h.at 3, h.at 4, h.at 5, h.at 6, h.at 7, h.at 8⟩
/-- What holding.fork leaves. -/
def Born (w : World) (m : Int) (H : KH) (S : KS) (U : Nat → Nat → Int) (q : Nat) (A : Nat → Prop) (o : Ow) (s t b : Nat) (w' : World) : Prop :=
  ∃ G', KM w' m (H.add S.Ts.length s t b) (S.born o.j) U (q + 1) G' ∧ G'.κ b = 5 ∧ (∀ p' o', S.O p' = some o' → H.hs o'.j < b) ∧ Hd w' b s t (U o.j) o.m o.adj ∧ Stp w w' A (fun i => G'.κ i ≠ 0)
set_option maxRecDepth 100000 in
set_option maxHeartbeats 4000000 in
theorem KX.hfork (h : KX w m H S U q A) (ho : S.O p = some o) (hq : q ≤ 90) :
    Calls Tryz.prog 56 #[wp (H.hs o.j), wp H.f] w fun y w' => ∃ s t b, y = .returned (wp b) ∧ Born w m H S U q A o s t b w' := by
  have c9 := (h.hd ho).nine
  have hV : Calls Tryz.prog 139 #[wp (H.sp o.j)] w.drew fun y w1 => ∃ s, y = .returned (wp s) ∧ (w1.cell? ⟨H.hs o.j, 0, none⟩ = some (wp (H.sp o.j)) ∧ w1.cell? ⟨H.hs o.j, 1, none⟩ = some (wp (H.tb o.j)) ∧ w1.cell? ⟨H.hs o.j, 2, none⟩ = some (.int .i64 (U o.j 0)) ∧ w1.cell? ⟨H.hs o.j, 3, none⟩ = some (.int .i64 (U o.j 1)) ∧ w1.cell? ⟨H.hs o.j, 4, none⟩ = some (.int .i64 (U o.j 2)) ∧ w1.cell? ⟨H.hs o.j, 5, none⟩ = some (.int .i64 (o.m 0)) ∧ w1.cell? ⟨H.hs o.j, 6, none⟩ = some (.int .i64 (o.m 1)) ∧ w1.cell? ⟨H.hs o.j, 7, none⟩ = some (.int .i64 (o.m 2)) ∧ w1.cell? ⟨H.hs o.j, 8, none⟩ = some (.int .i64 o.adj)) ∧
      Calls Tryz.prog 140 #[wp H.f, wp (H.tb o.j)] w1 fun y w2 => ∃ t, y = .returned (wp t) ∧ (w2.cell? ⟨H.hs o.j, 0, none⟩ = some (wp (H.sp o.j)) ∧ w2.cell? ⟨H.hs o.j, 1, none⟩ = some (wp (H.tb o.j)) ∧ w2.cell? ⟨H.hs o.j, 2, none⟩ = some (.int .i64 (U o.j 0)) ∧ w2.cell? ⟨H.hs o.j, 3, none⟩ = some (.int .i64 (U o.j 1)) ∧ w2.cell? ⟨H.hs o.j, 4, none⟩ = some (.int .i64 (U o.j 2)) ∧ w2.cell? ⟨H.hs o.j, 5, none⟩ = some (.int .i64 (o.m 0)) ∧ w2.cell? ⟨H.hs o.j, 6, none⟩ = some (.int .i64 (o.m 1)) ∧ w2.cell? ⟨H.hs o.j, 7, none⟩ = some (.int .i64 (o.m 2)) ∧ w2.cell? ⟨H.hs o.j, 8, none⟩ = some (.int .i64 o.adj)) ∧
        ((w2.alloc (.cells #[wp s, wp t, .int .i64 (U o.j 0), .int .i64 (U o.j 1), .int .i64 (U o.j 2), .int .i64 (o.m 0), .int .i64 (o.m 1), .int .i64 (o.m 2), .int .i64 o.adj] 115)).cell? ⟨H.hs o.j, 0, none⟩ = some (wp (H.sp o.j)) ∧ (w2.alloc (.cells #[wp s, wp t, .int .i64 (U o.j 0), .int .i64 (U o.j 1), .int .i64 (U o.j 2), .int .i64 (o.m 0), .int .i64 (o.m 1), .int .i64 (o.m 2), .int .i64 o.adj] 115)).cell? ⟨H.hs o.j, 1, none⟩ = some (wp (H.tb o.j)) ∧ (w2.alloc (.cells #[wp s, wp t, .int .i64 (U o.j 0), .int .i64 (U o.j 1), .int .i64 (U o.j 2), .int .i64 (o.m 0), .int .i64 (o.m 1), .int .i64 (o.m 2), .int .i64 o.adj] 115)).cell? ⟨H.hs o.j, 2, none⟩ = some (.int .i64 (U o.j 0)) ∧ (w2.alloc (.cells #[wp s, wp t, .int .i64 (U o.j 0), .int .i64 (U o.j 1), .int .i64 (U o.j 2), .int .i64 (o.m 0), .int .i64 (o.m 1), .int .i64 (o.m 2), .int .i64 o.adj] 115)).cell? ⟨H.hs o.j, 3, none⟩ = some (.int .i64 (U o.j 1)) ∧ (w2.alloc (.cells #[wp s, wp t, .int .i64 (U o.j 0), .int .i64 (U o.j 1), .int .i64 (U o.j 2), .int .i64 (o.m 0), .int .i64 (o.m 1), .int .i64 (o.m 2), .int .i64 o.adj] 115)).cell? ⟨H.hs o.j, 4, none⟩ = some (.int .i64 (U o.j 2)) ∧ (w2.alloc (.cells #[wp s, wp t, .int .i64 (U o.j 0), .int .i64 (U o.j 1), .int .i64 (U o.j 2), .int .i64 (o.m 0), .int .i64 (o.m 1), .int .i64 (o.m 2), .int .i64 o.adj] 115)).cell? ⟨H.hs o.j, 5, none⟩ = some (.int .i64 (o.m 0)) ∧ (w2.alloc (.cells #[wp s, wp t, .int .i64 (U o.j 0), .int .i64 (U o.j 1), .int .i64 (U o.j 2), .int .i64 (o.m 0), .int .i64 (o.m 1), .int .i64 (o.m 2), .int .i64 o.adj] 115)).cell? ⟨H.hs o.j, 6, none⟩ = some (.int .i64 (o.m 1)) ∧ (w2.alloc (.cells #[wp s, wp t, .int .i64 (U o.j 0), .int .i64 (U o.j 1), .int .i64 (U o.j 2), .int .i64 (o.m 0), .int .i64 (o.m 1), .int .i64 (o.m 2), .int .i64 o.adj] 115)).cell? ⟨H.hs o.j, 7, none⟩ = some (.int .i64 (o.m 2)) ∧ (w2.alloc (.cells #[wp s, wp t, .int .i64 (U o.j 0), .int .i64 (U o.j 1), .int .i64 (U o.j 2), .int .i64 (o.m 0), .int .i64 (o.m 1), .int .i64 (o.m 2), .int .i64 o.adj] 115)).cell? ⟨H.hs o.j, 8, none⟩ = some (.int .i64 o.adj)) ∧
        Aside (Born w m H S U q A o s t w2.heap.size (w2.alloc (.cells #[wp s, wp t, .int .i64 (U o.j 0), .int .i64 (U o.j 1), .int .i64 (U o.j 2), .int .i64 (o.m 0), .int .i64 (o.m 1), .int .i64 (o.m 2), .int .i64 o.adj] 115))) := by
    obtain ⟨G, k, e⟩ := h
    have kd := k.below (bel_drew w)
    have hl : o.j < G.L.length := by rw [k.Ll]; exact k.lt p o ho
    have hfew := k.few
    have hF := kd.al.fork_ok (by rw [k.Ll]; omega) hl
    rw [k.sp _ hl] at hF
    refine hF.mono ?_
    rintro y w1 ⟨s, rfl, gc, t1, hs⟩
    have hs1 : s < w1.heap.size := by
      obtain ⟨A9, a9, _, _⟩ := t1
      have := (a9.sp G.L.length (by simp)).sp.lt
      simpa using this
    have hd1 : Hd w1 (H.hs o.j) (H.sp o.j) (H.tb o.j) (U o.j) o.m o.adj := by
      obtain ⟨A9, a9, f9, _⟩ := t1
      exact (kd.hold p o ho).keep (f9.block _ (kd.hold p o ho).lt (fun z => by have := kd.k1 _ z; have := kd.k5 p o ho; omega))
    refine ⟨s, rfl, hd1.nine, (kd.forked hq ho hl t1 hs hs1).mono ?_⟩
    rintro y w2 ⟨t, rfl, hd2, G', k', h5, hlt, st⟩
    refine ⟨t, rfl, hd2.nine, (hd2.below ((Below.refl _ w2).alloc (Nat.le_refl _) _)).nine, G', k', h5, hlt, ?_, stp_iff e (Stp.base (V := w.drew) rfl rfl rfl rfl st)⟩
    show (w2.heap.push _)[w2.heap.size]? = _
    rw [Array.getElem?_push, if_pos rfl]
  generalize U o.j 0 = u0 at *
  generalize U o.j 1 = u1 at *
  generalize U o.j 2 = u2 at *
  generalize o.m 0 = m0 at *
  generalize o.m 1 = m1 at *
  generalize o.m 2 = m2 at *
  clear h ho
  go_enter Tryz.func56, Tryz.ntmps56
  go_upto_region 1 with fail
  go_region_held3 (fun w' => w'.cell? ⟨H.hs o.j, 0, none⟩ = some (wp (H.sp o.j)) ∧ w'.cell? ⟨H.hs o.j, 1, none⟩ = some (wp (H.tb o.j)) ∧ w'.cell? ⟨H.hs o.j, 2, none⟩ = some (.int .i64 u0) ∧ w'.cell? ⟨H.hs o.j, 3, none⟩ = some (.int .i64 u1) ∧ w'.cell? ⟨H.hs o.j, 4, none⟩ = some (.int .i64 u2) ∧ w'.cell? ⟨H.hs o.j, 5, none⟩ = some (.int .i64 m0) ∧ w'.cell? ⟨H.hs o.j, 6, none⟩ = some (.int .i64 m1) ∧ w'.cell? ⟨H.hs o.j, 7, none⟩ = some (.int .i64 m2) ∧ w'.cell? ⟨H.hs o.j, 8, none⟩ = some (.int .i64 o.adj)) (first | exact c9 | exact d9 | exact d10) (first
    | (go_at_call 139; refine hV.mono ?_; rintro e w1 ⟨s, rfl, d9, hD⟩)
    | (go_at_call 140; refine hD.mono ?_; rintro e w2 ⟨t, rfl, d9, d10, hB⟩))
  all_goals
    clear c9 d9 d10 hV hD
    go_wp2_with fail
    go_ret
    exact ⟨s, t, w2.heap.size, rfl, hB.out⟩
end
end Go.Proofs.YtcfhanoekniaaaaGreatDoor

namespace Go.Proofs.YtcfhanoekniaaaaGreatDoor
open Go.RowKit Go.Maps

/-- What Fork leaves. -/
def forkKS (S : KS) (p : Int) (o : Ow) : KS := ((S.procs (forkP S.P p (leastJ S.P))).born o.j).own (leastJ S.P) ⟨S.Ts.length, o.m, o.adj⟩
section
variable {w w' w1 w2 : World} {m : Int} {H : KH} {S : KS} {U : Nat → Nat → Int} {q : Nat} {G : KG} {A : Nat → Prop} {p : Int} {o : Ow}
theorem ts_born (S : KS) (j i : Nat) : tsJ (S.born j) i = if i = S.Ts.length then tsJ S j else tsJ S i := by
  show (S.Ts ++ [tsJ S j]).getD i zeroN = _
  rw [List.getD_eq_getElem?_getD]
  by_cases e : i < S.Ts.length
  · rw [List.getElem?_append_left e, if_neg (by omega)]
    unfold tsJ
    rw [List.getD_eq_getElem?_getD]
  · rw [List.getElem?_append_right (by omega)]
    by_cases e2 : i = S.Ts.length
    · rw [if_pos e2, e2]; simp
    · rw [if_neg e2, List.getElem?_eq_none (by simp; omega)]
      unfold tsJ
      rw [List.getD_eq_getElem?_getD, List.getElem?_eq_none (by omega)]
theorem ms_born (S : KS) (hl : S.Ms.length = S.Ts.length) (j i : Nat) : msJ (S.born j) i = if i = S.Ts.length then msJ S j else msJ S i := by
  show (S.Ms ++ [msJ S j]).getD i noP = _
  rw [List.getD_eq_getElem?_getD]
  by_cases e : i < S.Ms.length
  · rw [List.getElem?_append_left e, if_neg (by omega)]
    unfold msJ
    rw [List.getD_eq_getElem?_getD]
  · rw [List.getElem?_append_right (by omega)]
    by_cases e2 : i = S.Ts.length
    · rw [if_pos e2, e2, hl]; simp
    · rw [if_neg e2, List.getElem?_eq_none (by simp; omega)]
      unfold msJ
      rw [List.getD_eq_getElem?_getD, List.getElem?_eq_none (by omega)]
theorem runs_fork (P : Ps) (p k x : Int) : runsJ (forkP P p k) x = if x = k then true else runsJ P x := by
  unfold runsJ forkP
  by_cases e : x = k
  · subst e
    rw [stJ_some (setJ_same _ _ _), if_pos rfl]; rfl
  · rw [if_neg e]
    unfold stJ
    rw [setJ_ne e]
theorem KOk.forked (k : KOk S) (ho : S.O p = some o) (hl : S.Ms.length = S.Ts.length) (hk : S.O (leastJ S.P) = none) : KOk (forkKS S p o) := by
  have hO : ∀ x o', (forkKS S p o).O x = some o' → (x = leastJ S.P ∧ o' = ⟨S.Ts.length, o.m, o.adj⟩) ∨ (x ≠ leastJ S.P ∧ S.O x = some o') := fun x o' e => by
    have e : putO S.O (leastJ S.P) ⟨S.Ts.length, o.m, o.adj⟩ x = some o' := e
    by_cases ex : x = leastJ S.P
    · rw [ex, putO_same] at e; exact .inl ⟨ex, (Option.some.inj e).symm⟩
    · rw [putO_ne ex] at e; exact .inr ⟨ex, e⟩
  refine ⟨fun x => ?_, fun j hj hn => ?_, fun x o' e => ?_⟩
  · show (putO S.O (leastJ S.P) _ x).isSome = runsJ (forkP S.P p (leastJ S.P)) x
    rw [runs_fork]
    by_cases e : x = leastJ S.P
    · rw [if_pos e, e, putO_same]; rfl
    · rw [if_neg e, putO_ne e]; exact k.run x
  · have e1 : tsJ (forkKS S p o) j = tsJ ((S.procs (forkP S.P p (leastJ S.P))).born o.j) j := rfl
    have e2 : msJ (forkKS S p o) j = msJ ((S.procs (forkP S.P p (leastJ S.P))).born o.j) j := rfl
    have hj' : j < S.Ts.length + 1 := by
      have : j < (S.Ts ++ [tsJ S o.j]).length := hj
      simpa using this
    have hne : j ≠ S.Ts.length := fun e => hn (leastJ S.P) ⟨S.Ts.length, o.m, o.adj⟩ (putO_same _ _ _) e.symm
    rw [e1, e2, ts_born, ms_born (S.procs (forkP S.P p (leastJ S.P))) hl]
    have hne' : ¬ j = (S.procs (forkP S.P p (leastJ S.P))).Ts.length := hne
    rw [if_neg hne', if_neg hne']
    refine k.gone j (by omega) (fun x o' e z => ?_)
    by_cases ex : x = leastJ S.P
    · rw [ex, hk] at e; cases e
    · exact hn x o' (by show putO S.O _ _ x = _; rw [putO_ne ex]; exact e) z
  · rcases hO x o' e with ⟨_, rfl⟩ | ⟨_, e⟩
    · exact k.fit p o ho
    · exact k.fit x o' e
theorem KN.least (h : KN w m H S q A) (hc : (pidsJ S.P).length < 24) : FreeJ S.P (leastJ S.P) ∧ leastJ S.P ≤ 24 ∧ S.O (leastJ S.P) = none := by
  obtain ⟨k, hk, hk24⟩ := FreeJ.ex h.1.jok.pidsN hc
  rw [leastJ_eq hk hk24]
  refine ⟨hk, hk24, h.norun.2 ?_⟩
  unfold runsJ
  rw [stJ_none hk.no]; rfl
theorem KX.forkPK (h : KX w m H S U q A) (n : Int) (hn : (Lit.int .i64 n).wf = true) : Calls Tryz.prog 55 #[wp H.t, .int .i64 n] w fun y w' => y = .returned (.tuple #[.int .i64 (forkK S.P n (pidsJ S.P).length), uev (forkE S.P n (pidsJ S.P).length)]) ∧ ∃ A', KX w' m H (S.procs (forkQ S.P n (pidsJ S.P).length)) U q A' ∧ Stp w w' A A' := by
  refine (h.proc (Q := fun y P' => y = .returned (.tuple #[.int .i64 (forkK S.P n (pidsJ S.P).length), uev (forkE S.P n (pidsJ S.P).length)]) ∧ P' = forkQ S.P n (pidsJ S.P).length) (fun c qj => ?_)).mono ?_
  · have e : c = (pidsJ S.P).length := qj.toQM.num.one h.jok.pidsN
    subst e
    refine (qj.fork n hn).mono ?_
    rintro y w' ⟨rfl, t⟩; exact ⟨_, ⟨rfl, rfl⟩, t⟩
  · rintro y w' ⟨P', ⟨rfl, rfl⟩, r⟩; exact ⟨rfl, r⟩
set_option maxRecDepth 100000 in
set_option maxHeartbeats 4000000 in
theorem KN.fork_go (h : KN w m H S q A) (ho : S.O p = some o) (hq : q ≤ 90) (hc : (pidsJ S.P).length < 24) :
    Calls Tryz.prog 14 #[wp H.kb, .int .i64 p] w fun y w' => y = .returned (.tuple #[.int .i64 (leastJ S.P), .nilIface]) ∧ ∃ H' A', (H'.kb = H.kb ∧ H'.ok = H.ok) ∧ KN w' m H' (forkKS S p o) (q + 1) A' ∧ Stp w w' A A' := by
  have hF := h.1.find_yes ho
  have c3 := h.1.c3
  have hr : runsJ S.P p = true := by rw [← h.2.run p, ho]; rfl
  obtain ⟨hfr, h24, hkO⟩ := h.least hc
  have hk1 := hfr.pos
  have e1 : forkE S.P p (pidsJ S.P).length = 0 := by unfold forkE; rw [hr, if_neg (by simp), if_neg (by omega)]
  have e2 : forkK S.P p (pidsJ S.P).length = leastJ S.P := by unfold forkK; rw [if_pos e1]
  have e3 : forkQ S.P p (pidsJ S.P).length = forkP S.P p (leastJ S.P) := by unfold forkQ; rw [if_pos e1]
  have hX : Calls Tryz.prog 55 #[wp H.t, .int .i64 p] w fun y w' => y = .returned (.tuple #[.int .i64 (leastJ S.P), .nilIface]) ∧ (w'.cell? ⟨H.kb, 4, none⟩ = some (.map (some H.gm)) ∧ w'.cell? ⟨H.kb, 2, none⟩ = some (wp H.f)) ∧
      Calls Tryz.prog 56 #[wp (H.hs o.j), wp H.f] w'.drew fun y w2 => ∃ b, y = .returned (wp b) ∧ (w2.cell? ⟨H.kb, 4, none⟩ = some (.map (some H.gm)) ∧ w2.cell? ⟨H.kb, 2, none⟩ = some (wp H.f)) ∧ ∃ w3, (Instr.mapUpdate 104 (.map (some H.gm)) (.int .i64 (leastJ S.P)) (wp b)).run Tryz.prog w2 = .ok () w3 ∧ (w3.cell? ⟨H.kb, 4, none⟩ = some (.map (some H.gm)) ∧ w3.cell? ⟨H.kb, 2, none⟩ = some (wp H.f)) ∧ Aside (∃ H' A', (H'.kb = H.kb ∧ H'.ok = H.ok) ∧ KN w3 m H' (forkKS S p o) (q + 1) A' ∧ Stp w w3 A A') := by
    refine (h.1.forkPK p (h.1.wfp ho)).mono ?_
    rintro y w1 ⟨rfl, A1, k1, st1⟩
    rw [e1, e2, uev_zero]
    rw [e3] at k1
    refine ⟨rfl, k1.cells4 (p := p) (o := o) ho, ((k1.below (bel_drew w1)).hfork (p := p) (o := o) ho hq).mono ?_⟩
    rintro y w2 ⟨s, t, b, rfl, G', k', h5, hlt, hd, st2⟩
    have hb : (H.add S.Ts.length s t b).hs S.Ts.length = b := if_pos rfl
    have hs : (H.add S.Ts.length s t b).sp S.Ts.length = s := if_pos rfl
    have ht : (H.add S.Ts.length s t b).tb S.Ts.length = t := if_pos rfl
    have c2 : w2.cell? ⟨H.kb, 4, none⟩ = some (.map (some H.gm)) ∧ w2.cell? ⟨H.kb, 2, none⟩ = some (wp H.f) := ⟨(KX.of k').c4, (KX.of k').c2⟩
    obtain ⟨w3, hrun, G3, k3, st3⟩ := k'.put (k := leastJ S.P) hkO ⟨hk1, h24⟩ (o' := ⟨S.Ts.length, o.m, o.adj⟩) (by show S.Ts.length < (S.Ts ++ [_]).length; simp) (by show G'.κ ((H.add S.Ts.length s t b).hs S.Ts.length) = 5; rw [hb]; exact h5) (fun p' o' ho' => by
        have ho2 : S.O p' = some o' := ho'
        have hl := h.1.jlt ho2
        show (H.add S.Ts.length s t b).hs o'.j ≠ (H.add S.Ts.length s t b).hs S.Ts.length
        rw [hb, show (H.add S.Ts.length s t b).hs o'.j = H.hs o'.j from if_neg (by omega)]
        have := hlt p' o' ho2
        omega) (U' := Uof S o.j) (by
        show Hd w2 ((H.add S.Ts.length s t b).hs S.Ts.length) ((H.add S.Ts.length s t b).sp S.Ts.length) ((H.add S.Ts.length s t b).tb S.Ts.length) (Uof S o.j) o.m o.adj
        rw [hb, hs, ht]; exact hd)
    have hrun' : (Instr.mapUpdate 104 (.map (some H.gm)) (.int .i64 (leastJ S.P)) (wp b)).run Tryz.prog w2 = .ok () w3 := by rw [← hb]; exact hrun
    refine ⟨b, rfl, c2, w3, hrun', ⟨(KX.of k3).c4, (KX.of k3).c2⟩, H.add S.Ts.length s t b, _, ⟨rfl, rfl⟩, (KX.of k3).toN (h.2.forked ho h.1.len hkO) (fun p' o' ho' k hk => ?_), (st1.trans (Stp.base (V := w1.drew) rfl rfl rfl rfl st2)).trans st3⟩
    have hO : (p' = leastJ S.P ∧ o' = ⟨S.Ts.length, o.m, o.adj⟩) ∨ (p' ≠ leastJ S.P ∧ S.O p' = some o') := by
      have e : putO S.O (leastJ S.P) ⟨S.Ts.length, o.m, o.adj⟩ p' = some o' := ho'
      by_cases ex : p' = leastJ S.P
      · rw [ex, putO_same] at e; exact .inl ⟨ex, (Option.some.inj e).symm⟩
      · rw [putO_ne ex] at e; exact .inr ⟨ex, e⟩
    have et : ∀ i, tsJ (forkKS S p o) i = if i = S.Ts.length then tsJ S o.j else tsJ S i := fun i => ts_born (S.procs (forkP S.P p (leastJ S.P))) o.j i
    have em : ∀ i, msJ (forkKS S p o) i = if i = S.Ts.length then msJ S o.j else msJ S i := fun i => ms_born (S.procs (forkP S.P p (leastJ S.P))) h.1.len o.j i
    rcases hO with ⟨_, rfl⟩ | ⟨_, ho2⟩
    · simp only [if_true]
      have e9 : Uof (forkKS S p o) S.Ts.length k = Uof S o.j k := by
        unfold Uof
        rw [et, em, if_pos rfl, if_pos rfl]
      exact e9.symm
    · have hl := h.1.jlt ho2
      simp only
      rw [if_neg (by omega)]
      have e9 : Uof (forkKS S p o) o'.j k = Uof S o'.j k := by
        unfold Uof
        have hne : ¬ o'.j = S.Ts.length := by omega
        rw [et, em, if_neg hne, if_neg hne]
      exact e9.symm
  generalize forkKS S p o = S2 at *
  generalize leastJ S.P = X at *
  clear h ho hr e1 e2 e3 hfr hkO
  go_enter Tryz.func14, Tryz.ntmps14
  go_upto_region 7 with (first
    | (go_at_call 51; refine hF.mono ?_; rintro e w1 ⟨rfl, hw⟩; subst w1)
    | (go_at_call 55; refine hX.mono ?_; rintro e w1 ⟨rfl, c0, hC⟩))
  clear hX hF c3
  go_region_held3 (fun w' => w'.cell? ⟨H.kb, 4, none⟩ = some (.map (some H.gm)) ∧ w'.cell? ⟨H.kb, 2, none⟩ = some (wp H.f)) (first | exact c0 | exact c1 | exact c9) (first
    | (go_at_call 56; refine hC.mono ?_; rintro e w2 ⟨b, rfl, c1, w3, hrun, c9, hR⟩))
  all_goals
    clear c0 hC hrun c1 c9
    go_wp2_with fail
    go_ret2
    exact ⟨rfl, hR.out⟩
end
end Go.Proofs.YtcfhanoekniaaaaGreatDoor

namespace Go.Proofs.YtcfhanoekniaaaaGreatDoor
open Go.RowKit Go.Maps

section
variable {w w' w1 w2 : World} {m : Int} {H : KH} {S : KS} {U : Nat → Nat → Int} {q : Nat} {G : KG} {A : Nat → Prop} {p : Int} {o : Ow}
/-- The ledgers, with so many numbers more for one. -/
def payU (S : KS) (j : Nat) (n : Int) : Nat → Nat → Int := fun i => if i = j then after (Uof S j) 1 n else Uof S i
/-- Both sets. -/
def Or2 (A X : Nat → Prop) : Nat → Prop := fun i => A i ∨ X i
theorem Stp.with {A' X : Nat → Prop} (h : Stp w w' A A') (_hX : ∀ i, X i → i < w.heap.size) : Stp w w' (Or2 A X) (Or2 A' X) :=
  ⟨⟨h.wt.os, h.wt.tape, h.wt.output, h.wt.size, fun i hi hn => h.wt.block i hi (fun z => hn (.inl z))⟩, fun i hi => by
    rcases hi with z | z
    · rcases h.own i z with y | y
      · exact .inl (.inl y)
      · exact .inr y
    · exact .inl (.inr z)⟩
theorem why_pay {S : KS} {o : Ow} {n : Int} (hn : 1 ≤ n ∧ n ≤ 2) (h8 : (tsJ S o.j).length = 8) : why (Uof S o.j) o.m 1 n = if ((usedN (tsJ S o.j) : Nat) : Int) + n ≤ o.m 1 then 0 else 4 := by
  have e : Uof S o.j (1 : Int).toNat = ((usedN (tsJ S o.j) : Nat) : Int) := rfl
  have e2 : o.m (1 : Int).toNat = o.m 1 := rfl
  unfold why
  rw [e, e2]
  have := usedN_le8 h8
  by_cases hc : ((usedN (tsJ S o.j) : Nat) : Int) + n ≤ o.m 1
  · rw [if_pos hc, if_neg (by omega), if_neg (by omega), if_neg (by omega), if_neg (by omega)]
  · rw [if_neg hc, if_neg (by omega), if_neg (by omega), if_pos (by omega)]
theorem payU_files {S : KS} {o : Ow} {n : Int} {D' : DS} {N' : Ns} (hj : o.j < S.Ts.length) (hu : ((usedN N' : Nat) : Int) = usedN (tsJ S o.j) + n) (i k : Nat) (hk : k < 3) : payU S o.j n i k = Uof (S.files D' o.j N') i k := by
  unfold payU
  by_cases e : i = o.j
  · rw [if_pos e, e]
    unfold after put Uof
    rw [ts_files hj, if_pos rfl, ms_files]
    match k, hk with
    | 0, _ => rfl
    | 1, _ => show ((usedN (tsJ S o.j) : Nat) : Int) + n = _; rw [← hu]; rfl
    | 2, _ => rfl
  · rw [if_neg e]
    unfold Uof
    rw [ts_files hj, if_neg e, ms_files]
theorem KX.payFirst (h : KN w m H S q A) (ho : S.O p = some o) {n : Int} (hn : 1 ≤ n ∧ n ≤ 2) {fn : Nat} {lb : Array Value} (ef : ∀ args w, (callFunc fn args).run Tryz.prog w = .ok (.enter fn args) w) {X : Nat → Prop} (hX : ∀ i, X i → i < w.heap.size) {Q : Int → DS → Ns → World → Prop}
    (hQ : ∀ c D' N' w2 w3, Q c D' N' w2 → w2.grownBy w3 (some (H.hs o.j)) → Q c D' N' w3)
    (hdo : ∀ V, KX V m H S (payU S o.j n) q A → Stp w V A A → Calls Tryz.prog fn lb V fun y w2 => ∃ c D' N', y = .returned (uev c) ∧ Q c D' N' w2 ∧ (c = 0 → ((usedN N' : Nat) : Int) = usedN (tsJ S o.j) + n) ∧ (c ≠ 0 → D' = S.D ∧ N' = tsJ S o.j) ∧ ∃ A2, (∀ i, X i → ¬ A2 i) ∧ KX w2 m H (S.files D' o.j N') (payU S o.j n) (q + 1) A2 ∧ Stp V w2 (Or2 A X) (Or2 A2 X)) :
    Calls Tryz.prog 52 #[wp (H.hs o.j), .int .i64 1, .int .i64 n, .func (.func fn) #[] lb] w fun y w' => ∃ c, y = .returned (uev c) ∧
      ((¬ ((usedN (tsJ S o.j) : Nat) : Int) + n ≤ o.m 1 ∧ c = 4 ∧ ∃ A', KN w' m H S q A' ∧ Stp w w' A A') ∨
       (((usedN (tsJ S o.j) : Nat) : Int) + n ≤ o.m 1 ∧ ∃ D' N', Q c D' N' w' ∧ ∃ A', (∀ i, X i → ¬ A' i) ∧ KN w' m H (S.files D' o.j N') (q + 1) A' ∧ Stp w w' (Or2 A X) (Or2 A' X))) := by
  have hj := h.1.jlt ho
  have hw := why_pay (S := S) (o := o) hn (h.1.tlen o.j)
  refine (h.1.hd ho).payFirst (h.1.fitU o.j) (h.2.fit p o ho).1 h.1.er (h.1.hne ho) 1 n ef (R := fun c w' => (¬ ((usedN (tsJ S o.j) : Nat) : Int) + n ≤ o.m 1 ∧ c = 4 ∧ ∃ A', KN w' m H S q A' ∧ Stp w w' A A') ∨
       (((usedN (tsJ S o.j) : Nat) : Int) + n ≤ o.m 1 ∧ ∃ D' N', Q c D' N' w' ∧ ∃ A', (∀ i, X i → ¬ A' i) ∧ KN w' m H (S.files D' o.j N') (q + 1) A' ∧ Stp w w' (Or2 A X) (Or2 A' X))) (fun hne V hd g => ?_) (fun he V hd g => ?_)
  · obtain ⟨k', st⟩ := h.1.led2 ho hd g
    rw [hw] at hne ⊢
    split at hne
    · exact absurd rfl hne
    · rename_i hc
      rw [if_neg hc]
      refine .inl ⟨hc, rfl, A, k'.toN h.2 (fun p' o' ho' k hk => ?_), st⟩
      by_cases ej : o'.j = o.j
      · simp only [if_pos ej]; rw [ej]
      · simp only [if_neg ej]
  · have hle : ((usedN (tsJ S o.j) : Nat) : Int) + n ≤ o.m 1 := by
      rw [hw] at he
      split at he
      · assumption
      · omega
    obtain ⟨k', st⟩ := h.1.led2 ho hd g
    refine (hdo V k' st).mono ?_
    rintro y w2 ⟨c, D', N', rfl, hQ2, hc0, hc1, A2, nA, k2, st2⟩
    refine ⟨c, rfl, fun hc => ?_, fun hc => ⟨?_, fun i hi hiV => ?_, fun w3 hd3 g3 => ?_⟩⟩
    · subst hc
      refine .inr ⟨hle, D', N', hQ2, A2, nA, k2.toN (h.2.files ho _ _) (fun p' o' ho' k hk => payU_files hj (hc0 rfl) _ _ hk), (st.with hX).trans st2⟩
    · have := k2.hd (p := p) (o := o) ho
      unfold payU at this
      rw [if_pos rfl] at this
      exact this
    · refine st2.wt.block i hiV (fun z => ?_)
      rcases z with z | z
      · have := h.1.lt i z; omega
      · have := hX i z; omega
    · obtain ⟨rfl, rfl⟩ := hc1 hc
      rw [files_self hj] at k2
      obtain ⟨k3, st3⟩ := k2.led2 (p := p) (o := o) ho hd3 g3
      have hX2 : ∀ i, X i → i < w2.heap.size := fun i hi => Nat.lt_of_lt_of_le (hX i hi) (Nat.le_trans st.wt.size st2.wt.size)
      refine .inr ⟨hle, S.D, tsJ S o.j, hQ _ _ _ _ _ hQ2 g3, A2, nA, ?_, ((st.with hX).trans st2).trans (st3.with hX2)⟩
      rw [files_self hj]
      refine k3.toN h.2 (fun p' o' ho' k hk => ?_)
      by_cases ej : o'.j = o.j
      · simp only [if_pos ej]; rw [ej]
      · simp only [if_neg ej]
        unfold payU
        rw [if_neg ej]
end
end Go.Proofs.YtcfhanoekniaaaaGreatDoor
