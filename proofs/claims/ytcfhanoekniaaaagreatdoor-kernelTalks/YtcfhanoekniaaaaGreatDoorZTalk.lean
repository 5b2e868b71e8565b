/- A kernel: Store, by its Go text. -/
import Derived.Test.YtcfhanoekniaaaaGreatDoorZCand
import Derived.Test.YtcfhanoekniaaaaGreatDoorTell
import Derived.Maps.AppendAt
import Derived.Deep.LoopGhost
import Derived.Test.YtcfhanoekniaaaaGreatDoorVAll
import Derived.Test.YtcfhanoekniaaaaGreatDoorDInv3
import Derived.Test.YtcfhanoekniaaaaGreatDoorDInv
import Derived.Test.YtcfhanoekniaaaaGreatDoorUWrite
import Derived.Test.YtcfhanoekniaaaaGreatDoorZPipe
namespace Go.Proofs.YtcfhanoekniaaaaGreatDoor
open Go.RowKit Go.Maps

/-- Who went, what is told, and what is left. -/
inductive StoreK (p a k v : Int) : KS → List Int → Int → KS → Prop
  | done {S : KS} {o : Ow} {er : Int} {P' : PM} {D' : Nat → Nat → Int} (ho : S.O p = some o) (h : StR S.n (msJ S o.j) (othM S o.j) S.W a k v er P' D') (h12 : er ≠ 12) : StoreK p a k v S [] er (S.space o.j P' D')
  | nobody {S : KS} {o : Ow} (ho : S.O p = some o) (h : StR S.n (msJ S o.j) (othM S o.j) S.W a k v 12 (msJ S o.j) S.W) (hv : ¬ 0 < (vic (cands S)).1) : StoreK p a k v S [] 12 S
  | self {S : KS} {o : Ow} (ho : S.O p = some o) (h : StR S.n (msJ S o.j) (othM S o.j) S.W a k v 12 (msJ S o.j) S.W) (hv : 0 < (vic (cands S)).1) (he : (vic (cands S)).2 = p) : StoreK p a k v S [p] 10 (endKS S p o 108)
  | goes {S : KS} {o : Ow} {x : Int} {ox : Ow} {went : List Int} {er : Int} {S' : KS} (ho : S.O p = some o) (h : StR S.n (msJ S o.j) (othM S o.j) S.W a k v 12 (msJ S o.j) S.W) (hv : 0 < (vic (cands S)).1) (he : (vic (cands S)).2 = x) (hx : S.O x = some ox) (h1 : x ≠ 1) (hne : x ≠ p) (r : StoreK p a k v (endKS S x ox 108) went er S') : StoreK p a k v S (x :: went) er S'
section
variable {w w' V : World} {m : Int} {H : KH} {S : KS} {U : Nat → Nat → Int} {q : Nat} {A A' : Nat → Prop} {p : Int} {o : Ow}
theorem tell_err (c : Int) (w : World) (hg : w.cell? ⟨0, 0, none⟩ = some errT) : Calls Tryz.prog 17 #[uev c] w fun e w' => e = .returned (.int .i64 c) ∧ Below w.heap.size w w' := by
  by_cases h : c = 0
  · subst h
    refine (tell_nil w).mono ?_
    rintro e w' ⟨he, rfl⟩
    exact ⟨he, Below.refl _ _⟩
  · rw [uev_ne h]; exact tell_eno c w hg
theorem cand_mem {S : KS} {c : Cd} (h : c ∈ cands S) : c.pid ≠ 1 ∧ ∃ o, S.O c.pid = some o ∧ c = ⟨c.pid, ((resP (msJ S o.j) : Nat) : Int), o.adj⟩ := by
  unfold cands at h
  obtain ⟨x, hx, e⟩ := List.mem_filterMap.1 h
  unfold candOf at e
  split at e
  · cases e
  · rename_i hne
    cases hO : S.O x with
    | none => rw [hO] at e; cases e
    | some o =>
      rw [hO] at e
      obtain rfl := Option.some.inj e
      exact ⟨hne, o, hO, rfl⟩
theorem vic_cand {S : KS} (h : 0 < (vic (cands S)).1) : (vic (cands S)).2 ≠ 1 ∧ ∃ o, S.O (vic (cands S)).2 = some o ∧ 0 < resP (msJ S o.j) := by
  obtain ⟨k, hk, e1, e2⟩ := vic_at h
  obtain ⟨h1, o, ho, ec⟩ := cand_mem (List.getElem_mem hk)
  rw [e1] at h1 ho
  refine ⟨h1, o, ho, ?_⟩
  have hw : 0 < wgt (cands S)[k] := by rw [e2]; exact h
  have := (wgt_pos.1 hw).1
  rw [ec] at this
  simp only at this
  omega
theorem filterMap_less {f f' : Int → Option Cd} {x : Int} (hx' : f' x = none) (hx : (f x).isSome = true) : ∀ (l : List Int), (∀ y ∈ l, f' y = none ∨ f' y = f y) → (l.filterMap f').length ≤ (l.filterMap f).length ∧ (x ∈ l → (l.filterMap f').length + 1 ≤ (l.filterMap f).length)
  | [], _ => ⟨Nat.le_refl _, fun h => by cases h⟩
  | y :: r, hl => by
    obtain ⟨i1, i2⟩ := filterMap_less hx' hx r (fun z hz => hl z (List.mem_cons_of_mem _ hz))
    have hy := hl y List.mem_cons_self
    have c1 : ((y :: r).filterMap f').length = (r.filterMap f').length + if (f' y).isSome = true then 1 else 0 := by
      rw [List.filterMap_cons]; cases f' y <;> simp
    have c2 : ((y :: r).filterMap f).length = (r.filterMap f).length + if (f y).isSome = true then 1 else 0 := by
      rw [List.filterMap_cons]; cases f y <;> simp
    rw [c1, c2]
    have hle : (if (f' y).isSome = true then 1 else 0) ≤ (if (f y).isSome = true then 1 else 0) := by
      rcases hy with e | e
      · rw [e]; simp
      · rw [e]; exact Nat.le_refl _
    refine ⟨by omega, fun hm => ?_⟩
    rcases List.mem_cons.1 hm with e | e
    · subst e
      rw [hx', hx]
      simp; omega
    · have := i2 e; omega
theorem pids_exit (P : Ps) (x c : Int) : pidsJ (exitP P x c) = pidsJ P := by
  unfold pidsJ
  refine List.filter_congr (fun n _ => ?_)
  unfold exitP
  rw [Option.isSome_map]
theorem cands_end (h : KN w m H S q A) {x : Int} {ox : Ow} (hx : S.O x = some ox) (h1 : x ≠ 1) (c : Int) : (cands (endKS S x ox c)).length + 1 ≤ (cands S).length := by
  unfold cands
  have e : (endKS S x ox c).P = exitP S.P x c := rfl
  rw [e, pids_exit]
  have hml := h.1.mlt hx
  have f0 : candOf (endKS S x ox c) x = none := by
    unfold candOf
    rw [if_neg h1]
    have : (endKS S x ox c).O x = none := by show delO S.O x x = none; unfold delO; rw [if_pos rfl]
    rw [this]; rfl
  refine (filterMap_less f0 ?_ _ (fun y hy => ?_)).2 ?_
  · unfold candOf; rw [if_neg h1, hx]; rfl
  · by_cases e : y = x
    · left; rw [e]; exact f0
    · right
      unfold candOf
      have e1 : (endKS S x ox c).O y = S.O y := by show delO S.O x y = _; unfold delO; rw [if_neg e]
      rw [e1]
      by_cases hy1 : y = 1
      · rw [if_pos hy1, if_pos hy1]
      · rw [if_neg hy1, if_neg hy1]
        cases hO : S.O y with
        | none => rw [Option.map_none, Option.map_none]
        | some o' =>
          have hne : o'.j ≠ ox.j := fun z => e (h.1.inj hO hx z)
          have e2 : msJ (endKS S x ox c) o'.j = msJ S o'.j := by
            have : msJ (endKS S x ox c) o'.j = if o'.j = ox.j then noP else msJ S o'.j := ms_space (S := S.procs (exitP S.P x c)) hml noP S.W o'.j
            rw [this, if_neg hne]
          rw [Option.map_some, Option.map_some, e2]
  · have hr : runsJ S.P x = true := by rw [← h.2.run x, hx]; rfl
    obtain ⟨z, hz, _⟩ := runsJ_iff.1 hr
    exact h.1.jok.pids.2 (by rw [hz]; rfl)
/-- A block that is nobody's turned. -/
theorem KX.grownOut (h : KX w m H S U q A) {r : Option Nat} (g : w.grownBy w' r) (hr : ∀ x, r = some x → ¬ A x ∧ x ≠ 4 ∧ x ≠ 0 ∧ x ≠ 2) : KX w' m H S U q A := by
  obtain ⟨G, k, e⟩ := h
  have hk : ∀ i, i < w.heap.size → r ≠ some i → w'.heap[i]? = w.heap[i]? := fun i hi hn => g.block i hi (fun z => hn z.symm)
  exact ⟨G, k.same g.size (fun i hi => hk i (k.klt i hi) (fun z => (hr i z).1 ((e i).2 hi))) (hk _ k.ml_lt (fun z => (hr _ z).2.1 rfl)) (hk _ k.er_lt (fun z => (hr _ z).2.2.1 rfl)) (hk _ k.zero_lt (fun z => (hr _ z).2.2.2 rfl)), e⟩
theorem Stp.grownOut (st : Stp w V A A') {r : Option Nat} (g : V.grownBy w' r) (hr : ∀ x, r = some x → w.heap.size ≤ x) : Stp w w' A A' :=
  ⟨⟨g.os.trans st.wt.os, g.tape.trans st.wt.tape, g.output.trans st.wt.output, Nat.le_trans st.wt.size g.size, fun i hi hn => by
    rw [g.block i (Nat.lt_of_lt_of_le hi st.wt.size) (fun z => by have := hr i z.symm; omega)]
    exact st.wt.block i hi hn⟩, st.own⟩
/-- Those that went, in a row of the call's own. -/
structure Wn (w0 w : World) (A : Nat → Prop) (v : Value) (l : List Int) : Prop where
  row : w.ownsRow w0.heap.size 3 1 v l.length (l.map fun x => .int .i64 x)
  off : ∀ g, v.ownBlock = some g → ¬ A g
theorem Wn.nil (w : World) (A : Nat → Prop) : Wn w w A (.slice none 0 0) [] := ⟨⟨rfl, .inl ⟨rfl, rfl⟩⟩, fun g e => by cases e⟩
theorem Wn.stp {w0 : World} {v : Value} {l : List Int} (h : Wn w0 w A v l) (st : Stp w w' A A') : Wn w0 w' A' v l := by
  refine ⟨⟨h.row.1, ?_⟩, fun g e => ?_⟩
  · rcases h.row.2 with z | ⟨g, cap, cur, e, a1, a2, rest⟩
    · exact .inl z
    · refine .inr ⟨g, cap, cur, e, a1, ?_, rest⟩
      rw [st.wt.block g (h.row.lt g (by rw [e]; rfl)).2 (h.off g (by rw [e]; rfl))]
      exact a2
  · intro z
    rcases st.own g z with y | y
    · exact h.off g e y
    · have := (h.row.lt g e).2; omega
theorem int_info : ∃ i, Tryz.prog.info? 3 = some i ∧ i.zero = some (.int .i64 0) ∧ i.size = 1 ∧ i.bytes = 8 := info_parts (P := Tryz.prog) (e := 3) (z := .int .i64 0) (size := 1) (bytes := 8) (by kernel_rfl)
/-- One more went. -/
theorem Wn.more {w0 : World} {v : Value} {l : List Int} (h : Wn w0 w A v l) (hl : l.length ≤ 100) (h0 : w0.heap.size ≤ w.heap.size) (hA : ∀ i, A i → i < w.heap.size) (x : Int) : ∃ v' w', (∀ ty, ty = 23 → (Builtin.append_ #[23, 23] ty #[v, .slice (some ⟨w.heap.size, 0, none⟩) 1 1]).run Tryz.prog (w.alloc (.cells #[.int .i64 x] 3)) = .ok v' w') ∧ Wn w0 w' A v' (l ++ [x]) ∧ w.grownBy w' v.ownBlock := by
  obtain ⟨i0, hi0, hz0, hz1, hz2⟩ := int_info
  obtain ⟨b1, s1, c1, _⟩ := box1 w (.int .i64 x) 3
  have row2 := h.row.alloc (.cells #[.int .i64 x] 3)
  obtain ⟨v', w', hr, ho, hg, _, hv⟩ := run_append_own_at (P := Tryz.prog) (w.alloc (.cells #[.int .i64 x] 3)) w0.heap.size 23 23 3 i0 (.int .i64 0) 1 8 Tryz.underlying23 hi0 hz0 hz1 hz2 rfl (by decide) v l.length _ row2 ⟨w.heap.size, 0, none⟩ 1 1 [.int .i64 x] rfl (fun j u hu => by
    match j with
    | 0 =>
      simp only [List.getElem?_cons_zero, Option.some.injEq] at hu
      rw [← hu]; exact c1
    | j + 1 => simp at hu) (fun u hu => by simp at hu; rw [hu]; rfl) (by unfold maxLen; omega) (by omega) (by omega)
  refine ⟨v', w', fun ty e => by rw [e]; exact hr, ⟨?_, fun g e => ?_⟩, ?_⟩
  · rw [List.length_append, List.map_append]; exact ho
  · rcases hv with z | z
    · exact h.off g (by rw [← z]; exact e)
    · rw [z, s1] at e
      cases e
      intro y
      have := hA _ y; omega
  · exact ⟨hg.os, hg.tape, hg.output, by have := hg.size; omega, fun i hi hn => (hg.block i (by omega) hn).trans (b1.block i hi)⟩
end
end Go.Proofs.YtcfhanoekniaaaaGreatDoor

namespace Go.Proofs.YtcfhanoekniaaaaGreatDoor
open Go.RowKit Go.Maps

section
variable {w w' V : World} {m : Int} {H : KH} {S : KS} {U : Nat → Nat → Int} {q : Nat} {A A' : Nat → Prop} {p : Int} {o : Ow}
theorem StR.len {n : Nat} {P P' : PM} {f : Int → Nat} {D D' : Nat → Nat → Int} {a k v er : Int} (h : StR n P f D a k v er P' D') : lenP P' = lenP P := by
  rcases h with ⟨_, _, rfl, _⟩ | ⟨_, _, _, _, rfl, _⟩ | ⟨_, _, _, _, rfl, _⟩ | ⟨hu, _, x, _, _, _, rfl, _⟩
  · rfl
  · rfl
  · rfl
  · refine lenP_put_old ?_
    cases hP : P a with
    | none => unfold useE at hu; rw [hP] at hu; simp at hu
    | some y => rfl
/-- append, by its own equation. -/
theorem wpList_app_run {P : Program} {ops : Array Oper} {rest : List Oper} {o : Oper} {a : Act} {w : World} {Q : Exit → Act → World → Prop} (hgd : o.guard = none) (s x : Operand) (t : TypeId)
    (ho : o.op = .call { callee := .builtin .append, args := #[s, x], argTypes := #[t, t] }) (v y v' : Value) (w' : World) (hs : a.eval s = v) (hx : a.eval x = y)
    (hr : (Builtin.append_ #[t, t] o.type #[v, y]).run P w = .ok v' w') (h : wpList P ops Q rest (a.put o.dst v') w') : wpList P ops Q (o :: rest) a w := by
  refine wpList_plain hgd fun K hK => ?_
  unfold Oper.wp execOp
  simp only [ho, resolve, invoke, builtin, Sem.run_bind, Sem.run_pure, Result.andThen_ok, List.map_toArray, List.map_cons, List.map_nil, hs, hx, hr]
  exact hK _ _ h
/-- What Store leaves. -/
def StoreD (w : World) (m : Int) (H : KH) (S : KS) (q : Nat) (A : Nat → Prop) (p a k v : Int) (vw : Value) (er : Int) (w' : World) : Prop := ∃ went S' A', StoreK p a k v S went er S' ∧ Wn w w' A' vw went ∧ KN w' m H S' q A' ∧ Stp w w' A A'
/-- On the way. -/
def StoreW (w : World) (m : Int) (H : KH) (S : KS) (q : Nat) (A : Nat → Prop) (p a k v : Int) (o : Ow) (mm : Nat) (vw : Value) (wr : World) : Prop := ∃ l Sk Ak, (cands Sk).length ≤ mm ∧ l.length + (cands Sk).length ≤ 24 ∧ Sk.O p = some o ∧ (∀ rest er S', StoreK p a k v Sk rest er S' → StoreK p a k v S (l ++ rest) er S') ∧ Wn w wr Ak vw l ∧ KN wr m H Sk q Ak ∧ Stp w wr A Ak
theorem Wn.lt {w0 : World} {v : Value} {l : List Int} (h : Wn w0 w A v l) : ∀ g, v.ownBlock = some g → w0.heap.size ≤ g ∧ g < w.heap.size := h.row.lt
set_option maxHeartbeats 1000000 in
theorem StoreW.step (hg : 4 < w.heap.size ∧ 0 < w.heap.size ∧ 2 < w.heap.size) {a k v : Int} {mm : Nat} {vw : Value} {wr : World} (h : StoreW w m H S q A p a k v o mm vw wr) (hq : q ≤ 200) (ha : (Lit.int .i64 a).wf = true) :
    wr.cell? ⟨H.hs o.j, 0, none⟩ = some (wp (H.sp o.j)) ∧ Calls Tryz.prog 121 #[wp (H.sp o.j), .int .i64 a, .int .i64 k, .int .i64 v] wr fun y w1 => ∃ er, y = .returned (uev er) ∧ Calls Tryz.prog 17 #[uev er] w1 fun y w2 => y = .returned (.int .i64 er) ∧ (er ≠ 12 → StoreD w m H S q A p a k v vw er w2) ∧
      (er = 12 → Calls Tryz.prog 123 #[wp H.kb] w2 fun y w3 => ∃ z, y = .returned z ∧ Calls Tryz.prog 122 #[z] w3 fun y w4 => ∃ X ok, y = .returned (.tuple #[.int .i64 X, .bool ok]) ∧ (ok = false → StoreD w m H S q A p a k v vw 12 w4) ∧
        (ok = true → Calls Tryz.prog 64 #[wp H.kb, .int .i64 X, .int .i64 108] w4 fun y w5 => y = .returned .nilIface ∧ ∃ v9 w9, (Builtin.append_ #[23, 23] 23 #[vw, .slice (some ⟨w5.heap.size, 0, none⟩) 1 1]).run Tryz.prog (w5.alloc (.cells #[.int .i64 X] 3)) = .ok v9 w9 ∧ (X = p → StoreD w m H S q A p a k v v9 10 w9) ∧ (X ≠ p → StoreW w m H S q A p a k v o (mm - 1) v9 w9 ∧ 1 ≤ mm))) := by
  obtain ⟨l, Sk, Ak, h1, h2, ho, hacc, hw, hk, st⟩ := h
  refine ⟨(hk.1.hd ho).at 0, (hk.1.storeS (hk.1.jlt ho) a k v ha).mono ?_⟩
  rintro y w1 ⟨P', D', er, hS, rfl, A1, k1, st1⟩
  have kn1 : KN w1 m H (Sk.space o.j P' D') q A1 := k1.spaceN hk.2 ho hk.1.len (hk.1.jlt ho) hS.len
  refine ⟨er, rfl, (tell_err er w1 k1.er).mono ?_⟩
  rintro y w2 ⟨rfl, b2⟩
  have hw1 := hw.stp st1
  have st2 : Stp w w2 A A1 := (st.trans st1).trans (.below b2)
  have hw2 := hw1.stp (.below b2)
  have kn2 := kn1.below b2
  refine ⟨rfl, fun hne => ⟨l, _, A1, by have := hacc _ _ _ (.done ho hS hne); rwa [List.append_nil] at this, hw2, kn2, st2⟩, fun h12 => ?_⟩
  subst h12
  obtain ⟨rfl, rfl⟩ := hS.refused (by omega)
  rw [space_self (hk.1.mlt ho)] at kn2
  refine kn2.1.candidates.mono ?_
  rintro y w3 ⟨ad, cap, rfl, hcd, b3⟩
  refine ⟨_, rfl, (vicC_ok w3 ad (cands Sk) cap (by have := cands_len Sk; omega) hcd).mono ?_⟩
  rintro y w4 ⟨rfl, b4⟩
  have b24 : Below w2.heap.size w2 w4 := b3.trans (b4.mono b3.size)
  have kn4 := kn2.below b24
  have st4 : Stp w w4 A A1 := st2.trans (.below b24)
  have hw4 := hw2.stp (.below b24)
  refine ⟨_, _, rfl, fun hok => ?_, fun hok => ?_⟩
  · have hv : ¬ 0 < (vic (cands Sk)).1 := by simpa using hok
    exact ⟨l, Sk, A1, by have := hacc _ _ _ (.nobody ho hS hv); rwa [List.append_nil] at this, hw4, kn4, st4⟩
  · have hv : 0 < (vic (cands Sk)).1 := by simpa using hok
    obtain ⟨hx1, ox, hxo, hxr⟩ := vic_cand hv
    refine (kn4.end_yes hxo hq hx1 108).mono ?_
    rintro y w5 ⟨rfl, A5, k5, st5⟩
    have hw5 := hw4.stp st5
    have st05 := st4.trans st5
    obtain ⟨v9, w9, hr, hw9, hg9⟩ := hw5.more (by omega) st05.wt.size k5.1.lt (vic (cands Sk)).2
    have hout : ∀ x, vw.ownBlock = some x → ¬ A5 x ∧ x ≠ 4 ∧ x ≠ 0 ∧ x ≠ 2 := fun x e => by
      have := (hw5.lt x e).1
      exact ⟨hw5.off x e, by omega, by omega, by omega⟩
    have k9 : KN w9 m H (endKS Sk (vic (cands Sk)).2 ox 108) q A5 := ⟨k5.1.grownOut hg9 hout, k5.2⟩
    have st9 : Stp w w9 A A5 := st05.grownOut hg9 (fun x e => (hw5.lt x e).1)
    refine ⟨rfl, v9, w9, hr _ rfl, fun he => ?_, fun hne => ?_⟩
    · subst he
      have : ox = o := by rw [ho] at hxo; exact (Option.some.inj hxo).symm
      subst this
      exact ⟨_, _, A5, hacc _ _ _ (.self ho hS hv rfl), hw9, k9, st9⟩
    · have hlt := cands_end hk hxo hx1 108
      refine ⟨⟨_, _, A5, by omega, ?_, ?_, fun rest er S' r => ?_, hw9, k9, st9⟩, by omega⟩
      · rw [List.length_append]; simp only [List.length_cons, List.length_nil]; omega
      · show delO Sk.O (vic (cands Sk)).2 p = some o
        unfold delO
        rw [if_neg (Ne.symm hne)]; exact ho
      · rw [List.append_assoc]
        exact hacc _ _ _ (.goes ho hS hv rfl hxo hx1 hne r)
set_option maxRecDepth 100000 in
set_option maxHeartbeats 4000000 in
theorem KN.store_yes (h : KN w m H S q A) (ho : S.O p = some o) (hq : q ≤ 200) (a k v : Int) (ha : (Lit.int .i64 a).wf = true) :
    Calls Tryz.prog 42 #[wp H.kb, .int .i64 p, .int .i64 a, .int .i64 k, .int .i64 v] w fun y w' => ∃ vw er, y = .returned (.tuple #[vw, uev er]) ∧ StoreD w m H S q A p a k v vw er w' := by
  have hF := h.1.find_yes ho
  have hg : 4 < w.heap.size ∧ 0 < w.heap.size ∧ 2 < w.heap.size := by
    obtain ⟨G, k, e⟩ := h.1
    exact ⟨k.ml_lt, k.er_lt, k.zero_lt⟩
  have h0 : StoreW w m H S q A p a k v o (cands S).length (.slice none 0 0) w := ⟨[], S, A, Nat.le_refl _, by have := cands_len S; simpa using this, ho, fun _ _ _ r => r, Wn.nil w A, h, Stp.refl _ _⟩
  have hstep := fun mm vw wr (hh : StoreW w m H S q A p a k v o mm vw wr) => hh.step hg hq ha
  have HS : Aside _ := hstep
  have H0 : Aside _ := h0
  generalize (cands S).length = N at *
  clear h ho hg h0 hstep
  go_enter Tryz.func42, Tryz.ntmps42
  go_wp2_with (go_at_call 51; refine hF.mono ?_; rintro e w1 ⟨rfl, hw⟩; subst w1)
  clear hF
  go_loopg [14] N (fun mm s14 wr => StoreW w m H S q A p a k v o mm s14 wr)
  case atStart => exact H0.out
  case round =>
    clear H0
    obtain ⟨d0, hSt⟩ := HS.out gk u14 wr hrel
    clear hrel HS
    go_upto_region 6 with (go_at_call 121; refine hSt.mono ?_; rintro e w1 ⟨er, rfl, hT⟩)
    clear hSt d0
    by_cases h12 : er = 12
    · subst h12
      go_upto_region 9 with (first
        | (go_at_call 17; refine hT.mono ?_; rintro e w2 ⟨rfl, hx, hc⟩; have hc9 := hc rfl; clear hx hc)
        | (go_at_call 123; refine hc9.mono ?_; rintro e w3 ⟨z, rfl, hV⟩)
        | (go_at_call 122; refine hV.mono ?_; rintro e w4 ⟨X, ok, rfl, hf, ht⟩))
      have HF : Aside _ := hf
      have HT : Aside _ := ht
      clear hf ht hT hc9 hV
      cases ok with
      | false =>
        have hR := HF.out rfl
        have HR : Aside _ := hR
        clear HF HT hR
        go_wp2_with fail
        go_ret2
        exact ⟨_, 12, rfl, HR.out⟩
      | true =>
        have hE := HT.out rfl
        clear HF HT
        go_upto_region 14 with (go_at_call 64; refine hE.mono ?_; rintro e w5 ⟨rfl, v9, w9, hrun, hp, hn⟩)
        have HP : Aside _ := hp
        have HN : Aside _ := hn
        clear hp hn hE
        by_cases hX : X = p
        · have hR := HP.out hX
          have HR : Aside _ := hR
          clear HP HN hR
          subst hX
          go_wp2_with (at_builtin; refine wpList_app_run rfl _ _ 23 rfl _ _ v9 w9 rfl rfl hrun ?_)
          go_ret2
          exact ⟨_, 10, rfl, HR.out⟩
        · have hR := HN.out hX
          have HR : Aside _ := hR
          have hX' : (X == p) = false := by simpa using hX
          clear HP HN hR
          go_wp2_with (at_builtin; refine wpList_app_run rfl _ _ 23 rfl _ _ v9 w9 rfl rfl hrun ?_)
          go_roundg (gk - 1)
          case measure => have := HR.out.2; omega
          case rel => exact HR.out.1
    · have h12' : (er != 12) = true := by simpa using h12
      have HN : Aside (er ≠ 12) := h12
      clear h12
      go_wp2_with (go_at_call 17; refine hT.mono ?_; rintro e w2 ⟨rfl, hx, hc⟩; have HX : Aside _ := hx; clear hx hc)
      go_ret2
      exact ⟨_, er, rfl, HX.out HN.out⟩
end
end Go.Proofs.YtcfhanoekniaaaaGreatDoor

namespace Go.Proofs.YtcfhanoekniaaaaGreatDoor
open Go.RowKit Go.Maps

section
variable {w w' V : World} {m : Int} {H : KH} {S : KS} {U : Nat → Nat → Int} {q : Nat} {A A' : Nat → Prop} {p : Int} {o : Ow}
/-- What Write comes to. -/
noncomputable def wrO (S : KS) (o : Ow) (x : Int) (s : List UInt8) : Int × Int × DS := writeO S.D (tsJ S o.j) x s (o.m 2)
noncomputable def writeKS (S : KS) (p : Int) (o : Ow) (x : Int) (s : List UInt8) : KS :=
  if (wrO S o x s).2.1 = 14 then (S.files (wrO S o x s).2.2 o.j (tsJ S o.j)).procs (if killE S.P p 5 = 0 then killP S.P p 5 else S.P) else S.files (wrO S o x s).2.2 o.j (tsJ S o.j)
set_option maxRecDepth 100000 in
set_option maxHeartbeats 4000000 in
theorem KN.write_yes (h : KN w m H S q A) (ho : S.O p = some o) (x : Int) (s : List UInt8) (hs : s.length < 100000) :
    Calls Tryz.prog 16 #[wp H.kb, .int .i64 p, .int .i64 x, tx s] w fun y w' => y = .returned (.tuple #[.int .i64 (wrO S o x s).1, uev (wrO S o x s).2.1]) ∧ ∃ A', KN w' m H (writeKS S p o x s) (q + 1) A' ∧ Stp w w' A A' := by
  have hF := h.1.find_yes ho
  have hj := h.1.jlt ho
  have c0 := h.1.cells2 ho
  have hm : Calls Tryz.prog 60 #[lq (H.hs o.j), .int .i64 2] w.drew fun e w' => e = .returned (.int .i64 (o.m 2)) ∧ w' = w.drew := ((h.1.below (bel_drew w)).hd ho).most 2 (by omega) (by omega)
  have hU : Calls Tryz.prog 59 #[wp H.f, wp (H.tb o.j), .int .i64 x, tx s, .int .i64 (o.m 2)] w.drew fun y w' => y = .returned (.tuple #[.int .i64 (wrO S o x s).1, uev (wrO S o x s).2.1]) ∧ (w'.cell? ⟨H.kb, 2, none⟩ = some (wp H.f) ∧ w'.cell? ⟨H.hs o.j, 1, none⟩ = some (wp (H.tb o.j))) ∧ Calls Tryz.prog 17 #[uev (wrO S o x s).2.1] w' fun y w2 => y = .returned (.int .i64 (wrO S o x s).2.1) ∧ w2.cell? ⟨H.kb, 3, none⟩ = some (wp H.t) ∧ ((wrO S o x s).2.1 ≠ 14 → ∃ A', KN w2 m H (writeKS S p o x s) (q + 1) A' ∧ Stp w w2 A A') ∧ ((wrO S o x s).2.1 = 14 → Calls Tryz.prog 61 #[wp H.t, .int .i64 p, .int .i64 5] w2 fun y w3 => ∃ z, y = .returned z ∧ ∃ A', KN w3 m H (writeKS S p o x s) (q + 1) A' ∧ Stp w w3 A A') := by
    refine ((h.1.below (bel_drew w)).writeT hj x s hs (o.m 2)).mono ?_
    rintro y w1 ⟨rfl, A1, h1, st1⟩
    have st1' : Stp w w1 A A1 := Stp.base (V := w.drew) rfl rfl rfl rfl st1
    refine ⟨rfl, h1.cells2 (p := p) (o := o) ho, (tell_err _ w1 h1.er).mono ?_⟩
    rintro y w2 ⟨rfl, b2⟩
    have kn1 : KN w1 m H (S.files (wrO S o x s).2.2 o.j (tsJ S o.j)) (q + 1) A1 := h1.filesN h.2 ho hj rfl
    have kn2 := kn1.below b2
    have st2 : Stp w w2 A A1 := st1'.trans (.below b2)
    refine ⟨rfl, kn2.1.c3, fun hne => ⟨A1, ?_, st2⟩, fun he => ?_⟩
    · unfold writeKS; rw [if_neg hne]; exact kn2
    · refine (kn2.1.killK p 5 (h.1.wfp ho)).mono ?_
      rintro y w3 ⟨rfl, A3, k3, st3⟩
      refine ⟨_, rfl, A3, ?_, st2.trans st3⟩
      unfold writeKS
      rw [if_pos he]
      exact k3.procsN kn2.2 (fun x => runs_kill _ _ _ _)
  generalize writeKS S p o x s = S2 at *
  generalize (wrO S o x s).1 = K at *
  generalize (wrO S o x s).2.1 = E at *
  generalize o.m 2 = M2 at *
  clear h ho hj hs
  go_enter Tryz.func16, Tryz.ntmps16
  go_upto_region 4 with (go_at_call 51; refine hF.mono ?_; rintro e w1 ⟨rfl, hw⟩; subst w1)
  go_region_held3 (fun w' => w'.cell? ⟨H.kb, 2, none⟩ = some (wp H.f) ∧ w'.cell? ⟨H.hs o.j, 1, none⟩ = some (wp (H.tb o.j))) (first | exact c0 | exact c1) (first
    | (go_at_call 60; refine hm.mono ?_; rintro e w9 ⟨rfl, hw9⟩; subst w9)
    | (go_at_call 59; refine hU.mono ?_; rintro e w1 ⟨rfl, c1, hT⟩))
  all_goals
    clear hU hF c0 c1 hm
    by_cases hE : E = 14
    · subst hE
      go_upto_region 6 with (go_at_call 17; refine hT.mono ?_; rintro e w2 ⟨rfl, c3, hn, hy⟩)
      have hy9 := hy trivial
      clear hn hy hT
      go_wp2_with (go_at_call 61; refine hy9.mono ?_; rintro e w3 ⟨z, rfl, hR⟩)
      go_ret2
      exact ⟨rfl, hR⟩
    · have hE' : (E == 14) = false := by simpa using hE
      have HE : Aside (E ≠ 14) := hE
      clear hE
      go_wp2_with (go_at_call 17; refine hT.mono ?_; rintro e w2 ⟨rfl, c3, hn, hy⟩; have HN : Aside _ := hn; clear hn hy)
      go_ret2
      exact ⟨rfl, HN.out HE.out⟩
end
end Go.Proofs.YtcfhanoekniaaaaGreatDoor

namespace Go.Proofs.YtcfhanoekniaaaaGreatDoor
open Go.RowKit Go.Shelf Go.Lib Go.Sort Go.Maps

/-- One frame more is in use. -/
theorem used_more {t t' : Int → Nat} {n f : Nat} (hf : f < n) (h0 : t (f : Int) = 0) (h1 : t' (f : Int) ≠ 0) (ho : ∀ x : Int, 0 ≤ x → x ≠ (f : Int) → (t x = 0 ↔ t' x = 0)) : used t' n = used t n + 1 := by
  rw [used_eq, used_eq]
  refine sumTo_set (f := f) (d := 1) (by simp [h0, h1]) (fun i hi => ?_) n 0 (by omega) (by omega)
  have := ho i (by omega) (by omega)
  by_cases e : t (i : Int) = 0
  · rw [if_pos e, if_pos (this.1 e)]
  · rw [if_neg e, if_neg (fun e' => e (this.2 e'))]

def P1 : PM := mapTo (fun _ => none) 0 2 3
theorem P1_0 : P1 0 = some (3, -1) := by unfold P1 mapTo; rfl
theorem P1_frm (x : Int) : frm P1 x = -1 := by
  have : P1 x = some (3, -1) ∨ P1 x = none := by
    unfold P1 mapTo; by_cases h : 0 ≤ x ∧ x < 0 + ((2 : Nat) : Int)
    · exact .inl (if_pos h)
    · exact .inr (if_neg h)
  rcases this with h | h
  · rw [frm_some h]
  · exact frm_none h
theorem P1_sh {f : Int} (hf : 0 ≤ f) : sh P1 f = 0 := sh_zero hf (fun a => by rw [P1_frm]; omega)
theorem P2_sh {f z : Int} (_hf : 0 ≤ f) (hz : 0 ≤ z) : sh (putP P1 0 (3, f)) z = if f = z then 1 else 0 := by
  have h := sh_put (P := P1) (a := 0) (by omega) (by omega) (3, f) z
  rw [P1_sh hz, P1_frm, if_neg (by omega)] at h
  simpa using h
theorem P1_pg : (pg P1 0).1 = 3 := by unfold pg; rw [P1_0]; rfl
theorem P2_0 (f : Int) : putP P1 0 (3, f) 0 = some (3, f) := by unfold putP; rw [if_pos rfl]
theorem useE_3 {P : PM} {f : Int} (h : P 0 = some (3, f)) : useE P 0 1 2 = 0 ∧ useE P 0 1 1 = 0 := by unfold useE; rw [h]; exact ⟨by simp, by simp⟩
end Go.Proofs.YtcfhanoekniaaaaGreatDoor

namespace Go.Proofs.YtcfhanoekniaaaaGreatDoor
open Go.RowKit Go.Maps

section
variable {w w1 w2 : World} {m : Int} {A A' : Nat → Prop}
theorem Stp.toBelow (hb : Below w.heap.size w w1) (hA : ∀ i, A i → w.heap.size ≤ i) (st : Stp w1 w2 A A') : Below w.heap.size w w2 :=
  ⟨st.wt.os.trans hb.os, st.wt.tape.trans hb.tape, st.wt.output.trans hb.output, Nat.le_trans hb.size st.wt.size, fun i hi => by
    rw [st.wt.block i (Nat.lt_of_lt_of_le hi hb.size) (fun z => by have := hA i z; omega)]
    exact hb.block i hi⟩
theorem least_first : leastJ firstJ = 2 := leastJ_eq ⟨by omega, by unfold firstJ; rw [if_neg (by omega)], fun j h1 h2 => by
  have : j = 1 := by omega
  subst this; rfl⟩ (by omega)
theorem pids_first : (pidsJ firstJ).length = 1 := by decide
abbrev o1 : Ow := ⟨0, firstM, 0⟩
abbrev o2 : Ow := ⟨1, firstM, 0⟩
/-- What is there behind the fork. -/
noncomputable def keptS : KS := forkKS (firstS 4) 1 o1
theorem keptO : keptS.O 2 = some o2 := by
  show putO (firstS 4).O (leastJ firstJ) ⟨1, firstM, 0⟩ 2 = _
  rw [least_first]; rfl
theorem kept_map : mapKE keptS o2 0 2 3 = 0 := by
  have e : msJ keptS 1 = noP := rfl
  have e1 : mapE noP 0 2 3 = 0 := by decide +kernel
  unfold mapKE
  rw [e, if_neg (not_not_intro e1), if_pos]
  rw [show lenP noP = 0 from lenP_none]
  decide
noncomputable def keptS2 : KS := mapKS keptS o2 0 2 3
theorem keptS2_eq : keptS2 = keptS.space 1 P1 keptS.W := by
  unfold keptS2 mapKS
  rw [if_pos kept_map]
  have e : msJ keptS 1 = noP := rfl
  have e1 : mapE noP 0 2 3 = 0 := by decide +kernel
  have e1' : mapP noP 0 2 3 = P1 := by unfold mapP; rw [if_pos e1]; rfl
  rw [e, e1']
theorem keptMs2 : keptS2.Ms = [noP, P1] := by rw [keptS2_eq]; rfl
theorem tot2 {x : Int} (hx : 0 ≤ x) (P : PM) : totM [noP, P] x = sh P x := by
  unfold totM
  simp only [List.map_cons, List.map_nil, List.sum_cons, List.sum_nil]
  rw [show sh noP x = 0 from sh_empty hx]; omega
theorem kept_store {went : List Int} {er : Int} {S' : KS} (h : StoreK 2 0 1 5 keptS2 went er S') : went = [] ∧ er = 0 ∧ ∃ f : Nat, f < 4 ∧ ∃ D2 : Nat → Nat → Int, D2 f 1 = 5 ∧ S' = keptS2.space 1 (putP P1 0 (3, (f : Int))) D2 := by
  have hO : keptS2.O 2 = some o2 := by rw [keptS2_eq]; exact keptO
  have hm : msJ keptS2 1 = P1 := by unfold msJ; rw [keptMs2]; rfl
  have ht : ∀ x, 0 ≤ x → totM keptS2.Ms x = 0 := fun x hx => by rw [keptMs2, tot2 hx, P1_sh hx]
  have hn : keptS2.n = 4 := by rw [keptS2_eq]; rfl
  have hz : ∀ x, 0 ≤ x → sh P1 x + othM keptS2 1 x = 0 := fun x hx => by
    unfold othM; rw [ht x hx, P1_sh hx, Nat.zero_sub]
  have hs : ∀ {er P' D'}, StR keptS2.n (msJ keptS2 1) (othM keptS2 1) keptS2.W 0 1 5 er P' D' → ∃ f : Nat, f < 4 ∧ er = 0 ∧ P' = putP P1 0 (3, (f : Int)) ∧ D' f 1 = 5 := fun {er P' D'} hr => by
    rw [hm, hn] at hr
    rcases hr with ⟨h, _⟩ | ⟨_, h, _⟩ | ⟨_, _, h, _⟩ | ⟨_, _, f, hf1, hf2, h4, h5, h6⟩
    · exact absurd (useE_3 P1_0).1 h
    · exact absurd (P1_frm 0) h
    · exfalso
      rw [used_congr (t' := fun _ => 0) hz, used_zero] at h; omega
    · exact ⟨f, hf1, h4, by rw [h5, P1_pg], by rw [h6]; simp [upd]⟩
  cases h with
  | done ho hr h12 =>
    rw [hO] at ho
    cases ho
    obtain ⟨f, h1, rfl, rfl, h4⟩ := hs hr
    exact ⟨rfl, rfl, f, h1, _, h4, rfl⟩
  | nobody ho hr hv =>
    rw [hO] at ho
    cases ho
    obtain ⟨f, h1, h2, _⟩ := hs hr
    omega
  | self ho hr hv he =>
    rw [hO] at ho
    cases ho
    obtain ⟨f, h1, h2, _⟩ := hs hr
    omega
  | goes ho hr =>
    rw [hO] at ho
    cases ho
    obtain ⟨f, h1, h2, _⟩ := hs hr
    omega
theorem left_one {f : Nat} (hf : f < 4) {S : KS} (hn : S.n = 4) (hM : S.Ms = [noP, putP P1 0 (3, (f : Int))]) : S.n - used (totM S.Ms) S.n = 3 := by
  rw [hn]
  have h0 : used (fun _ => 0) 4 = 0 := used_zero 4
  have hf0 : (0 : Int) ≤ (f : Int) := by omega
  have ht : ∀ x, 0 ≤ x → totM S.Ms x = if (f : Int) = x then 1 else 0 := fun x hx => by rw [hM, tot2 hx, P2_sh hf0 hx]
  rw [used_more (t := fun _ => 0) hf rfl (by rw [ht _ hf0, if_pos rfl]; decide) (fun x hx hne => by rw [ht x hx, if_neg (fun h => hne h.symm)]), h0]
theorem left_all {S : KS} (hn : S.n = 4) (hM : S.Ms = [noP, noP]) : S.n - used (totM S.Ms) S.n = 4 := by
  rw [hn, used_congr (t' := fun _ => 0) (fun x hx => by rw [hM, tot2 hx]; exact sh_empty hx), used_zero]
/-- One call behind the other. -/
theorem kept_chain {ok : Bool} (w : World) (hm : w.cell? ⟨4, 0, none⟩ = some (.int .i64 m)) (he : w.cell? ⟨0, 0, none⟩ = some errT) (ht : TabH ok w) :
    Calls Tryz.prog 12 #[.int .i64 4] w fun y w1 => ∃ kb, y = .returned (.tuple #[wp kb, .nilIface]) ∧ Calls Tryz.prog 14 #[wp kb, .int .i64 1] w1 fun y w2 => y = .returned (.tuple #[.int .i64 2, .nilIface]) ∧ Calls Tryz.prog 45 #[wp kb, .int .i64 2, .int .i64 0, .int .i64 2, .int .i64 3] w2 fun y w3 => y = .returned .nilIface ∧ Calls Tryz.prog 42 #[wp kb, .int .i64 2, .int .i64 0, .int .i64 1, .int .i64 5] w3 fun y w4 => ∃ ad cap, y = .returned (.tuple #[.slice ad 0 cap, .nilIface]) ∧ Calls Tryz.prog 44 #[wp kb, .int .i64 2, .int .i64 0, .int .i64 1] w4 fun y w5 => y = .returned (.tuple #[.int .i64 5, .nilIface]) ∧ Calls Tryz.prog 39 #[wp kb] w5 fun y w6 => y = .returned (.int .i64 3) ∧ Calls Tryz.prog 20 #[wp kb, .int .i64 2, .int .i64 0] w6 fun y w7 => y = .returned .nilIface ∧ Calls Tryz.prog 39 #[wp kb] w7 fun y w8 => y = .returned (.int .i64 4) ∧ Below w.heap.size w w8 := by
  refine (kernelNew_ok w 4 (by omega) (by omega) hm he ht).mono ?_
  rintro y w1 ⟨H, A, rfl, k1, hA, b1, _⟩
  refine ⟨H.kb, rfl, (k1.fork_go (p := 1) (o := o1) rfl (by omega) (by show (pidsJ firstJ).length < 24; rw [pids_first]; omega)).mono ?_⟩
  rintro y w2 ⟨rfl, H', A2, ⟨hkb, _⟩, k2, st2⟩
  have e2 : leastJ (firstS 4).P = 2 := least_first
  rw [e2, ← hkb]
  have k2 : KN w2 m H' keptS 1 A2 := k2
  refine ⟨rfl, (k2.map_yes keptO 0 2 3 (by omega)).mono ?_⟩
  rintro y w3 ⟨rfl, A3, k3, st3⟩
  rw [kept_map, uev_zero]
  have k3 : KN w3 m H' keptS2 1 A3 := k3
  have hO : keptS2.O 2 = some o2 := by rw [keptS2_eq]; exact keptO
  refine ⟨rfl, (k3.store_yes hO (by omega) 0 1 5 (by kernel_rfl)).mono ?_⟩
  rintro y w4 ⟨vw, er, rfl, went, S', A4, hS, hw, k4, st4⟩
  obtain ⟨rfl, rfl, f, hf, D2, hD, rfl⟩ := kept_store hS
  obtain ⟨ad, cap, rfl⟩ : ∃ ad cap, vw = .slice ad 0 cap := by
    rcases hw.row.2 with ⟨e, _⟩ | ⟨g, cap, cur, e, _⟩
    · exact ⟨none, 0, e⟩
    · exact ⟨_, cap, e⟩
  have hms : (keptS2.space 1 (putP P1 0 (3, (f : Int))) D2).Ms = [noP, putP P1 0 (3, (f : Int))] := by
    show keptS2.Ms.set 1 _ = _
    rw [keptMs2]; rfl
  have hn4 : (keptS2.space 1 (putP P1 0 (3, (f : Int))) D2).n = 4 := by
    show keptS2.n = 4
    rw [keptS2_eq]; rfl
  have hm4 : msJ (keptS2.space 1 (putP P1 0 (3, (f : Int))) D2) 1 = putP P1 0 (3, (f : Int)) := by unfold msJ; rw [hms]; rfl
  have hL := k4.1.load_yes (p := 2) (o := o2) hO 0 1 (by kernel_rfl)
  have hu := (useE_3 (P2_0 (f : Int))).2
  have hv : loadV (msJ (keptS2.space 1 (putP P1 0 (3, (f : Int))) D2) o2.j) (keptS2.space 1 (putP P1 0 (3, (f : Int))) D2).W 0 1 = 5 := by
    show loadV (msJ (keptS2.space 1 (putP P1 0 (3, (f : Int))) D2) 1) D2 0 1 = 5
    rw [hm4]
    unfold loadV
    rw [if_pos hu]
    unfold wd
    rw [frm_some (P2_0 (f : Int)), if_neg (by simp only; omega)]
    simpa using hD
  have hu' : useE (msJ (keptS2.space 1 (putP P1 0 (3, (f : Int))) D2) o2.j) 0 1 1 = 0 := by
    show useE (msJ (keptS2.space 1 (putP P1 0 (3, (f : Int))) D2) 1) 0 1 1 = 0
    rw [hm4]; exact hu
  rw [hv, hu', uev_zero] at hL
  refine ⟨ad, cap, rfl, hL.mono ?_⟩
  rintro y w5 ⟨rfl, b5⟩
  have k5 := k4.below b5
  have h3 := k5.1.left
  rw [left_one hf hn4 hms] at h3
  refine ⟨rfl, h3.mono ?_⟩
  rintro y w6 ⟨rfl, rfl⟩
  refine ⟨rfl, (k5.exit_yes (p := 2) (o := o2) hO (by omega) 0).mono ?_⟩
  rintro y w7 ⟨rfl, A7, k7, st7⟩
  have e7 : exitKS (keptS2.space 1 (putP P1 0 (3, (f : Int))) D2) 2 o2 0 = endKS (keptS2.space 1 (putP P1 0 (3, (f : Int))) D2) 2 o2 0 := if_neg (by omega)
  rw [e7] at k7
  have h4 := k7.1.left
  have hms7 : (endKS (keptS2.space 1 (putP P1 0 (3, (f : Int))) D2) 2 o2 0).Ms = [noP, noP] := by
    show (keptS2.space 1 (putP P1 0 (3, (f : Int))) D2).Ms.set 1 noP = _
    rw [hms]; rfl
  rw [left_all (S := endKS (keptS2.space 1 (putP P1 0 (3, (f : Int))) D2) 2 o2 0) hn4 hms7] at h4
  refine ⟨rfl, h4.mono ?_⟩
  rintro y w8 ⟨rfl, rfl⟩
  exact ⟨rfl, Stp.toBelow b1 hA ((((st2.trans st3).trans st4).trans (.below b5)).trans st7)⟩
set_option maxRecDepth 100000 in
set_option maxHeartbeats 4000000 in
theorem kept_ok {ok : Bool} (w : World) (hm : w.cell? ⟨4, 0, none⟩ = some (.int .i64 m)) (he : w.cell? ⟨0, 0, none⟩ = some errT) (ht : TabH ok w) :
    Calls Tryz.prog 11 #[] w fun e w' => e = .returned (.bool true) ∧ Below w.heap.size w w' := by
  have ch := kept_chain w hm he ht
  clear hm he ht
  go_enter Tryz.func11, Tryz.ntmps11
  go_wp2_with (first
    | (go_at_call 39; refine c7.mono ?_; rintro e w8 ⟨rfl, hR⟩)
    | (go_at_call 12; refine ch.mono ?_; rintro e w1 ⟨kb, rfl, c1⟩)
    | (go_at_call 14; refine c1.mono ?_; rintro e w2 ⟨rfl, c2⟩)
    | (go_at_call 45; refine c2.mono ?_; rintro e w3 ⟨rfl, c3⟩)
    | (go_at_call 42; refine c3.mono ?_; rintro e w4 ⟨ad, cap, rfl, c4⟩)
    | (go_at_call 44; refine c4.mono ?_; rintro e w5 ⟨rfl, c5⟩)
    | (go_at_call 39; refine c5.mono ?_; rintro e w6 ⟨rfl, c6⟩)
    | (go_at_call 20; refine c6.mono ?_; rintro e w7 ⟨rfl, c7⟩))
  go_ret
  exact ⟨rfl, hR⟩
end
end Go.Proofs.YtcfhanoekniaaaaGreatDoor

namespace Go.Proofs.YtcfhanoekniaaaaGreatDoor
open Go.RowKit Go.Maps

/-- Both ends are open: how many numbers are of each, the bytes between. -/
def dT (a b : Int) (B : List UInt8) : DS := ⟨nullT, fun i => if i = 3 then some ⟨3, 2, 0, 1, 0⟩ else if i = 2 then some ⟨2, 1, 0, 1, 0⟩ else none, fun i => if i = 3 then some b else if i = 2 then some a else none, fun i => if i = 1 then some (B, 1, 1) else none, 3⟩
/-- The one that says has ended. -/
def dZ (B : List UInt8) : DS := ⟨nullT, fun i => if i = 2 then some ⟨2, 1, 0, 1, 0⟩ else none, fun i => if i = 2 then some 1 else none, fun i => if i = 1 then some (B, 1, 0) else none, 3⟩
abbrev tA : Ns := [(2, false), (3, false), (0, false), (0, false), (0, false), (0, false), (0, false), (0, false)]
abbrev tB : Ns := [(0, false), (3, false), (0, false), (0, false), (0, false), (0, false), (0, false), (0, false)]
abbrev tC9 : Ns := [(2, false), (0, false), (0, false), (0, false), (0, false), (0, false), (0, false), (0, false)]
noncomputable def tkS (D : DS) (Ts : List Ns) : KS := ⟨4, forkP firstJ 1 2, D, Ts, [noP, noP], fun _ _ => 0, putO (firstS 4).O 2 o2⟩
section
variable {w w' w0 : World} {m : Int} {H : KH} {S : KS} {U : Nat → Nat → Int} {q q' : Nat} {A : Nat → Prop} {B s : List UInt8} {kb : Nat} {D : DS} {Ts : List Ns}
theorem KX.lower (h : KX w m H S U q' A) (hi : Inv S.D S.Ts (2 * q)) (hn : S.D.nx ≤ 3 * (q : Int)) (hf : S.Ts.length ≤ q + 1) : KX w m H S U q A := by
  obtain ⟨G, k, e⟩ := h
  exact ⟨G, { k with kd := { k.kd with inv := hi }, nx := hn, few := hf }, e⟩
theorem tk_pipe : pipeD (noneD nullT) = dT 1 1 [] := rfl
theorem tk_pipeN : pipeN (noneD nullT) zeroN = tA := by decide
theorem tk_fork : forkD (dT 1 1 []) tA = dT 2 2 [] := by
  show incR (incR (dT 1 1 []) 2) 3 = _
  unfold incR dT
  simp only [DS.mk.injEq, true_and, and_true]
  funext i
  by_cases e3 : i = 3
  · simp [e3]
  · by_cases e2 : i = 2
    · simp [e2]
    · simp [e3, e2]
theorem tk_close1 : closeD (dT 2 2 []) tA 0 = dT 1 2 [] := by
  unfold closeD
  rw [if_pos (by decide)]
  show closeK (dT 2 2 []) 2 = _
  unfold closeK
  show (if (0 : Int) < 2 - 1 then { dT 2 2 [] with R := fun i => if i = 2 then some (2 - 1) else (dT 2 2 []).R i } else _) = _
  rw [if_pos (by omega)]
  unfold dT
  simp only [DS.mk.injEq, true_and, and_true]
  funext i
  by_cases e3 : i = 3
  · simp [e3]
  · by_cases e2 : i = 2
    · simp [e2]
    · simp [e3, e2]
theorem tk_close2 : closeD (dT 1 2 []) tA 1 = dT 1 1 [] := by
  unfold closeD
  rw [if_pos (by decide)]
  show closeK (dT 1 2 []) 3 = _
  unfold closeK
  show (if (0 : Int) < 2 - 1 then { dT 1 2 [] with R := fun i => if i = 3 then some (2 - 1) else (dT 1 2 []).R i } else _) = _
  rw [if_pos (by omega)]
  unfold dT
  simp only [DS.mk.injEq, true_and, and_true]
  funext i
  by_cases e3 : i = 3
  · simp [e3]
  · simp [e3]
theorem tk_close3 : closeD (dT 1 1 B) tB 1 = dZ B := by
  unfold closeD
  rw [if_pos (by decide)]
  show closeK (dT 1 1 B) 3 = _
  unfold closeK
  show (if (0 : Int) < 1 - 1 then _ else if (3 : Int) = 1 then _ else ({ T := nullT, E := fun i => if i = 3 then none else (dT 1 1 B).E i, R := fun i => if i = 3 then none else if i = 3 then some (1 - 1) else (dT 1 1 B).R i, P := fun i => if i = 1 then some (turnP (((dT 1 1 B).P 1).getD ([], 0, 0)) 3) else (dT 1 1 B).P i, nx := 3 } : DS)) = _
  rw [if_neg (by omega), if_neg (by omega)]
  unfold dT dZ
  simp only [DS.mk.injEq, true_and, and_true]
  refine ⟨?_, ?_, ?_⟩
  · funext i
    by_cases e3 : i = 3
    · simp [e3]
    · simp [e3]
  · funext i
    by_cases e3 : i = 3
    · simp [e3]
    · simp [e3]
  · funext i
    by_cases e1 : i = 1
    · subst e1; rfl
    · simp [e1]
theorem tk_write (_hs : B.length ≤ 16) : writeO (dT 1 1 B) tB 1 s 200 = ((wrN 1 B s : Int), wrE 1 B s, dT 1 1 (wrB 1 B s)) := by
  have h := writeO_end (D := dT 1 1 B) (N := tB) (i := 1) (e := ⟨3, 2, 0, 1, 0⟩) (s := s) (a := 200) (by omega) (by simp) (by simp) rfl (by simp) (by simp) (p := (B, 1, 1)) rfl
  refine Eq.trans h ?_
  refine Prod.ext rfl (Prod.ext rfl ?_)
  unfold dT
  simp only [DS.mk.injEq, true_and, and_true]
  funext i
  by_cases e1 : i = 1
  · simp [e1]
  · simp [e1]
theorem tk_read (a : Int) : readO (dT 1 1 B) tC9 0 a = (B.take a.toNat, rdE 1 B a, dT 1 1 (B.drop a.toNat)) := by
  refine Eq.trans (readO_end (D := dT 1 1 B) (N := tC9) (i := 0) (e := ⟨2, 1, 0, 1, 0⟩) (a := a) (by omega) (by simp) (by simp) rfl (by simp) (by simp) (p := (B, 1, 1)) rfl) ?_
  refine Prod.ext rfl (Prod.ext rfl ?_)
  unfold dT
  simp only [DS.mk.injEq, true_and, and_true]
  funext i
  by_cases e1 : i = 1
  · simp [e1]
  · simp [e1]
theorem tk_end (a : Int) (ha : 0 < a) : (readO (dZ []) tC9 0 a).1 = [] ∧ (readO (dZ []) tC9 0 a).2.1 = 0 := by
  rw [show (0 : Int) = ((0 : Nat) : Int) from rfl, readO_end (D := dZ []) (N := tC9) (i := 0) (e := ⟨2, 1, 0, 1, 0⟩) (by omega) (by simp) (by simp) rfl (by simp) (by simp) (p := ([], 1, 0)) rfl]
  refine ⟨by simp, ?_⟩
  show rdE 0 [] a = 0
  unfold rdE
  rw [if_neg (by omega), if_neg (by omega), if_neg (fun e => by have := e.2; omega)]
theorem tk_O1 : (tkS D Ts).O 1 = some o1 := rfl
theorem tk_O2 : (tkS D Ts).O 2 = some o2 := rfl
/-- The two of them, newer than w0; the bytes between. -/
def TK (w0 w : World) (m : Int) (kb : Nat) (B : List UInt8) : Prop := ∃ H A, H.kb = kb ∧ KN w m H (tkS (dT 1 1 B) [tB, tC9]) 2 A ∧ (∀ i, A i → w0.heap.size ≤ i) ∧ Below w0.heap.size w0 w
theorem Stp.far {A A' : Nat → Prop} (hb : Below w0.heap.size w0 w) (hA : ∀ i, A i → w0.heap.size ≤ i) (st : Stp w w' A A') : ∀ i, A' i → w0.heap.size ≤ i := fun i hi => by
  rcases st.own i hi with z | z
  · exact hA i z
  · exact Nat.le_trans hb.size z
theorem TK.few (h : TK w0 w m kb B) : B.length ≤ 16 := by
  obtain ⟨H, A, _, k, _⟩ := h
  obtain ⟨_, _, p, e, h1, _⟩ := (k.1.inv.core.ent 3 ⟨3, 2, 0, 1, 0⟩ rfl).pipe (by simp)
  have e : some (B, (1 : Int), (1 : Int)) = some p := e
  cases e
  exact h1
theorem TK.bel (h : TK w0 w m kb B) : Below w0.heap.size w0 w := by
  obtain ⟨_, _, _, _, _, b⟩ := h
  exact b
theorem TK.below (h : TK w0 w m kb B) (b : Below w.heap.size w w') : TK w0 w' m kb B := by
  obtain ⟨H, A, e, k, hA, hb⟩ := h
  exact ⟨H, A, e, k.below b, hA, hb.trans (b.mono hb.size)⟩
theorem TK.base {V : World} (h : TK V w m kb B) (b : Below w0.heap.size w0 V) : TK w0 w m kb B := by
  obtain ⟨H, A, e, k, hA, hb⟩ := h
  exact ⟨H, A, e, k, fun i hi => Nat.le_trans b.size (hA i hi), b.trans (hb.mono b.size)⟩
theorem TK.er (h : TK w0 w m kb B) : w.cell? ⟨0, 0, none⟩ = some errT := by
  obtain ⟨H, A, e, k, hA, hb⟩ := h
  exact k.1.er
theorem TK.write (h : TK w0 w m kb B) (s : List UInt8) (hs : s.length < 100000) :
    Calls Tryz.prog 16 #[wp kb, .int .i64 1, .int .i64 1, tx s] w fun y w' => y = .returned (.tuple #[.int .i64 (wrN 1 B s : Nat), uev (wrE 1 B s)]) ∧ TK w0 w' m kb (wrB 1 B s) := by
  have hB := h.few
  obtain ⟨H, A, rfl, k, hA, hb⟩ := h
  have e : wrO (tkS (dT 1 1 B) [tB, tC9]) o1 1 s = ((wrN 1 B s : Int), wrE 1 B s, dT 1 1 (wrB 1 B s)) := tk_write hB
  refine (k.write_yes (o := o1) tk_O1 1 s hs).mono ?_
  rintro y w' ⟨rfl, A', k', st⟩
  have eS : writeKS (tkS (dT 1 1 B) [tB, tC9]) 1 o1 1 s = tkS (dT 1 1 (wrB 1 B s)) [tB, tC9] := by
    unfold writeKS
    rw [e]
    rw [if_neg]
    · rfl
    · show ¬ wrE 1 B s = 14
      unfold wrE
      rw [if_neg (by omega)]
      split
      · omega
      · split <;> omega
  rw [eS] at k'
  rw [e]
  have hi : Inv (dT 1 1 (wrB 1 B s)) [tB, tC9] (2 * 2) := by
    have := k.1.inv.putP (p := 1) (x := (B, 1, 1)) (y := (wrB 1 B s, 1, 1)) rfl ⟨wrB_len 1 B s hB, by simp, by simp, by simp, by simp⟩
    have e9 : ({ dT 1 1 B with P := fun i => if i = 1 then some (wrB 1 B s, 1, 1) else (dT 1 1 B).P i } : DS) = dT 1 1 (wrB 1 B s) := by
      unfold dT
      simp only [DS.mk.injEq, true_and, and_true]
      funext i
      by_cases e1 : i = 1
      · simp [e1]
      · simp [e1]
    rw [← e9]
    exact this
  exact ⟨rfl, H, A', rfl, ⟨k'.1.lower hi (by show (3 : Int) ≤ _; omega) (by show 2 ≤ 3; omega), k'.2⟩, Stp.far hb hA st, Stp.toBelow hb hA st⟩
theorem TK.read (h : TK w0 w m kb B) (a : Int) :
    Calls Tryz.prog 19 #[wp kb, .int .i64 2, .int .i64 0, .int .i64 a] w fun y w' => y = .returned (.tuple #[tx (B.take a.toNat), uev (rdE 1 B a)]) ∧ TK w0 w' m kb (B.drop a.toNat) := by
  obtain ⟨H, A, rfl, k, hA, hb⟩ := h
  refine (k.read_yes (o := o2) tk_O2 0 a).mono ?_
  rintro y w' ⟨rfl, A', k', st⟩
  have e : readO (tkS (dT 1 1 B) [tB, tC9]).D (tsJ (tkS (dT 1 1 B) [tB, tC9]) o2.j) 0 a = (B.take a.toNat, rdE 1 B a, dT 1 1 (B.drop a.toNat)) := tk_read a
  rw [e] at k' ⊢
  exact ⟨rfl, H, A', rfl, k', Stp.far hb hA st, Stp.toBelow hb hA st⟩
/-- What stands behind the words: the end of the one, the end of the other. -/
theorem TK.ends (h : TK w0 w m kb []) :
    Calls Tryz.prog 15 #[wp kb, .int .i64 1, .int .i64 1] w fun y w1 => y = .returned .nilIface ∧ Calls Tryz.prog 19 #[wp kb, .int .i64 2, .int .i64 0, .int .i64 1] w1 fun y w2 => y = .returned (.tuple #[tx [], .nilIface]) ∧ Calls Tryz.prog 20 #[wp kb, .int .i64 2, .int .i64 0] w2 fun y w3 => y = .returned .nilIface ∧ Calls Tryz.prog 21 #[wp kb] w3 fun y w4 => y = .returned (.int .i64 0) ∧ Below w0.heap.size w0 w4 := by
  obtain ⟨H, A, rfl, k, hA, hb⟩ := h
  refine (k.close_yes (o := o1) tk_O1 (by omega) 1).mono ?_
  rintro y w1 ⟨rfl, A1, k1, st1⟩
  have e1 : closeKS (tkS (dT 1 1 []) [tB, tC9]) o1 1 = tkS (dZ []) [zeroN, tC9] := by
    unfold closeKS
    have e1 : closeD (tkS (dT 1 1 []) [tB, tC9]).D (tsJ (tkS (dT 1 1 []) [tB, tC9]) o1.j) 1 = dZ [] := tk_close3
    have e2 : closeN (tsJ (tkS (dT 1 1 []) [tB, tC9]) o1.j) 1 = zeroN := by decide
    rw [e1, e2]; rfl
  rw [e1] at k1
  refine ⟨congrArg (fun z => Ending.returned (uev z)) (if_pos (show hasN tB 1 = true by decide)), (k1.read_yes (o := o2) tk_O2 0 1).mono ?_⟩
  rintro y w2 ⟨rfl, A2, k2, st2⟩
  obtain ⟨e3, e4⟩ := tk_end 1 (by omega)
  have e3' : (readO (tkS (dZ []) [zeroN, tC9]).D (tsJ (tkS (dZ []) [zeroN, tC9]) o2.j) 0 1).1 = [] := e3
  have e4' : (readO (tkS (dZ []) [zeroN, tC9]).D (tsJ (tkS (dZ []) [zeroN, tC9]) o2.j) 0 1).2.1 = 0 := e4
  rw [e3', e4']
  refine ⟨rfl, (k2.exit_yes (p := 2) (o := o2) rfl (by omega) 0).mono ?_⟩
  rintro y w3 ⟨rfl, A3, k3, st3⟩
  have e5 : exitKS ((tkS (dZ []) [zeroN, tC9]).files (readO (tkS (dZ []) [zeroN, tC9]).D (tsJ (tkS (dZ []) [zeroN, tC9]) o2.j) 0 1).2.2 o2.j (tsJ (tkS (dZ []) [zeroN, tC9]) o2.j)) 2 o2 0 = endKS ((tkS (dZ []) [zeroN, tC9]).files (readO (tkS (dZ []) [zeroN, tC9]).D (tsJ (tkS (dZ []) [zeroN, tC9]) o2.j) 0 1).2.2 o2.j (tsJ (tkS (dZ []) [zeroN, tC9]) o2.j)) 2 o2 0 := if_neg (by omega)
  rw [e5] at k3
  generalize hS : endKS ((tkS (dZ []) [zeroN, tC9]).files (readO (tkS (dZ []) [zeroN, tC9]).D (tsJ (tkS (dZ []) [zeroN, tC9]) o2.j) 0 1).2.2 o2.j (tsJ (tkS (dZ []) [zeroN, tC9]) o2.j)) 2 o2 0 = S9 at k3
  have hT : S9.Ts = [zeroN, zeroN] := by rw [← hS]; rfl
  have hE : ∀ x, S9.D.E x = none := fun x => by
    have hi := k3.1.inv
    by_cases h0 : 0 < x
    · have h1 := hi.core.cE x h0
      rw [hT] at h1
      have h2 : cntS x [zeroN, zeroN] = 0 := by
        have : x ≠ 0 := by omega
        simp [cntS, cntN, zeroN, List.replicate, Ne.symm this]
      rw [h2] at h1
      cases e : S9.D.E x with
      | none => rfl
      | some z => rw [e] at h1; exact absurd (h1.1 rfl) (by omega)
    · cases e : S9.D.E x with
      | none => rfl
      | some z => exact absurd (hi.core.giv.e x (by rw [e]; rfl)).1 h0
  refine ⟨rfl, (k3.1.open_ok (IsN.nil hE)).mono ?_⟩
  rintro y w4 ⟨rfl, rfl⟩
  exact ⟨rfl, Stp.toBelow hb hA ((st1.trans st2).trans st3)⟩
/-- What stands ahead of them. -/
theorem talk_first {ok : Bool} (w : World) (hm : w.cell? ⟨4, 0, none⟩ = some (.int .i64 m)) (he : w.cell? ⟨0, 0, none⟩ = some errT) (ht : TabH ok w) :
    Calls Tryz.prog 12 #[.int .i64 4] w fun y w1 => ∃ kb, y = .returned (.tuple #[wp kb, .nilIface]) ∧ Calls Tryz.prog 13 #[wp kb, .int .i64 1] w1 fun y w2 => y = .returned (.tuple #[.int .i64 0, .int .i64 1, .nilIface]) ∧ Calls Tryz.prog 14 #[wp kb, .int .i64 1] w2 fun y w3 => y = .returned (.tuple #[.int .i64 2, .nilIface]) ∧ Calls Tryz.prog 15 #[wp kb, .int .i64 1, .int .i64 0] w3 fun y w4 => y = .returned .nilIface ∧ Calls Tryz.prog 15 #[wp kb, .int .i64 2, .int .i64 1] w4 fun y w5 => y = .returned .nilIface ∧ TK w w5 m kb [] := by
  refine (kernelNew_ok w 4 (by omega) (by omega) hm he ht).mono ?_
  rintro y w1 ⟨H, A, rfl, k1, hA, b1, _⟩
  have hF : fitsF (firstS 4) o1 2 := by unfold fitsF; decide
  refine ⟨H.kb, rfl, (k1.pipe_yes (p := 1) (o := o1) rfl (by omega) (n := 0) (IsN.nil fun _ => rfl)).mono ?_⟩
  rintro y w2 ⟨x, y9, c, S', rfl, hR, A2, k2, st2⟩
  obtain ⟨rfl, rfl, rfl, rfl⟩ : x = 0 ∧ y9 = 1 ∧ c = 0 ∧ S' = (firstS 4).files (dT 1 1 []) 0 tA := by
    rcases hR with ⟨h, _⟩ | ⟨_, D', N', hP, rfl⟩
    · exact absurd hF h
    · rcases hP with ⟨h, _⟩ | ⟨_, rfl, rfl, rfl, rfl, rfl⟩
      · exfalso
        rcases h with h | h
        · have : usedN (tsJ (firstS 4) o1.j) = 0 := by decide
          omega
        · omega
      · refine ⟨by decide, by decide, rfl, ?_⟩
        have e1 : pipeD (firstS 4).D = dT 1 1 [] := tk_pipe
        have e2 : pipeN (firstS 4).D (tsJ (firstS 4) o1.j) = tA := tk_pipeN
        rw [e1, e2]
  refine ⟨rfl, (k2.fork_go (p := 1) (o := o1) rfl (by omega) (by show (pidsJ firstJ).length < 24; rw [pids_first]; omega)).mono ?_⟩
  rintro y w3 ⟨rfl, H', A3, ⟨hkb, _⟩, k3, st3⟩
  have e3 : leastJ ((firstS 4).files (dT 1 1 []) 0 tA).P = 2 := least_first
  have eS : forkKS ((firstS 4).files (dT 1 1 []) 0 tA) 1 o1 = tkS (dT 2 2 []) [tA, tA] := by
    unfold forkKS
    rw [e3]
    unfold KS.born
    have e4 : forkD (((firstS 4).files (dT 1 1 []) 0 tA).procs (forkP ((firstS 4).files (dT 1 1 []) 0 tA).P 1 2)).D (tsJ (((firstS 4).files (dT 1 1 []) 0 tA).procs (forkP ((firstS 4).files (dT 1 1 []) 0 tA).P 1 2)) o1.j) = dT 2 2 [] := tk_fork
    rw [e4]; rfl
  rw [eS] at k3
  rw [e3, ← hkb]
  refine ⟨rfl, (k3.close_yes (p := 1) (o := o1) tk_O1 (by omega) 0).mono ?_⟩
  rintro y w4 ⟨rfl, A4, k4, st4⟩
  have e4 : closeKS (tkS (dT 2 2 []) [tA, tA]) o1 0 = tkS (dT 1 2 []) [tB, tA] := by
    unfold closeKS
    have e1 : closeD (tkS (dT 2 2 []) [tA, tA]).D (tsJ (tkS (dT 2 2 []) [tA, tA]) o1.j) 0 = dT 1 2 [] := tk_close1
    have e2 : closeN (tsJ (tkS (dT 2 2 []) [tA, tA]) o1.j) 0 = tB := by decide
    rw [e1, e2]; rfl
  rw [e4] at k4
  refine ⟨congrArg (fun z => Ending.returned (uev z)) (if_pos (show hasN tA 0 = true by decide)), (k4.close_yes (p := 2) (o := o2) tk_O2 (by omega) 1).mono ?_⟩
  rintro y w5 ⟨rfl, A5, k5, st5⟩
  have e5 : closeKS (tkS (dT 1 2 []) [tB, tA]) o2 1 = tkS (dT 1 1 []) [tB, tC9] := by
    unfold closeKS
    have e1 : closeD (tkS (dT 1 2 []) [tB, tA]).D (tsJ (tkS (dT 1 2 []) [tB, tA]) o2.j) 1 = dT 1 1 [] := tk_close2
    have e2 : closeN (tsJ (tkS (dT 1 2 []) [tB, tA]) o2.j) 1 = tC9 := by decide
    rw [e1, e2]; rfl
  rw [e5] at k5
  have st := ((st2.trans st3).trans st4).trans st5
  exact ⟨congrArg (fun z => Ending.returned (uev z)) (if_pos (show hasN tA 1 = true by decide)), H', A5, rfl, k5, Stp.far b1 hA st, Stp.toBelow b1 hA st⟩
end
end Go.Proofs.YtcfhanoekniaaaaGreatDoor
