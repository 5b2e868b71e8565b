/- A kernel: Dup, by its Go text; variables in boxes that a closure writes. -/
import Derived.Test.YtcfhanoekniaaaaGreatDoorZPayK
namespace Go.Proofs.YtcfhanoekniaaaaGreatDoor
open Go.RowKit Go.Maps

section
variable {w w' w1 w2 : World} {m : Int} {H : KH} {S : KS} {U : Nat → Nat → Int} {q : Nat} {G : KG} {A : Nat → Prop} {p : Int} {o : Ow}
/-- No block of the kernel's turned. -/
theorem KM.same (h : KM w m H S U q G) (hs : w.heap.size ≤ w'.heap.size) (hk : ∀ i, G.κ i ≠ 0 → w'.heap[i]? = w.heap[i]?) (g1 : w'.heap[4]? = w.heap[4]?) (g2 : w'.heap[0]? = w.heap[0]?) (g3 : w'.heap[2]? = w.heap[2]?) : KM w' m H S U q G := by
  have hb : ∀ i c, G.κ i = c → c ≠ 0 → w'.heap[i]? = w.heap[i]? := fun i c e h0 => hk i (by omega)
  have m1 : w'.cell? ⟨4, 0, none⟩ = some (.int .i64 m) := by
    rw [World.cell?_of_block (w := w) (a := ⟨4, 0, none⟩) g1]; exact h.kd.ml
  have m2 : w'.cell? ⟨0, 0, none⟩ = some errT := by
    rw [World.cell?_of_block (w := w) (a := ⟨0, 0, none⟩) g2]; exact h.kd.er
  obtain ⟨c, hc⟩ := h.qj
  obtain ⟨z, hm⟩ := h.map
  exact { h with
    head := (hb _ 6 h.kk (by omega)).trans h.head
    al := h.al.keep (fun i hi => hb i 1 (h.k1 i hi) (by omega)) (hb _ 6 h.kE (by omega)) (hb _ 6 h.kB (by omega)) (fun i hi => by
      rw [h.sp i hi]
      exact hb _ 6 (h.ks i (by rw [← h.Ll]; exact hi)) (by omega))
    kd := h.kd.keep (fun i hi => hb i 2 (h.k2 i hi) (by omega)) hs m1 m2
    qj := ⟨c, ⟨hc.toQM.keep (hb _ 6 h.kt (by omega)) (hb _ 3 h.k3 (by omega)), hc.ok, hc.dj⟩⟩
    map := ⟨z, hm.keep (hb _ 4 h.k4 (by omega))⟩
    hold := fun p o ho => (h.hold p o ho).keep (hb _ 5 (h.k5 p o ho) (by omega))
    tab := h.tab.keep g3
    klt := fun i hi => Nat.lt_of_lt_of_le (h.klt i hi) hs }
/-- A box of one's own: not the kernel's, and no variable of a package's. -/
def Out (w : World) (A : Nat → Prop) (x : Nat) : Prop := ¬ A x ∧ x ≠ 4 ∧ x ≠ 0 ∧ x ≠ 2 ∧ w.frozen? ⟨x, 0, none⟩ = false ∧ ∃ v, w.cell? ⟨x, 0, none⟩ = some v
theorem Out.stp {A' : Nat → Prop} {x : Nat} (h : Out w A x) (st : Stp w w' A A') : Out w' A' x := by
  obtain ⟨h1, h2, h3, h4, h5, v, hv⟩ := h
  obtain ⟨c, n⟩ := st.cellKept hv h1
  have hlt : x < w.heap.size := World.block_lt_of_cell? w _ hv
  exact ⟨n, h2, h3, h4, by rw [World.frozen?_of_block (w := w) (a := ⟨x, 0, none⟩) (st.wt.block x hlt h1)]; exact h5, v, c⟩
theorem KX.box (h : KX w m H S U q A) {x : Nat} (hx : Out w A x) (v : Value) : KX (w.setCell ⟨x, 0, none⟩ v) m H S U q A := by
  obtain ⟨G, k, e⟩ := h
  obtain ⟨h1, h2, h3, h4, _, _⟩ := hx
  have hk : ∀ i, i ≠ x → (w.setCell ⟨x, 0, none⟩ v).heap[i]? = w.heap[i]? := fun i hi => Below.heap_setCell _ _ _ _ (fun e => hi (by rw [e]))
  exact ⟨G, k.same (by simp [World.setCell]) (fun i hi => hk i (fun z => by subst z; exact h1 ((e i).2 hi))) (hk _ (Ne.symm h2)) (hk _ (Ne.symm h3)) (hk _ (Ne.symm h4)), e⟩
theorem Out.set {x y : Nat} (h : Out w A x) (v : Value) : Out (w.setCell ⟨y, 0, none⟩ v) A x := by
  obtain ⟨h1, h2, h3, h4, h5, u, hu⟩ := h
  refine ⟨h1, h2, h3, h4, by rw [World.frozen?_setCell]; exact h5, ?_⟩
  by_cases e : x = y
  · subst e; exact ⟨v, World.cell?_setCell_same _ _ _ hu⟩
  · exact ⟨u, by rw [World.cell?_setCell_other _ _ _ _ (by intro z; simp only [Addr.mk.injEq, and_true] at z; exact e z.symm)]; exact hu⟩
theorem Out.got {x : Nat} (h : Out w A x) (v : Value) : (w.setCell ⟨x, 0, none⟩ v).cell? ⟨x, 0, none⟩ = some v := by
  obtain ⟨_, _, _, _, _, u, hu⟩ := h
  exact World.cell?_setCell_same _ _ _ hu
theorem set_other {x b o' : Nat} {u : Value} (hu : w.cell? ⟨b, o', none⟩ = some u) (hne : b ≠ x) (v : Value) : (w.setCell ⟨x, 0, none⟩ v).cell? ⟨b, o', none⟩ = some u := by
  rw [World.cell?_setCell_other _ _ _ _ (by intro z; simp only [Addr.mk.injEq, and_true] at z; exact hne z.1.symm)]; exact hu
theorem Bxs.set {x : Nat} {l : List (Nat × Value)} (h : Bxs w A l) (hl : ∀ y ∈ l, y.1 ≠ x) (v : Value) : Bxs (w.setCell ⟨x, 0, none⟩ v) A l := fun y hy => ⟨set_other (h y hy).1 (hl y hy) v, (h y hy).2⟩
end
end Go.Proofs.YtcfhanoekniaaaaGreatDoor

namespace Go.Proofs.YtcfhanoekniaaaaGreatDoor
open Go.RowKit Go.Maps

section
variable {w w' w1 w2 V : World} {m : Int} {H : KH} {S : KS} {U : Nat → Nat → Int} {q : Nat} {G : KG} {A A' X : Nat → Prop} {p : Int} {o : Ow}
theorem Stp.inner (hb : Below w.heap.size w V) (st : Stp V w2 (Or2 A X) (Or2 A' X)) (hX : ∀ i, X i → w.heap.size ≤ i) : Stp w w2 A A' :=
  ⟨⟨st.wt.os.trans hb.os, st.wt.tape.trans hb.tape, st.wt.output.trans hb.output, Nat.le_trans hb.size st.wt.size, fun i hi hn => by
    rw [st.wt.block i (Nat.lt_of_lt_of_le hi hb.size) (fun z => by
      rcases z with z | z
      · exact hn z
      · have := hX i z; omega)]
    exact hb.block i hi⟩, fun i hi => by
    rcases st.own i (.inl hi) with z | z
    · rcases z with z | z
      · exact .inl z
      · exact .inr (hX i z)
    · exact .inr (Nat.le_trans hb.size z)⟩
/-- A last store into a box that is newer than the call. -/
theorem Stp.boxed {x : Nat} (st : Stp w w2 A A') (hx : w.heap.size ≤ x) (v : Value) : Stp w (w2.setCell ⟨x, 0, none⟩ v) A A' :=
  ⟨⟨st.wt.os, st.wt.tape, st.wt.output, by simpa [World.setCell] using st.wt.size, fun i hi hn => by
    rw [Below.heap_setCell _ _ _ _ (fun e => by simp only at e; omega)]
    exact st.wt.block i hi hn⟩, st.own⟩
theorem KN.box (h : KN w m H S q A) {x : Nat} (hx : Out w A x) (v : Value) : KN (w.setCell ⟨x, 0, none⟩ v) m H S q A := ⟨h.1.box hx v, h.2⟩
theorem KX.outOf (h : KX w m H S U q A) (_hb : Below w.heap.size w V) {x : Nat} (hx : w.heap.size ≤ x) {v : Value} (hc : V.cell? ⟨x, 0, none⟩ = some v) (hf : V.frozen? ⟨x, 0, none⟩ = false) : Out V A x := by
  obtain ⟨G, k, e⟩ := h
  have g1 := k.ml_lt
  have g2 := k.er_lt
  have g3 := k.zero_lt
  exact ⟨fun z => by have := k.klt x ((e x).1 z); omega, by omega, by omega, by omega, hf, v, hc⟩
theorem frozenUp (hb : Below w.heap.size w V) {x : Nat} (hx : x < w.heap.size) (h : w.frozen? ⟨x, 0, none⟩ = false) : V.frozen? ⟨x, 0, none⟩ = false := by
  rw [World.frozen?_of_block (w := w) (a := ⟨x, 0, none⟩) (hb.block x hx)]; exact h
/-- What Dup tells, and leaves. -/
def fitsF (S : KS) (o : Ow) (n : Int) : Prop := ((usedN (tsJ S o.j) : Nat) : Int) + n ≤ o.m 1
instance (S : KS) (o : Ow) (n : Int) : Decidable (fitsF S o n) := by unfold fitsF; infer_instance
end
end Go.Proofs.YtcfhanoekniaaaaGreatDoor

namespace Go.Proofs.YtcfhanoekniaaaaGreatDoor
open Go.RowKit Go.Maps

section
variable {w w' w1 w2 V : World} {m : Int} {H : KH} {S : KS} {U : Nat → Nat → Int} {q : Nat} {G : KG} {A A' X : Nat → Prop} {p : Int} {o : Ow}
theorem stp_set2 {x y : Nat} {A' : Nat → Prop} (st : Stp w w1 A A') (u v : Value) {X : Nat → Prop} (hX : X x ∧ X y) : Stp w ((w1.setCell ⟨x, 0, none⟩ u).setCell ⟨y, 0, none⟩ v) (Or2 A X) (Or2 A' X) :=
  ⟨⟨st.wt.os, st.wt.tape, st.wt.output, by simpa [World.setCell] using st.wt.size, fun i hi hn => by
    rw [Below.heap_setCell _ _ _ _ (fun e => hn (.inr (by simp only at e; rw [e]; exact hX.2))), Below.heap_setCell _ _ _ _ (fun e => hn (.inr (by simp only at e; rw [e]; exact hX.1)))]
    exact st.wt.block i hi (fun z => hn (.inl z))⟩, fun i hi => by
    rcases hi with z | z
    · rcases st.own i z with y | y
      · exact .inl (.inl y)
      · exact .inr y
    · exact .inl (.inr z)⟩
set_option maxRecDepth 100000 in
set_option maxHeartbeats 4000000 in
theorem KX.pipe1 (h : KX w m H S U q A) (ho : S.O p = some o) (hq : q ≤ 200) {n : Nat} (hN : IsN S.D.E n) {xk xh xa xb : Nat} (hb : Bxs w A [(xk, wp H.kb), (xh, wp (H.hs o.j))]) (hxa : Out w A xa) (hxb : Out w A xb) (hne : xk ≠ xa ∧ xh ≠ xa ∧ xk ≠ xb ∧ xh ≠ xb ∧ xa ≠ xb) :
    Calls Tryz.prog 53 #[wp xk, wp xh, wp xa, wp xb] w fun y w' => ∃ x y9 c D' N', y = .returned (uev c) ∧ PipeO S.D (tsJ S o.j) n x y9 c D' N' ∧ (w'.cell? ⟨xa, 0, none⟩ = some (.int .i64 x) ∧ w'.cell? ⟨xb, 0, none⟩ = some (.int .i64 y9) ∧ ∃ A', Out w' A' xa ∧ Out w' A' xb ∧ KX w' m H (S.files D' o.j N') U (q + 1) A' ∧ Stp w w' (Or2 A (fun i => i = xa ∨ i = xb)) (Or2 A' (fun i => i = xa ∨ i = xb))) := by
  have cells : ∀ {w' : World} {A' : Nat → Prop} {S' : KS} {q' : Nat}, KX w' m H S' U q' A' → S'.O p = some o → Bxs w' A' [(xk, wp H.kb), (xh, wp (H.hs o.j))] → w'.cell? ⟨xk, 0, none⟩ = some (wp H.kb) ∧ w'.cell? ⟨H.kb, 2, none⟩ = some (wp H.f) ∧ w'.cell? ⟨xh, 0, none⟩ = some (wp (H.hs o.j)) ∧ w'.cell? ⟨H.hs o.j, 1, none⟩ = some (wp (H.tb o.j)) := fun h' ho' b' =>
    ⟨(b' (xk, _) (by simp)).1, h'.c2, (b' (xh, _) (by simp)).1, (h'.hd ho').at 1⟩
  have c0 := cells h ho hb
  have hM : Calls Tryz.prog 54 #[wp H.f, wp (H.tb o.j)] w.drew fun y w' => ∃ x y9 c, y = .returned (.tuple #[.int .i64 x, .int .i64 y9, uev c]) ∧ (w'.cell? ⟨xk, 0, none⟩ = some (wp H.kb) ∧ w'.cell? ⟨H.kb, 2, none⟩ = some (wp H.f) ∧ w'.cell? ⟨xh, 0, none⟩ = some (wp (H.hs o.j)) ∧ w'.cell? ⟨H.hs o.j, 1, none⟩ = some (wp (H.tb o.j))) ∧ (w'.frozen? ⟨xa, 0, none⟩ = false ∧ w'.frozen? ⟨xb, 0, none⟩ = false) ∧ (∃ v, w'.cell? ⟨xa, 0, none⟩ = some v) ∧ (∃ v, w'.cell? ⟨xb, 0, none⟩ = some v) ∧ (∃ v, (w'.setCell ⟨xa, 0, none⟩ (.int .i64 x)).cell? ⟨xb, 0, none⟩ = some v) ∧ (∃ v, (w'.setCell ⟨xb, 0, none⟩ (.int .i64 y9)).cell? ⟨xa, 0, none⟩ = some v) ∧ ((w'.setCell ⟨xa, 0, none⟩ (.int .i64 x)).cell? ⟨xk, 0, none⟩ = some (wp H.kb) ∧ (w'.setCell ⟨xa, 0, none⟩ (.int .i64 x)).cell? ⟨H.kb, 2, none⟩ = some (wp H.f) ∧ (w'.setCell ⟨xa, 0, none⟩ (.int .i64 x)).cell? ⟨xh, 0, none⟩ = some (wp (H.hs o.j)) ∧ (w'.setCell ⟨xa, 0, none⟩ (.int .i64 x)).cell? ⟨H.hs o.j, 1, none⟩ = some (wp (H.tb o.j))) ∧ ((w'.setCell ⟨xb, 0, none⟩ (.int .i64 y9)).cell? ⟨xk, 0, none⟩ = some (wp H.kb) ∧ (w'.setCell ⟨xb, 0, none⟩ (.int .i64 y9)).cell? ⟨H.kb, 2, none⟩ = some (wp H.f) ∧ (w'.setCell ⟨xb, 0, none⟩ (.int .i64 y9)).cell? ⟨xh, 0, none⟩ = some (wp (H.hs o.j)) ∧ (w'.setCell ⟨xb, 0, none⟩ (.int .i64 y9)).cell? ⟨H.hs o.j, 1, none⟩ = some (wp (H.tb o.j))) ∧ (((w'.setCell ⟨xa, 0, none⟩ (.int .i64 x)).setCell ⟨xb, 0, none⟩ (.int .i64 y9)).cell? ⟨xk, 0, none⟩ = some (wp H.kb) ∧ ((w'.setCell ⟨xa, 0, none⟩ (.int .i64 x)).setCell ⟨xb, 0, none⟩ (.int .i64 y9)).cell? ⟨H.kb, 2, none⟩ = some (wp H.f) ∧ ((w'.setCell ⟨xa, 0, none⟩ (.int .i64 x)).setCell ⟨xb, 0, none⟩ (.int .i64 y9)).cell? ⟨xh, 0, none⟩ = some (wp (H.hs o.j)) ∧ ((w'.setCell ⟨xa, 0, none⟩ (.int .i64 x)).setCell ⟨xb, 0, none⟩ (.int .i64 y9)).cell? ⟨H.hs o.j, 1, none⟩ = some (wp (H.tb o.j))) ∧ (((w'.setCell ⟨xb, 0, none⟩ (.int .i64 y9)).setCell ⟨xa, 0, none⟩ (.int .i64 x)).cell? ⟨xk, 0, none⟩ = some (wp H.kb) ∧ ((w'.setCell ⟨xb, 0, none⟩ (.int .i64 y9)).setCell ⟨xa, 0, none⟩ (.int .i64 x)).cell? ⟨H.kb, 2, none⟩ = some (wp H.f) ∧ ((w'.setCell ⟨xb, 0, none⟩ (.int .i64 y9)).setCell ⟨xa, 0, none⟩ (.int .i64 x)).cell? ⟨xh, 0, none⟩ = some (wp (H.hs o.j)) ∧ ((w'.setCell ⟨xb, 0, none⟩ (.int .i64 y9)).setCell ⟨xa, 0, none⟩ (.int .i64 x)).cell? ⟨H.hs o.j, 1, none⟩ = some (wp (H.tb o.j))) ∧
      Aside (∃ D' N', PipeO S.D (tsJ S o.j) n x y9 c D' N' ∧ (((w'.setCell ⟨xa, 0, none⟩ (.int .i64 x)).setCell ⟨xb, 0, none⟩ (.int .i64 y9)).cell? ⟨xa, 0, none⟩ = some (.int .i64 x) ∧ ((w'.setCell ⟨xa, 0, none⟩ (.int .i64 x)).setCell ⟨xb, 0, none⟩ (.int .i64 y9)).cell? ⟨xb, 0, none⟩ = some (.int .i64 y9) ∧ ∃ A', Out ((w'.setCell ⟨xa, 0, none⟩ (.int .i64 x)).setCell ⟨xb, 0, none⟩ (.int .i64 y9)) A' xa ∧ Out ((w'.setCell ⟨xa, 0, none⟩ (.int .i64 x)).setCell ⟨xb, 0, none⟩ (.int .i64 y9)) A' xb ∧ KX ((w'.setCell ⟨xa, 0, none⟩ (.int .i64 x)).setCell ⟨xb, 0, none⟩ (.int .i64 y9)) m H (S.files D' o.j N') U (q + 1) A' ∧ Stp w ((w'.setCell ⟨xa, 0, none⟩ (.int .i64 x)).setCell ⟨xb, 0, none⟩ (.int .i64 y9)) (Or2 A (fun i => i = xa ∨ i = xb)) (Or2 A' (fun i => i = xa ∨ i = xb))) ∧ (((w'.setCell ⟨xb, 0, none⟩ (.int .i64 y9)).setCell ⟨xa, 0, none⟩ (.int .i64 x)).cell? ⟨xa, 0, none⟩ = some (.int .i64 x) ∧ ((w'.setCell ⟨xb, 0, none⟩ (.int .i64 y9)).setCell ⟨xa, 0, none⟩ (.int .i64 x)).cell? ⟨xb, 0, none⟩ = some (.int .i64 y9) ∧ ∃ A', Out ((w'.setCell ⟨xb, 0, none⟩ (.int .i64 y9)).setCell ⟨xa, 0, none⟩ (.int .i64 x)) A' xa ∧ Out ((w'.setCell ⟨xb, 0, none⟩ (.int .i64 y9)).setCell ⟨xa, 0, none⟩ (.int .i64 x)) A' xb ∧ KX ((w'.setCell ⟨xb, 0, none⟩ (.int .i64 y9)).setCell ⟨xa, 0, none⟩ (.int .i64 x)) m H (S.files D' o.j N') U (q + 1) A' ∧ Stp w ((w'.setCell ⟨xb, 0, none⟩ (.int .i64 y9)).setCell ⟨xa, 0, none⟩ (.int .i64 x)) (Or2 A (fun i => i = xa ∨ i = xb)) (Or2 A' (fun i => i = xa ∨ i = xb)))) := by
    refine ((h.below (bel_drew w)).pipeT (h.jlt ho) hq hN).mono ?_
    rintro y w' ⟨D', N', ⟨x, y9, c, rfl, hP⟩, A', h', st⟩
    have st' : Stp w w' A A' := Stp.base (V := w.drew) rfl rfl rfl rfl st
    have ha' := hxa.stp st'
    have hb9 := hxb.stp st'
    have hb' := hb.stp st'
    have nea : ∀ y ∈ [(xk, wp H.kb), (xh, wp (H.hs o.j))], (y : Nat × Value).1 ≠ xa := fun y hy => by
      simp at hy
      rcases hy with rfl | rfl <;> first | exact hne.1 | exact hne.2.1
    have neb : ∀ y ∈ [(xk, wp H.kb), (xh, wp (H.hs o.j))], (y : Nat × Value).1 ≠ xb := fun y hy => by
      simp at hy
      rcases hy with rfl | rfl <;> first | exact hne.2.2.1 | exact hne.2.2.2.1
    have ka := h'.box ha' (.int .i64 x)
    have kb := h'.box hb9 (.int .i64 y9)
    have kab := ka.box (hb9.set (y := xa) (.int .i64 x)) (.int .i64 y9)
    have kba := kb.box (ha'.set (y := xb) (.int .i64 y9)) (.int .i64 x)
    have ba := hb'.set (x := xa) nea (.int .i64 x)
    have bb := hb'.set (x := xb) neb (.int .i64 y9)
    have bab := ba.set (x := xb) neb (.int .i64 y9)
    have bba := bb.set (x := xa) nea (.int .i64 x)
    refine ⟨x, y9, c, rfl, cells h' ho hb', ⟨ha'.2.2.2.2.1, hb9.2.2.2.2.1⟩, ha'.2.2.2.2.2, hb9.2.2.2.2.2, (hb9.set (y := xa) (.int .i64 x)).2.2.2.2.2, (ha'.set (y := xb) (.int .i64 y9)).2.2.2.2.2, cells ka ho ba, cells kb ho bb, cells kab ho bab, cells kba ho bba, D', N', hP, ⟨set_other (ha'.got _) hne.2.2.2.2 _, (hb9.set _).got _, A', (ha'.set _).set _, (hb9.set _).set _, kab, stp_set2 st' _ _ ⟨.inl rfl, .inr rfl⟩⟩, ⟨(ha'.set _).got _, set_other (hb9.got _) (Ne.symm hne.2.2.2.2) _, A', (ha'.set _).set _, (hb9.set _).set _, kba, stp_set2 st' _ _ ⟨.inr rfl, .inl rfl⟩⟩⟩
  clear h ho cells hb hxa hxb hN
  go_enter Tryz.func53, Tryz.ntmps53
  go_upto_region 1 with fail
  go_region_held3 (fun w' => w'.cell? ⟨xk, 0, none⟩ = some (wp H.kb) ∧ w'.cell? ⟨H.kb, 2, none⟩ = some (wp H.f) ∧ w'.cell? ⟨xh, 0, none⟩ = some (wp (H.hs o.j)) ∧ w'.cell? ⟨H.hs o.j, 1, none⟩ = some (wp (H.tb o.j))) (first | exact c0 | exact c1 | exact c3 | exact c4 | exact c5 | exact c6) (first
    | (go_at_call 54; refine hM.mono ?_; rintro e w1 ⟨x, y9, c, rfl, c1, ⟨f1, f2⟩, ⟨v1, hv1⟩, ⟨v2, hv2⟩, ⟨v3, hv3⟩, ⟨v4, hv4⟩, c3, c4, c5, c6, hR⟩))
  all_goals
    clear c0 c1 c3 c4 c5 c6 hM f1 f2 hv1 hv2 hv3 hv4
    go_wp2_with fail
    go_ret
    obtain ⟨D', N', hP, r1, r2⟩ := hR.out
    first
      | exact ⟨x, y9, c, D', N', rfl, hP, r1⟩
      | exact ⟨x, y9, c, D', N', rfl, hP, r2⟩
/-- What Pipe tells, and leaves. -/
def PipeR (S : KS) (o : Ow) (n : Nat) (x y c : Int) (S' : KS) : Prop := (¬ fitsF S o 2 ∧ x = 0 ∧ y = 0 ∧ c = 4 ∧ S' = S) ∨ (fitsF S o 2 ∧ ∃ D' N', PipeO S.D (tsJ S o.j) n x y c D' N' ∧ S' = S.files D' o.j N')
set_option maxRecDepth 100000 in
set_option maxHeartbeats 4000000 in
theorem KN.pipe_yes (h : KN w m H S q A) (ho : S.O p = some o) (hq : q ≤ 200) {n : Nat} (hN : IsN S.D.E n) :
    Calls Tryz.prog 13 #[wp H.kb, .int .i64 p] w fun y w' => ∃ x y9 c S', y = .returned (.tuple #[.int .i64 x, .int .i64 y9, uev c]) ∧ PipeR S o n x y9 c S' ∧ ∃ A', KN w' m H S' (q + 1) A' ∧ Stp w w' A A' := by
  have hpay : ∀ (V : World) (xk xh xa xb : Nat), Below w.heap.size w V → Bxs V A [(xk, wp H.kb), (xh, wp (H.hs o.j))] → xk ≠ xa ∧ xh ≠ xa ∧ xk ≠ xb ∧ xh ≠ xb ∧ xa ≠ xb → w.heap.size ≤ xa ∧ w.heap.size ≤ xb → Out V A xa → Out V A xb → V.cell? ⟨xa, 0, none⟩ = some (.int .i64 0) → V.cell? ⟨xb, 0, none⟩ = some (.int .i64 0) →
      Calls Tryz.prog 52 #[wp (H.hs o.j), .int .i64 1, .int .i64 2, .func (.func 53) #[] #[wp xk, wp xh, wp xa, wp xb]] V fun y w' => ∃ x y9 c, y = .returned (uev c) ∧ (w'.cell? ⟨xa, 0, none⟩ = some (.int .i64 x) ∧ w'.cell? ⟨xb, 0, none⟩ = some (.int .i64 y9) ∧ w'.frozen? ⟨xa, 0, none⟩ = false ∧ w'.frozen? ⟨xb, 0, none⟩ = false) ∧ Aside (∀ W : World, W.heap = w'.heap → W.os = w'.os → W.tape = w'.tape → W.output = w'.output → (((W.setCell ⟨xa, 0, none⟩ (.int .i64 x)).setCell ⟨xb, 0, none⟩ (.int .i64 y9)).cell? ⟨xa, 0, none⟩ = some (.int .i64 x) ∧ ((W.setCell ⟨xa, 0, none⟩ (.int .i64 x)).setCell ⟨xb, 0, none⟩ (.int .i64 y9)).cell? ⟨xb, 0, none⟩ = some (.int .i64 y9) ∧ Aside (∃ S', PipeR S o n x y9 c S' ∧ ∃ A', KN ((W.setCell ⟨xa, 0, none⟩ (.int .i64 x)).setCell ⟨xb, 0, none⟩ (.int .i64 y9)) m H S' (q + 1) A' ∧ Stp w ((W.setCell ⟨xa, 0, none⟩ (.int .i64 x)).setCell ⟨xb, 0, none⟩ (.int .i64 y9)) A A')) ∧ (((W.setCell ⟨xb, 0, none⟩ (.int .i64 y9)).setCell ⟨xa, 0, none⟩ (.int .i64 x)).cell? ⟨xa, 0, none⟩ = some (.int .i64 x) ∧ ((W.setCell ⟨xb, 0, none⟩ (.int .i64 y9)).setCell ⟨xa, 0, none⟩ (.int .i64 x)).cell? ⟨xb, 0, none⟩ = some (.int .i64 y9) ∧ Aside (∃ S', PipeR S o n x y9 c S' ∧ ∃ A', KN ((W.setCell ⟨xb, 0, none⟩ (.int .i64 y9)).setCell ⟨xa, 0, none⟩ (.int .i64 x)) m H S' (q + 1) A' ∧ Stp w ((W.setCell ⟨xb, 0, none⟩ (.int .i64 y9)).setCell ⟨xa, 0, none⟩ (.int .i64 x)) A A'))) := fun V xk xh xa xb bV bx hne hxo hA9 hB9 hz hy => by
    have hxl : xa < V.heap.size := World.block_lt_of_cell? V _ hz
    have hyl : xb < V.heap.size := World.block_lt_of_cell? V _ hy
    have fin : ∀ (w2 : World) (x y9 c : Int) (S' : KS) (A2 : Nat → Prop), w2.cell? ⟨xa, 0, none⟩ = some (.int .i64 x) → w2.cell? ⟨xb, 0, none⟩ = some (.int .i64 y9) → PipeR S o n x y9 c S' → KN w2 m H S' (q + 1) A2 → Stp w w2 A A2 → Out w2 A2 xa → Out w2 A2 xb → ∀ W : World, W.heap = w2.heap → W.os = w2.os → W.tape = w2.tape → W.output = w2.output → (((W.setCell ⟨xa, 0, none⟩ (.int .i64 x)).setCell ⟨xb, 0, none⟩ (.int .i64 y9)).cell? ⟨xa, 0, none⟩ = some (.int .i64 x) ∧ ((W.setCell ⟨xa, 0, none⟩ (.int .i64 x)).setCell ⟨xb, 0, none⟩ (.int .i64 y9)).cell? ⟨xb, 0, none⟩ = some (.int .i64 y9) ∧ Aside (∃ S', PipeR S o n x y9 c S' ∧ ∃ A', KN ((W.setCell ⟨xa, 0, none⟩ (.int .i64 x)).setCell ⟨xb, 0, none⟩ (.int .i64 y9)) m H S' (q + 1) A' ∧ Stp w ((W.setCell ⟨xa, 0, none⟩ (.int .i64 x)).setCell ⟨xb, 0, none⟩ (.int .i64 y9)) A A')) ∧ (((W.setCell ⟨xb, 0, none⟩ (.int .i64 y9)).setCell ⟨xa, 0, none⟩ (.int .i64 x)).cell? ⟨xa, 0, none⟩ = some (.int .i64 x) ∧ ((W.setCell ⟨xb, 0, none⟩ (.int .i64 y9)).setCell ⟨xa, 0, none⟩ (.int .i64 x)).cell? ⟨xb, 0, none⟩ = some (.int .i64 y9) ∧ Aside (∃ S', PipeR S o n x y9 c S' ∧ ∃ A', KN ((W.setCell ⟨xb, 0, none⟩ (.int .i64 y9)).setCell ⟨xa, 0, none⟩ (.int .i64 x)) m H S' (q + 1) A' ∧ Stp w ((W.setCell ⟨xb, 0, none⟩ (.int .i64 y9)).setCell ⟨xa, 0, none⟩ (.int .i64 x)) A A')) := fun w2 x y9 c S' A2 ca cb hP k2 st2 oa ob W e1 e2 e3 e4 => by
      have bW : Below w2.heap.size w2 W := ⟨e2, e3, e4, by rw [e1]; exact Nat.le_refl _, fun i _ => by rw [e1]⟩
      have kW := k2.below bW
      have stW : Stp w W A A2 := st2.up e1 e2 e3 e4
      have oaW := oa.stp (.below bW)
      have obW := ob.stp (.below bW)
      refine ⟨⟨set_other (oaW.got _) hne.2.2.2.2 _, (obW.set _).got _, S', hP, A2, (kW.box oaW _).box (obW.set _) _, (stW.boxed hxo.1 _).boxed hxo.2 _⟩, ⟨(oaW.set _).got _, set_other (obW.got _) (Ne.symm hne.2.2.2.2) _, S', hP, A2, (kW.box obW _).box (oaW.set _) _, (stW.boxed hxo.2 _).boxed hxo.1 _⟩⟩
    have keepB : ∀ {w2 w3 : World} {z : Nat} {v : Value}, Out V A z → w2.cell? ⟨z, 0, none⟩ = some v → w2.grownBy w3 (some (H.hs o.j)) → w3.heap[z]? = w2.heap[z]? := fun hz9 h4 g => g.block _ (World.block_lt_of_cell? _ _ h4) (fun e => by
        have := hz9.1
        have e2 := Option.some.inj e
        obtain ⟨G, k, hκ⟩ := h.1
        exact this ((hκ _).2 (by rw [e2, k.k5 p o ho]; omega)))
    refine (KX.payFirst (h.below bV) ho (n := 2) ⟨by omega, by omega⟩ (fn := 53) (lb := #[wp xk, wp xh, wp xa, wp xb]) (fun args w => by kernel_rfl) (X := (fun i => i = xa ∨ i = xb)) (fun i hi => by rcases hi with rfl | rfl <;> assumption) (Q := fun c D' N' w2 => ∃ x y9, PipeO S.D (tsJ S o.j) n x y9 c D' N' ∧ w2.cell? ⟨xa, 0, none⟩ = some (.int .i64 x) ∧ w2.cell? ⟨xb, 0, none⟩ = some (.int .i64 y9) ∧ w2.frozen? ⟨xa, 0, none⟩ = false ∧ w2.frozen? ⟨xb, 0, none⟩ = false) ?_ ?_).mono ?_
    · rintro c D' N' w2 w3 ⟨x, y9, h1, h4, h5, h6, h7⟩ g
      have ka := keepB hA9 h4 g
      have kb := keepB hB9 h5 g
      exact ⟨x, y9, h1, by rw [World.cell?_of_block (w := w2) (a := ⟨xa, 0, none⟩) ka]; exact h4, by rw [World.cell?_of_block (w := w2) (a := ⟨xb, 0, none⟩) kb]; exact h5, by rw [World.frozen?_of_block (w := w2) (a := ⟨xa, 0, none⟩) ka]; exact h6, by rw [World.frozen?_of_block (w := w2) (a := ⟨xb, 0, none⟩) kb]; exact h7⟩
    · intro V1 k1 st1
      refine (k1.pipe1 ho hq hN (bx.stp st1) (hA9.stp st1) (hB9.stp st1) hne).mono ?_
      rintro y w2 ⟨x, y9, c, D', N', rfl, hP, ca, cb, A2, oa, ob, k2, st2⟩
      obtain ⟨u1, u2⟩ := used_pipe (h.1.tlen o.j) (fun z hz => by rw [ts_at (h.1.jlt ho)] at hz; exact h.1.inv.nn (h.1.jlt ho) z hz) h.1.inv.core.giv.n0 hP
      refine ⟨_, _, _, rfl, ⟨x, y9, hP, ca, cb, oa.2.2.2.2.1, ob.2.2.2.2.1⟩, fun e => ?_, fun e => ?_, A2, fun i hi => by
        rcases hi with rfl | rfl
        · exact oa.1
        · exact ob.1, k2, st2⟩
      · rw [u1 e]; rfl
      · exact ⟨(u2 e).2.2.1, (u2 e).2.2.2⟩
    · rintro y w2 ⟨c, rfl, hR⟩
      rcases hR with ⟨hc, rfl, A2, k2, st2⟩ | ⟨hc, D', N', ⟨x, y9, hP, h4, h5, h6, h7⟩, A2, nA, k2, st2⟩
      · have oa := hA9.stp st2
        have ob := hB9.stp st2
        have za : w2.cell? ⟨xa, 0, none⟩ = some (.int .i64 0) := (st2.cellKept hz hA9.1).1
        have zb : w2.cell? ⟨xb, 0, none⟩ = some (.int .i64 0) := (st2.cellKept hy hB9.1).1
        exact ⟨0, 0, 4, rfl, ⟨za, zb, oa.2.2.2.2.1, ob.2.2.2.2.1⟩, fin w2 0 0 4 S A2 za zb (.inl ⟨hc, rfl, rfl, rfl, rfl⟩) (k2.more (by omega)) (st2.after bV) oa ob⟩
      · have oa : Out w2 A2 xa := ⟨nA xa (.inl rfl), hA9.2.1, hA9.2.2.1, hA9.2.2.2.1, h6, _, h4⟩
        have ob : Out w2 A2 xb := ⟨nA xb (.inr rfl), hB9.2.1, hB9.2.2.1, hB9.2.2.2.1, h7, _, h5⟩
        exact ⟨x, y9, c, rfl, ⟨h4, h5, h6, h7⟩, fin w2 x y9 c _ A2 h4 h5 (.inr ⟨hc, D', N', hP, rfl⟩) k2 (Stp.inner bV st2 (fun i hi => by rcases hi with rfl | rfl; exact hxo.1; exact hxo.2)) oa ob⟩
  have hF := fun W (hb : Below w.heap.size w W) => (h.1.below hb).find_yes ho
  have hA := h.1.lt
  have hO := fun V (hb : Below w.heap.size w V) x v hx hc hf => h.1.outOf (V := V) hb (x := x) hx (v := v) hc hf
  have HP : Aside _ := hpay
  have HF : Aside _ := hF
  have HO : Aside _ := hO
  clear h ho hpay hF hO hN hq
  go_enter Tryz.func13, Tryz.ntmps13
  go_upto_region 1 with fail
  obtain ⟨b3, s3, c1, c2, c3⟩ := box3 w (wp H.kb) (.int .i64 0) (.int .i64 0) 25 3 3
  have f3 := (box1 ((w.alloc (.cells #[wp H.kb] 25)).alloc (.cells #[.int .i64 0] 3)) (.int .i64 0) 3).2.2.2
  rw [(box2 w (wp H.kb) (.int .i64 0) 25 3).2.1] at f3
  have f2 : (((w.alloc (.cells #[wp H.kb] 25)).alloc (.cells #[.int .i64 0] 3)).alloc (.cells #[.int .i64 0] 3)).frozen? ⟨w.heap.size + 1, 0, none⟩ = false := by
    have := (box1 (w.alloc (.cells #[wp H.kb] 25)) (.int .i64 0) 3).2.2.2
    rw [(box1 w (wp H.kb) 25).2.1] at this
    exact frozenUp ((Below.refl _ _).alloc (Nat.le_refl _) _) (by rw [(box2 w (wp H.kb) (.int .i64 0) 25 3).2.1]; omega) this
  generalize ((w.alloc (.cells #[wp H.kb] 25)).alloc (.cells #[.int .i64 0] 3)).alloc (.cells #[.int .i64 0] 3) = W at *
  have hF := HF.out W b3
  clear HF
  go_upto_region 4 with (go_at_call 51; refine hF.mono ?_; rintro e w1 ⟨rfl, hw⟩; subst w1)
  obtain ⟨b4, s4, c4, _⟩ := box1 W (wp (H.hs o.j)) 99
  rw [s3] at c4
  have d1 := cellsUp b4 c1
  have d2 := cellsUp b4 c2
  have d3 := cellsUp b4 c3
  have f4 := frozenUp b4 (World.block_lt_of_cell? W _ c3) f3
  have f5 := frozenUp b4 (World.block_lt_of_cell? W _ c2) f2
  generalize W.alloc (.cells #[wp (H.hs o.j)] 99) = V at *
  have bV : Below w.heap.size w V := b3.trans (b4.mono b3.size)
  have hP := HP.out V w.heap.size (w.heap.size + 1 + 1 + 1) (w.heap.size + 1) (w.heap.size + 1 + 1) bV (fun y hy => by
    have hn : ∀ i, w.heap.size ≤ i → ¬ A i := fun i hi z => by have := hA i z; omega
    simp only [List.mem_cons, List.not_mem_nil, or_false] at hy
    rcases hy with rfl | rfl
    · exact ⟨d1, hn _ (Nat.le_refl _)⟩
    · exact ⟨c4, hn _ (by omega)⟩) ⟨by omega, by omega, by omega, by omega, by omega⟩ ⟨by omega, by omega⟩ (HO.out V bV _ _ (by omega) d2 f5) (HO.out V bV _ _ (by omega) d3 f4) d2 d3
  clear HP HO c1 c2 c3 f2 f3 f4 f5 hF b3 b4 bV s3 s4 d1 d2 d3
  go_upto_region 5 with (go_at_call 52; refine hP.mono ?_; rintro e w1 ⟨x, y9, c, rfl, ⟨g1, g2, g3, g4⟩, hR⟩)
  clear hP c4
  have ya := World.cell?_setCell_same w1 ⟨w.heap.size + 1, 0, none⟩ (.int .i64 x) g1
  have yb := World.cell?_setCell_same w1 ⟨w.heap.size + 1 + 1, 0, none⟩ (.int .i64 y9) g2
  obtain ⟨⟨_, yab, _⟩, ⟨yba, _, _⟩⟩ := hR.out w1 rfl rfl rfl rfl
  have YA : Aside _ := ya
  have YB : Aside _ := yb
  have YAB : Aside _ := yab
  have YBA : Aside _ := yba
  clear ya yb yab yba
  go_region
  all_goals
    go_wp2_with fail
    obtain ⟨⟨z1, z2, z3⟩, ⟨z4, z5, z6⟩⟩ := hR.out w1.drew rfl rfl rfl rfl
    first
      | (obtain ⟨S', hF, hR⟩ := z3.out
         refine bodyPost_ret (v := .tuple #[.int .i64 x, .int .i64 y9, uev c]) (by simp [results, Tryz.results13, go_sem, YA.out, YAB.out]) rfl ⟨x, y9, c, S', rfl, hF, hR⟩)
      | (obtain ⟨S', hF, hR⟩ := z6.out
         refine bodyPost_ret (v := .tuple #[.int .i64 x, .int .i64 y9, uev c]) (by simp [results, Tryz.results13, go_sem, z4, z5, YA.out, YB.out, YAB.out, YBA.out]) rfl ⟨x, y9, c, S', rfl, hF, hR⟩)
end
end Go.Proofs.YtcfhanoekniaaaaGreatDoor
