/- A kernel as it stands between two calls; what its ledgers tell. -/
import Derived.Test.YtcfhanoekniaaaaGreatDoorZFind
import Derived.Test.YtcfhanoekniaaaaGreatDoorDFlat2
import Derived.Test.YtcfhanoekniaaaaGreatDoorJProg3
import Derived.Deep.RegionHeld3
namespace Go.Proofs.YtcfhanoekniaaaaGreatDoor
open Go.RowKit Go.Maps

section
variable {w w' V : World} {A A' : Nat → Prop}
theorem Stp.base (e : V.heap = w.heap) (e1 : V.os = w.os) (e2 : V.tape = w.tape) (e3 : V.output = w.output) (h : Stp V w' A A') : Stp w w' A A' :=
  ⟨⟨h.wt.os.trans e1, h.wt.tape.trans e2, h.wt.output.trans e3, by rw [← e]; exact h.wt.size, fun i hi hn => by rw [← e]; exact h.wt.block i (by rw [e]; exact hi) hn⟩, fun i hi => by rw [← e]; exact h.own i hi⟩
theorem Stp.up (h : Stp w w' A A') (e : V.heap = w'.heap) (e1 : V.os = w'.os) (e2 : V.tape = w'.tape) (e3 : V.output = w'.output) : Stp w V A A' :=
  ⟨⟨e1.trans h.wt.os, e2.trans h.wt.tape, e3.trans h.wt.output, by rw [e]; exact h.wt.size, fun i hi hn => by rw [e]; exact h.wt.block i hi hn⟩, h.own⟩
theorem bel_drew (w : World) : Below w.heap.size w w.drew := ⟨rfl, rfl, rfl, Nat.le_refl _, fun _ _ => rfl⟩
/-- A step, told from further back. -/
theorem Stp.after {w0 : World} (hb : Below w0.heap.size w0 w) (h : Stp w w' A A') : Stp w0 w' A A' := (Stp.below hb).trans h
end
/-- Between two calls. -/
def KN (w : World) (m : Int) (H : KH) (S : KS) (q : Nat) (A : Nat → Prop) : Prop := KX w m H S (Uof S) q A ∧ KOk S

section
variable {w w' : World} {m : Int} {H : KH} {S : KS} {U U' : Nat → Nat → Int} {q : Nat} {A : Nat → Prop} {p : Int} {o : Ow}
theorem Hd.congr {b s t : Nat} {U U' M : Nat → Int} {a : Int} (h : Hd w b s t U M a) (e : ∀ k, k < 3 → U k = U' k) : Hd w b s t U' M a := by
  unfold Hd at h ⊢
  rw [h, hcs, hcs, e 0 (by omega), e 1 (by omega), e 2 (by omega)]
theorem KX.congrU (h : KX w m H S U q A) (e : ∀ p o, S.O p = some o → ∀ k, k < 3 → U o.j k = U' o.j k) : KX w m H S U' q A := by
  obtain ⟨G, k, hA⟩ := h
  exact ⟨G, { k with hold := fun p o ho => (k.hold p o ho).congr (e p o ho) }, hA⟩
theorem putO_self (ho : S.O p = some o) : putO S.O p ⟨o.j, o.m, o.adj⟩ = S.O := by
  funext x
  by_cases e : x = p
  · rw [e, putO_same, ho]
  · rw [putO_ne e]
theorem KX.hold2 (h : KX w m H S U q A) (ho : S.O p = some o) {U' M' : Nat → Int} {a' : Int} (hd : Hd w' (H.hs o.j) (H.sp o.j) (H.tb o.j) U' M' a') (g : w.grownBy w' (some (H.hs o.j))) : KX w' m H (S.own p ⟨o.j, M', a'⟩) (fun i => if i = o.j then U' else U i) q A ∧ Stp w w' A A := by
  obtain ⟨G, k, e⟩ := h
  obtain ⟨k', st⟩ := k.hd ho hd g
  have hA : A = fun i => G.κ i ≠ 0 := funext fun i => propext (e i)
  subst hA
  exact ⟨⟨G, k', fun _ => Iff.rfl⟩, st⟩
/-- A holding turned: its ledger, its adjustment. -/
theorem KX.hold (h : KX w m H S U q A) (ho : S.O p = some o) {U' M' : Nat → Int} {a' : Int} (hd : Hd w' (H.hs o.j) (H.sp o.j) (H.tb o.j) U' M' a') (g : w.grownBy w' (some (H.hs o.j))) : ∃ A', KX w' m H (S.own p ⟨o.j, M', a'⟩) (fun i => if i = o.j then U' else U i) q A' ∧ Stp w w' A A' := by
  obtain ⟨A', h', st⟩ := (⟨A, h.hold2 ho hd g⟩ : ∃ A', KX w' m H (S.own p ⟨o.j, M', a'⟩) (fun i => if i = o.j then U' else U i) q A' ∧ Stp w w' A A')
  exact ⟨A', h', st⟩
theorem KX.led2 (h : KX w m H S U q A) (ho : S.O p = some o) {U' : Nat → Int} (hd : Hd w' (H.hs o.j) (H.sp o.j) (H.tb o.j) U' o.m o.adj) (g : w.grownBy w' (some (H.hs o.j))) : KX w' m H S (fun i => if i = o.j then U' else U i) q A ∧ Stp w w' A A := by
  obtain ⟨h', st⟩ := h.hold2 ho hd g
  unfold KS.own at h'
  rw [putO_self ho] at h'
  exact ⟨h', st⟩
theorem KX.led (h : KX w m H S U q A) (ho : S.O p = some o) {U' : Nat → Int} (hd : Hd w' (H.hs o.j) (H.sp o.j) (H.tb o.j) U' o.m o.adj) (g : w.grownBy w' (some (H.hs o.j))) : ∃ A', KX w' m H S (fun i => if i = o.j then U' else U i) q A' ∧ Stp w w' A A' := by
  obtain ⟨A', h', st⟩ := h.hold ho hd g
  unfold KS.own at h'
  rw [putO_self ho] at h'
  exact ⟨A', h', st⟩
theorem KX.tlen (h : KX w m H S U q A) (j : Nat) : (tsJ S j).length = 8 := by
  by_cases hj : j < S.Ts.length
  · rw [ts_at hj]; exact h.inv.len hj
  · unfold tsJ; rw [List.getD_eq_getElem?_getD, List.getElem?_eq_none (by omega)]; rfl
theorem KX.fitU (h : KX w m H S U q A) (j : Nat) : Fit (Uof S j) := fun k => by
  have h1 := lenP_le (msJ S j)
  have h2 := usedN_le8 (h.tlen j)
  unfold Uof
  split
  · omega
  · split <;> omega
theorem ms_space {S : KS} {j : Nat} (hj : j < S.Ms.length) (P' : PM) (D' : Nat → Nat → Int) (i : Nat) : msJ (S.space j P' D') i = if i = j then P' else msJ S i := by
  unfold msJ KS.space
  simp only [List.getD_eq_getElem?_getD, List.getElem?_set]
  by_cases e : i = j
  · subst e; simp [hj]
  · rw [if_neg (Ne.symm e), if_neg e]
theorem ts_space {S : KS} {j : Nat} (P' : PM) (D' : Nat → Nat → Int) (i : Nat) : tsJ (S.space j P' D') i = tsJ S i := rfl
theorem ts_files {S : KS} {j : Nat} (hj : j < S.Ts.length) (D' : DS) (N' : Ns) (i : Nat) : tsJ (S.files D' j N') i = if i = j then N' else tsJ S i := by
  unfold tsJ KS.files
  simp only [List.getD_eq_getElem?_getD, List.getElem?_set]
  by_cases e : i = j
  · subst e; simp [hj]
  · rw [if_neg (Ne.symm e), if_neg e]
theorem ms_files {S : KS} {j : Nat} (D' : DS) (N' : Ns) (i : Nat) : msJ (S.files D' j N') i = msJ S i := rfl
theorem space_self {S : KS} {j : Nat} (hj : j < S.Ms.length) : S.space j (msJ S j) S.W = S := by
  unfold KS.space
  rw [ms_at hj, List.set_getElem_self]
theorem files_self {S : KS} {j : Nat} (hj : j < S.Ts.length) : S.files S.D j (tsJ S j) = S := by
  unfold KS.files
  rw [ts_at hj, List.set_getElem_self]
theorem space_space {S : KS} {j : Nat} (P1 P2 : PM) (D1 D2 : Nat → Nat → Int) : (S.space j P1 D1).space j P2 D2 = S.space j P2 D2 := by
  unfold KS.space; simp only [List.set_set]
/-- What holds always, behind a step. -/
theorem KOk.space (k : KOk S) (ho : S.O p = some o) (hl : S.Ms.length = S.Ts.length) (P' : PM) (D' : Nat → Nat → Int) : KOk (S.space o.j P' D') := by
  refine ⟨k.run, fun j hj hn => ?_, k.fit⟩
  obtain ⟨h1, h2⟩ := k.gone j hj hn
  refine ⟨h1, ?_⟩
  have hne : j ≠ o.j := fun e => hn p o ho e.symm
  by_cases hl' : o.j < S.Ms.length
  · rw [ms_space hl', if_neg hne]; exact h2
  · unfold KS.space msJ; rw [List.set_eq_of_length_le (by omega)]; exact h2
theorem KOk.files (k : KOk S) (ho : S.O p = some o) (D' : DS) (N' : Ns) : KOk (S.files D' o.j N') := by
  refine ⟨k.run, fun j hj hn => ?_, k.fit⟩
  have hj' : j < S.Ts.length := by unfold KS.files at hj; simpa using hj
  obtain ⟨h1, h2⟩ := k.gone j hj' hn
  refine ⟨?_, h2⟩
  have hne : j ≠ o.j := fun e => hn p o ho e.symm
  by_cases hl' : o.j < S.Ts.length
  · rw [ts_files hl', if_neg hne]; exact h1
  · unfold KS.files tsJ; rw [List.set_eq_of_length_le (by omega)]; exact h1
theorem KOk.procs (k : KOk S) {P' : Ps} (h : ∀ x, runsJ P' x = runsJ S.P x) : KOk (S.procs P') := ⟨fun x => (k.run x).trans (h x).symm, k.gone, k.fit⟩
/-- From what is in memory, with whatever ledgers, to what stands between two calls. -/
theorem KX.toN (h : KX w m H S U q A) (ok : KOk S) (e : ∀ p o, S.O p = some o → ∀ k, k < 3 → U o.j k = Uof S o.j k) : KN w m H S q A := ⟨h.congrU e, ok⟩
theorem KN.below (h : KN w m H S q A) (hb : Below w.heap.size w w') : KN w' m H S q A := ⟨h.1.below hb, h.2⟩
theorem KN.more (h : KN w m H S q A) {q' : Nat} (hq : q ≤ q') : KN w m H S q' A := ⟨h.1.more hq, h.2⟩
theorem KN.norun (h : KN w m H S q A) : S.O p = none ↔ runsJ S.P p = false := by
  rw [← h.2.run p]; cases S.O p <;> simp
/-- Cells that stay: what is in boxes. -/
def Bxs (w : World) (A : Nat → Prop) (l : List (Nat × Value)) : Prop := ∀ y ∈ l, w.cell? ⟨y.1, 0, none⟩ = some y.2 ∧ ¬ A y.1
theorem Bxs.stp {A' : Nat → Prop} {l : List (Nat × Value)} (h : Bxs w A l) (st : Stp w w' A A') : Bxs w' A' l := fun y hy => st.cellKept (h y hy).1 (h y hy).2
/-- Boxes. -/
theorem box1 (w : World) (a : Value) (ta : TypeId) : Below w.heap.size w (w.alloc (.cells #[a] ta)) ∧ (w.alloc (.cells #[a] ta)).heap.size = w.heap.size + 1 ∧ (w.alloc (.cells #[a] ta)).cell? ⟨w.heap.size, 0, none⟩ = some a ∧ (w.alloc (.cells #[a] ta)).frozen? ⟨w.heap.size, 0, none⟩ = false := by
  have h : (w.alloc (.cells #[a] ta)).heap[w.heap.size]? = some (.cells #[a] ta) := by
    show (w.heap.push _)[w.heap.size]? = _
    rw [Array.getElem?_push, if_pos rfl]
  exact ⟨(Below.refl _ w).alloc (Nat.le_refl _) _, by show (w.heap.push _).size = _; rw [Array.size_push], by rw [cell_of_row _ _ _ _ _ _ h]; rfl, by unfold World.frozen?; simp only [h]; rfl⟩
theorem cellsUp {V : World} (hb : Below w.heap.size w V) {x : Nat} {v : Value} (h : w.cell? ⟨x, 0, none⟩ = some v) : V.cell? ⟨x, 0, none⟩ = some v := by
  rw [hb.cell (p := ⟨x, 0, none⟩) (World.block_lt_of_cell? w _ h)]; exact h
theorem box2 (w : World) (a b : Value) (ta tb : TypeId) : Below w.heap.size w ((w.alloc (.cells #[a] ta)).alloc (.cells #[b] tb)) ∧ ((w.alloc (.cells #[a] ta)).alloc (.cells #[b] tb)).heap.size = w.heap.size + 1 + 1 ∧ ((w.alloc (.cells #[a] ta)).alloc (.cells #[b] tb)).cell? ⟨w.heap.size, 0, none⟩ = some a ∧ ((w.alloc (.cells #[a] ta)).alloc (.cells #[b] tb)).cell? ⟨w.heap.size + 1, 0, none⟩ = some b := by
  obtain ⟨b1, s1, c1, _⟩ := box1 w a ta
  obtain ⟨b2, s2, c2, _⟩ := box1 (w.alloc (.cells #[a] ta)) b tb
  rw [s1] at s2 c2
  exact ⟨b1.trans (b2.mono (by omega)), s2, (cellsUp b2 c1), c2⟩
theorem box3 (w : World) (a b c : Value) (ta tb tc : TypeId) : Below w.heap.size w (((w.alloc (.cells #[a] ta)).alloc (.cells #[b] tb)).alloc (.cells #[c] tc)) ∧ (((w.alloc (.cells #[a] ta)).alloc (.cells #[b] tb)).alloc (.cells #[c] tc)).heap.size = w.heap.size + 1 + 1 + 1 ∧ (((w.alloc (.cells #[a] ta)).alloc (.cells #[b] tb)).alloc (.cells #[c] tc)).cell? ⟨w.heap.size, 0, none⟩ = some a ∧ (((w.alloc (.cells #[a] ta)).alloc (.cells #[b] tb)).alloc (.cells #[c] tc)).cell? ⟨w.heap.size + 1, 0, none⟩ = some b ∧ (((w.alloc (.cells #[a] ta)).alloc (.cells #[b] tb)).alloc (.cells #[c] tc)).cell? ⟨w.heap.size + 1 + 1, 0, none⟩ = some c := by
  obtain ⟨b1, s1, c1, c2⟩ := box2 w a b ta tb
  obtain ⟨b2, s2, c3, _⟩ := box1 ((w.alloc (.cells #[a] ta)).alloc (.cells #[b] tb)) c tc
  rw [s1] at s2 c3
  exact ⟨b1.trans (b2.mono (by omega)), s2, (cellsUp b2 c1), (cellsUp b2 c2), c3⟩
end
end Go.Proofs.YtcfhanoekniaaaaGreatDoor

namespace Go.Proofs.YtcfhanoekniaaaaGreatDoor
open Go.RowKit Go.Maps

section
variable {w w' : World} {m : Int} {H : KH} {S : KS} {U : Nat → Nat → Int} {q : Nat} {A : Nat → Prop} {p : Int} {o : Ow}
/-- A call that turns one table, and what is open. -/
theorem KX.desc (h : KX w m H S U q A) (hj : o.j < S.Ts.length) {q' : Nat} (hq : q ≤ q') {fn : FuncId} {args : Array Value} {Q : Ending → DS → Ns → Prop}
    (hc : ∀ bs Ad (hb : o.j < bs.length), bs[o.j] = H.tb o.j → KD w m H.f H.r S.D bs S.Ts (2 * q) Ad → Calls Tryz.prog fn args w fun y w' => ∃ D' N' A', Q y D' N' ∧ KD w' m H.f H.r D' bs (S.Ts.set o.j N') (2 * q') A' ∧ Stp w w' Ad A')
    (hx : ∀ y D' N', Q y D' N' → D'.nx ≤ 3 * (q' : Int)) :
    Calls Tryz.prog fn args w fun y w' => ∃ D' N', Q y D' N' ∧ ∃ A', KX w' m H (S.files D' o.j N') U q' A' ∧ Stp w w' A A' := by
  obtain ⟨G, k, e⟩ := h
  have hb : o.j < G.bs.length := by rw [k.Lb]; exact hj
  refine (hc G.bs G.Ad hb (k.tb _ hb) k.kd).mono ?_
  rintro y w' ⟨D', N', A', hQ, kd', st⟩
  obtain ⟨G', k', st'⟩ := k.desc kd' st (by rw [List.length_set]) (hx y D' N' hQ) hq
  exact ⟨D', N', hQ, _, .of k', stp_iff e st'⟩
theorem KD.more {f r k : Nat} {D : DS} {bs : List Nat} {Ts : List Ns} {Ad : Nat → Prop} (kd : KD w m f r D bs Ts k Ad) {k' : Nat} (hk : k ≤ k') : KD w m f r D bs Ts k' Ad := { kd with inv := kd.inv.more hk }
theorem KX.closeT (h : KX w m H S U q A) (hj : o.j < S.Ts.length) (hq : q ≤ 200) (x : Int) :
    Calls Tryz.prog 57 #[wp H.f, wp (H.tb o.j), .int .i64 x] w fun y w' => y = .returned (uev (if hasN (tsJ S o.j) x = true then 0 else 7)) ∧ ∃ A', KX w' m H (S.files (closeD S.D (tsJ S o.j) x) o.j (closeN (tsJ S o.j) x)) U q A' ∧ Stp w w' A A' := by
  refine (h.desc hj (q' := q) (by omega) (Q := fun y D' N' => y = .returned (uev (if hasN (tsJ S o.j) x = true then 0 else 7)) ∧ D' = closeD S.D (tsJ S o.j) x ∧ N' = closeN (tsJ S o.j) x) (fun bs Ad hb e kd => ?_) (fun y D' N' hq => ?_)).mono ?_
  · have := kd.close (by omega) hb x
    rw [← ts_at hj, e] at this
    exact this
  · obtain ⟨_, rfl, rfl⟩ := hq
    have := h.nx
    rw [nx_closeD]; exact this
  · rintro y w' ⟨D', N', ⟨rfl, rfl, rfl⟩, r⟩
    exact ⟨rfl, r⟩
theorem KX.readT (h : KX w m H S U q A) (hj : o.j < S.Ts.length) (x a : Int) :
    Calls Tryz.prog 63 #[wp H.f, wp (H.tb o.j), .int .i64 x, .int .i64 a] w fun y w' => y = .returned (.tuple #[tx (readO S.D (tsJ S o.j) x a).1, uev (readO S.D (tsJ S o.j) x a).2.1]) ∧ ∃ A', KX w' m H (S.files ((readO S.D (tsJ S o.j) x a).2.2) o.j ((tsJ S o.j))) U q A' ∧ Stp w w' A A' := by
  refine (h.desc hj (q' := q) (by omega) (Q := fun y D' N' => y = .returned (.tuple #[tx (readO S.D (tsJ S o.j) x a).1, uev (readO S.D (tsJ S o.j) x a).2.1]) ∧ D' = (readO S.D (tsJ S o.j) x a).2.2 ∧ N' = (tsJ S o.j)) (fun bs Ad hb e kd => ?_) (fun y D' N' hq => ?_)).mono ?_
  · have := kd.read hb x a
    rw [← ts_at hj, e] at this
    exact this
  · obtain ⟨_, rfl, rfl⟩ := hq
    have := h.nx
    rw [nx_read]; exact this
  · rintro y w' ⟨D', N', ⟨rfl, rfl, rfl⟩, r⟩
    exact ⟨rfl, r⟩
theorem KX.writeT (h : KX w m H S U q A) (hj : o.j < S.Ts.length) (x : Int) (s : List UInt8) (hs : s.length < 100000) (a : Int) :
    Calls Tryz.prog 59 #[wp H.f, wp (H.tb o.j), .int .i64 x, tx s, .int .i64 a] w fun y w' => y = .returned (.tuple #[.int .i64 (writeO S.D (tsJ S o.j) x s a).1, uev (writeO S.D (tsJ S o.j) x s a).2.1]) ∧ ∃ A', KX w' m H (S.files ((writeO S.D (tsJ S o.j) x s a).2.2) o.j ((tsJ S o.j))) U (q + 1) A' ∧ Stp w w' A A' := by
  refine (h.desc hj (q' := (q + 1)) (by omega) (Q := fun y D' N' => y = .returned (.tuple #[.int .i64 (writeO S.D (tsJ S o.j) x s a).1, uev (writeO S.D (tsJ S o.j) x s a).2.1]) ∧ D' = (writeO S.D (tsJ S o.j) x s a).2.2 ∧ N' = (tsJ S o.j)) (fun bs Ad hb e kd => ?_) (fun y D' N' hq => ?_)).mono ?_
  · have := kd.write hb x s hs a
    rw [← ts_at hj, e] at this
    refine this.mono ?_
    rintro y w' ⟨D', N', A', hQ, kd', st⟩
    exact ⟨D', N', A', hQ, kd'.more (by omega), st⟩
  · obtain ⟨_, rfl, rfl⟩ := hq
    have := h.nx
    rw [nx_write]; omega
  · rintro y w' ⟨D', N', ⟨rfl, rfl, rfl⟩, r⟩
    exact ⟨rfl, r⟩
theorem KX.clearT (h : KX w m H S U q A) (hj : o.j < S.Ts.length) (hq : q ≤ 200) :
    Calls Tryz.prog 250 #[wp H.f, wp (H.tb o.j)] w fun y w' => y = .returned (.tuple #[]) ∧ ∃ A', KX w' m H (S.files ((freeS true S.D (tsJ S o.j) 8).1) o.j ((freeS true S.D (tsJ S o.j) 8).2)) U q A' ∧ Stp w w' A A' := by
  refine (h.desc hj (q' := q) (by omega) (Q := fun y D' N' => y = .returned (.tuple #[]) ∧ D' = (freeS true S.D (tsJ S o.j) 8).1 ∧ N' = (freeS true S.D (tsJ S o.j) 8).2) (fun bs Ad hb e kd => ?_) (fun y D' N' hq => ?_)).mono ?_
  · have := kd.clear (by omega) hb
    rw [← ts_at hj, e] at this
    exact this
  · obtain ⟨_, rfl, rfl⟩ := hq
    have := h.nx
    rw [nx_free]; exact this
  · rintro y w' ⟨D', N', ⟨rfl, rfl, rfl⟩, r⟩
    exact ⟨rfl, r⟩
theorem KX.pipeT (h : KX w m H S U q A) (hj : o.j < S.Ts.length) (hq : q ≤ 200) {n : Nat} (hN : IsN S.D.E n) :
    Calls Tryz.prog 54 #[wp H.f, wp (H.tb o.j)] w fun z w' => ∃ D' N', (∃ x y c, z = .returned (.tuple #[.int .i64 x, .int .i64 y, uev c]) ∧ PipeO S.D (tsJ S o.j) n x y c D' N') ∧ ∃ A', KX w' m H (S.files D' o.j N') U (q + 1) A' ∧ Stp w w' A A' := by
  have hx := h.nx
  refine h.desc hj (q' := q + 1) (by omega) (Q := fun z D' N' => ∃ x y c, z = .returned (.tuple #[.int .i64 x, .int .i64 y, uev c]) ∧ PipeO S.D (tsJ S o.j) n x y c D' N') (fun bs Ad hb e kd => ?_) (fun y D' N' hq => ?_)
  · have := kd.pipe (by omega) hb hN
    rw [← ts_at hj, e] at this
    refine this.mono ?_
    rintro y w' ⟨D', N', A', hQ, kd', st⟩
    exact ⟨D', N', A', hQ, kd'.more (by omega), st⟩
  · obtain ⟨x, y, c, _, hP⟩ := hq
    have := nx_pipe hP
    omega
/-- The processes turned. -/
theorem KX.proc (h : KX w m H S U q A) {fn : FuncId} {args : Array Value} {Q : Ending → Ps → Prop}
    (hc : ∀ c, QJ w H.t H.g S.P c → Calls Tryz.prog fn args w fun y w' => ∃ P', Q y P' ∧ QJo w H.t H.g P' w') :
    Calls Tryz.prog fn args w fun y w' => ∃ P', Q y P' ∧ ∃ A', KX w' m H (S.procs P') U q A' ∧ Stp w w' A A' := by
  obtain ⟨G, k, e⟩ := h
  obtain ⟨c, qj⟩ := k.qj
  refine (hc c qj).mono ?_
  rintro y w' ⟨P', hQ, t⟩
  obtain ⟨G', k', st'⟩ := k.proc t
  exact ⟨P', hQ, _, .of k', stp_iff e st'⟩
theorem KX.exitK (h : KX w m H S U q A) (n code : Int) (hn : (Lit.int .i64 n).wf = true) : Calls Tryz.prog 158 #[wp H.t, .int .i64 n, .int .i64 code] w fun y w' => y = .returned (uev (exitE S.P n)) ∧ ∃ A', KX w' m H (S.procs (if exitE S.P n = 0 then exitP S.P n code else S.P)) U q A' ∧ Stp w w' A A' := by
  refine (h.proc (Q := fun y P' => y = .returned (uev (exitE S.P n)) ∧ P' = if exitE S.P n = 0 then exitP S.P n code else S.P) (fun c qj => (qj.exit n code hn).mono ?_)).mono ?_
  · rintro y w' ⟨rfl, t⟩; exact ⟨_, ⟨rfl, rfl⟩, t⟩
  · rintro y w' ⟨P', ⟨rfl, rfl⟩, r⟩; exact ⟨rfl, r⟩
theorem KX.killK (h : KX w m H S U q A) (n sig : Int) (hn : (Lit.int .i64 n).wf = true) : Calls Tryz.prog 61 #[wp H.t, .int .i64 n, .int .i64 sig] w fun y w' => y = .returned (uev (killE S.P n sig)) ∧ ∃ A', KX w' m H (S.procs (if killE S.P n sig = 0 then killP S.P n sig else S.P)) U q A' ∧ Stp w w' A A' := by
  refine (h.proc (Q := fun y P' => y = .returned (uev (killE S.P n sig)) ∧ P' = if killE S.P n sig = 0 then killP S.P n sig else S.P) (fun c qj => (qj.kill n sig hn).mono ?_)).mono ?_
  · rintro y w' ⟨rfl, t⟩; exact ⟨_, ⟨rfl, rfl⟩, t⟩
  · rintro y w' ⟨P', ⟨rfl, rfl⟩, r⟩; exact ⟨rfl, r⟩
end
end Go.Proofs.YtcfhanoekniaaaaGreatDoor

namespace Go.Proofs.YtcfhanoekniaaaaGreatDoor
open Go.RowKit Go.Maps

section
variable {w w' : World} {m : Int} {H : KH} {S : KS} {U U' : Nat → Nat → Int} {q : Nat} {A : Nat → Prop} {p : Int} {o : Ow}
theorem lenP_mapTo {P : PM} {a prot : Int} (h0 : 0 ≤ a) : ∀ (n : Nat), a + n ≤ 64 → (∀ i : Nat, i < n → P (a + i) = none) → lenP (mapTo P a n prot) = lenP P + n
  | 0, _, _ => by rw [mapTo_zero, Nat.add_zero]
  | n + 1, h1, hn => by
    rw [mapTo_next, lenP_put_new (by omega) (by omega) (by rw [mapTo_at]; exact hn n (by omega)), lenP_mapTo h0 n (by omega) (fun i hi => hn i (by omega))]
    omega
theorem un_map {P : PM} {a prot : Int} {n : Nat} (hn : ∀ i : Nat, i < n → P (a + i) = none) : unTo (mapTo P a n prot) a n = P := by
  funext x
  unfold unTo mapTo
  by_cases e : a ≤ x ∧ x < a + n
  · rw [if_pos e]
    have := hn (x - a).toNat (by omega)
    rw [show a + ((x - a).toNat : Int) = x by omega] at this
    exact this.symm
  · rw [if_neg e, if_neg e]
theorem mapE_zero {P : PM} {a n prot : Int} (h : mapE P a n prot = 0) : 1 ≤ n ∧ 0 ≤ a ∧ a + n ≤ 64 ∧ isU prot = true ∧ hasP P a n.toNat = 0 := by
  unfold mapE at h
  split at h
  · omega
  · rename_i h1
    split at h
    · omega
    · rename_i h2
      split at h
      · rename_i h3
        obtain ⟨a1, a2, a3⟩ := areP_true.1 (by simpa using h1)
        exact ⟨a1, a2, a3, by simpa using h2, h3⟩
      · omega
theorem mapP_len {P : PM} {a n prot : Int} (h : mapE P a n prot = 0) : ((lenP (mapP P a n prot) : Nat) : Int) = lenP P + n := by
  obtain ⟨h1, h2, h3, h4, h5⟩ := mapE_zero h
  unfold mapP
  rw [if_pos h, lenP_mapTo h2 n.toNat (by omega) (fun i hi => hasP_none h5 i hi)]
  omega
theorem unmap_map {P : PM} {a n prot : Int} (h : mapE P a n prot = 0) : unP (mapP P a n prot) a n = P := by
  obtain ⟨h1, h2, h3, h4, h5⟩ := mapE_zero h
  have hm : mapP P a n prot = mapTo P a n.toNat prot := if_pos h
  have hE : unE (mapTo P a n.toNat prot) a n = 0 := by
    unfold unE
    rw [areP_true.2 ⟨h1, h2, h3⟩, if_neg (by simp), if_neg]
    intro hlt
    have hx : hasP (mapTo P a n.toNat prot) a n.toNat = n.toNat := by
      unfold hasP
      have : ∀ k : Nat, k ≤ n.toNat → sumTo (fun i => if (mapTo P a n.toNat prot (a + i)).isSome then 1 else 0) 0 k = k := fun k => by
        induction k with
        | zero => intro _; rfl
        | succ k ih =>
          intro hk
          rw [sumTo_last, ih (by omega), Nat.zero_add]
          have : (mapTo P a n.toNat prot (a + k)).isSome = true := by unfold mapTo; rw [if_pos (by omega)]; rfl
          rw [if_pos this]
      exact this _ (Nat.le_refl _)
    omega
  unfold unP
  rw [hm, if_pos hE]
  exact un_map (fun i hi => hasP_none h5 i hi)
theorem mapP_no {P : PM} {a n prot : Int} (h : mapE P a n prot ≠ 0) : mapP P a n prot = P := if_neg h
/-- What Map tells, and leaves. -/
def mapKE (S : KS) (o : Ow) (a n prot : Int) : Int := if mapE (msJ S o.j) a n prot ≠ 0 then mapE (msJ S o.j) a n prot else if ((lenP (msJ S o.j) : Nat) : Int) + n ≤ o.m 0 then 0 else 4
def mapKS (S : KS) (o : Ow) (a n prot : Int) : KS := if mapKE S o a n prot = 0 then S.space o.j (mapP (msJ S o.j) a n prot) S.W else S
theorem why_map {S : KS} {o : Ow} {a n prot : Int} (h : mapE (msJ S o.j) a n prot = 0) : why (Uof S o.j) o.m 0 n = mapKE S o a n prot := by
  obtain ⟨h1, h2, h3, h4, h5⟩ := mapE_zero h
  unfold mapKE why
  rw [if_neg (not_not_intro h)]
  have e : Uof S o.j (0 : Int).toNat = ((lenP (msJ S o.j) : Nat) : Int) := rfl
  have e2 : o.m (0 : Int).toNat = o.m 0 := rfl
  rw [e, e2]
  have hl := lenP_le (msJ S o.j)
  by_cases hc : ((lenP (msJ S o.j) : Nat) : Int) + n ≤ o.m 0
  · rw [if_pos hc, if_neg (by omega), if_neg (by omega), if_neg (by omega), if_neg (by omega)]
  · rw [if_neg hc, if_neg (by omega), if_neg (by omega), if_pos (by omega)]
set_option maxRecDepth 100000 in
set_option maxHeartbeats 2000000 in
theorem KX.map1 (h : KX w m H S U q A) (ho : S.O p = some o) (a n prot : Int) (hn : n ≤ 9223372036854775807) {x0 x1 x2 x3 : Nat} (hb : Bxs w A [(x0, wp (H.hs o.j)), (x1, .int .i64 a), (x2, .int .i64 n), (x3, .int .i64 prot)]) :
    Calls Tryz.prog 126 #[wp x0, wp x1, wp x2, wp x3] w fun y w' => y = .returned (uev (mapE (msJ S o.j) a n prot)) ∧ ∃ A', KX w' m H (S.space o.j (mapP (msJ S o.j) a n prot) S.W) U q A' ∧ Stp w w' A A' := by
  have cells : ∀ {w' : World} {A' : Nat → Prop} {S' : KS}, KX w' m H S' U q A' → S'.O p = some o → Bxs w' A' [(x0, wp (H.hs o.j)), (x1, .int .i64 a), (x2, .int .i64 n), (x3, .int .i64 prot)] → w'.cell? ⟨x0, 0, none⟩ = some (wp (H.hs o.j)) ∧ w'.cell? ⟨x1, 0, none⟩ = some (.int .i64 a) ∧ w'.cell? ⟨x2, 0, none⟩ = some (.int .i64 n) ∧ w'.cell? ⟨x3, 0, none⟩ = some (.int .i64 prot) ∧ w'.cell? ⟨H.hs o.j, 0, none⟩ = some (wp (H.sp o.j)) := fun h' ho' b' =>
    ⟨(b' (x0, _) (by simp)).1, (b' (x1, _) (by simp)).1, (b' (x2, _) (by simp)).1, (b' (x3, _) (by simp)).1, (h'.hd ho').at 0⟩
  have c0 := cells h ho hb
  have hM : Calls Tryz.prog 127 #[wp (H.sp o.j), .int .i64 a, .int .i64 n, .int .i64 prot] w.drew fun y w' => y = .returned (uev (mapE (msJ S o.j) a n prot)) ∧ (w'.cell? ⟨x0, 0, none⟩ = some (wp (H.hs o.j)) ∧ w'.cell? ⟨x1, 0, none⟩ = some (.int .i64 a) ∧ w'.cell? ⟨x2, 0, none⟩ = some (.int .i64 n) ∧ w'.cell? ⟨x3, 0, none⟩ = some (.int .i64 prot) ∧ w'.cell? ⟨H.hs o.j, 0, none⟩ = some (wp (H.sp o.j))) ∧ ∃ A', KX w' m H (S.space o.j (mapP (msJ S o.j) a n prot) S.W) U q A' ∧ Stp w w' A A' := by
    refine ((h.below (bel_drew w)).map (h.jlt ho) a n prot hn).mono ?_
    rintro y w' ⟨rfl, A', h', st⟩
    have st' : Stp w w' A A' := Stp.base (V := w.drew) rfl rfl rfl rfl st
    exact ⟨rfl, cells h' ho (hb.stp st'), A', h', st'⟩
  generalize mapE (msJ S o.j) a n prot = E at *
  generalize S.space o.j (mapP (msJ S o.j) a n prot) S.W = S2 at *
  clear h ho cells hb
  go_enter Tryz.func126, Tryz.ntmps126
  go_upto_region 1 with fail
  go_region_held3 (fun w' => w'.cell? ⟨x0, 0, none⟩ = some (wp (H.hs o.j)) ∧ w'.cell? ⟨x1, 0, none⟩ = some (.int .i64 a) ∧ w'.cell? ⟨x2, 0, none⟩ = some (.int .i64 n) ∧ w'.cell? ⟨x3, 0, none⟩ = some (.int .i64 prot) ∧ w'.cell? ⟨H.hs o.j, 0, none⟩ = some (wp (H.sp o.j))) (first | exact c0 | exact c1) (first
    | (go_at_call 127; refine hM.mono ?_; rintro e w1 ⟨rfl, c1, hw⟩))
  all_goals
    go_wp2_with fail
    go_ret
    exact ⟨rfl, hw⟩
set_option maxRecDepth 100000 in
set_option maxHeartbeats 2000000 in
theorem KX.map2 (h : KX w m H S U q A) (ho : S.O p = some o) (a n : Int) (hn : n ≤ 9223372036854775807) {x0 x1 x2 : Nat} (hb : Bxs w A [(x0, wp (H.hs o.j)), (x1, .int .i64 a), (x2, .int .i64 n)]) :
    Calls Tryz.prog 128 #[wp x0, wp x1, wp x2] w fun y w' => y = .returned (uev (unE (msJ S o.j) a n)) ∧ ∃ A', KX w' m H (S.space o.j (unP (msJ S o.j) a n) S.W) U q A' ∧ Stp w w' A A' := by
  have cells : ∀ {w' : World} {A' : Nat → Prop} {S' : KS}, KX w' m H S' U q A' → S'.O p = some o → Bxs w' A' [(x0, wp (H.hs o.j)), (x1, .int .i64 a), (x2, .int .i64 n)] → w'.cell? ⟨x0, 0, none⟩ = some (wp (H.hs o.j)) ∧ w'.cell? ⟨x1, 0, none⟩ = some (.int .i64 a) ∧ w'.cell? ⟨x2, 0, none⟩ = some (.int .i64 n) ∧ w'.cell? ⟨H.hs o.j, 0, none⟩ = some (wp (H.sp o.j)) := fun h' ho' b' =>
    ⟨(b' (x0, _) (by simp)).1, (b' (x1, _) (by simp)).1, (b' (x2, _) (by simp)).1, (h'.hd ho').at 0⟩
  have c0 := cells h ho hb
  have hM : Calls Tryz.prog 129 #[wp (H.sp o.j), .int .i64 a, .int .i64 n] w.drew fun y w' => y = .returned (uev (unE (msJ S o.j) a n)) ∧ (w'.cell? ⟨x0, 0, none⟩ = some (wp (H.hs o.j)) ∧ w'.cell? ⟨x1, 0, none⟩ = some (.int .i64 a) ∧ w'.cell? ⟨x2, 0, none⟩ = some (.int .i64 n) ∧ w'.cell? ⟨H.hs o.j, 0, none⟩ = some (wp (H.sp o.j))) ∧ ∃ A', KX w' m H (S.space o.j (unP (msJ S o.j) a n) S.W) U q A' ∧ Stp w w' A A' := by
    refine ((h.below (bel_drew w)).unmap (h.jlt ho) a n hn).mono ?_
    rintro y w' ⟨rfl, A', h', st⟩
    have st' : Stp w w' A A' := Stp.base (V := w.drew) rfl rfl rfl rfl st
    exact ⟨rfl, cells h' ho (hb.stp st'), A', h', st'⟩
  generalize unE (msJ S o.j) a n = E at *
  generalize S.space o.j (unP (msJ S o.j) a n) S.W = S2 at *
  clear h ho cells hb
  go_enter Tryz.func128, Tryz.ntmps128
  go_upto_region 1 with fail
  go_region_held3 (fun w' => w'.cell? ⟨x0, 0, none⟩ = some (wp (H.hs o.j)) ∧ w'.cell? ⟨x1, 0, none⟩ = some (.int .i64 a) ∧ w'.cell? ⟨x2, 0, none⟩ = some (.int .i64 n) ∧ w'.cell? ⟨H.hs o.j, 0, none⟩ = some (wp (H.sp o.j))) (first | exact c0 | exact c1) (first
    | (go_at_call 129; refine hM.mono ?_; rintro e w1 ⟨rfl, c1, hw⟩))
  all_goals
    go_wp2_with fail
    go_ret
    exact ⟨rfl, hw⟩

set_option maxRecDepth 100000 in
set_option maxHeartbeats 4000000 in
theorem KN.map_yes (h : KN w m H S q A) (ho : S.O p = some o) (a n prot : Int) (hn : n ≤ 9223372036854775807) :
    Calls Tryz.prog 45 #[wp H.kb, .int .i64 p, .int .i64 a, .int .i64 n, .int .i64 prot] w fun y w' => y = .returned (uev (mapKE S o a n prot)) ∧ ∃ A', KN w' m H (mapKS S o a n prot) q A' ∧ Stp w w' A A' := by
  have hpay : ∀ (W : World) (x0 x1 x2 x3 : Nat), Below w.heap.size w W → Bxs W A [(x0, wp (H.hs o.j)), (x1, .int .i64 a), (x2, .int .i64 n), (x3, .int .i64 prot)] →
      Calls Tryz.prog 125 #[wp (H.hs o.j), .int .i64 0, .int .i64 n, .func (.func 126) #[] #[wp x0, wp x1, wp x2, wp x3], .func (.func 128) #[] #[wp x0, wp x1, wp x2]] W fun y w' => ∃ c, y = .returned (uev c) ∧ c = mapKE S o a n prot ∧ ∃ A', KN w' m H (mapKS S o a n prot) q A' ∧ Stp w w' A A' := fun W x0 x1 x2 x3 bW bx => by
    have hW := h.1.below bW
    have hml := h.1.mlt ho
    refine payLast_ok (H.hs o.j) 0 n (fun args w => by kernel_rfl) (fun args w => by kernel_rfl) (R := fun c w' => c = mapKE S o a n prot ∧ ∃ A', KN w' m H (mapKS S o a n prot) q A' ∧ Stp w w' A A') ((hW.map1 ho a n prot hn bx).mono ?_)
    rintro y w1 ⟨rfl, A1, h1, st1⟩
    refine ⟨_, rfl, fun hc => ?_, fun hc => ?_⟩
    · have e1 : mapKE S o a n prot = mapE (msJ S o.j) a n prot := if_pos hc
      have e2 : mapKS S o a n prot = S := by unfold mapKS; rw [e1, if_neg hc]
      rw [mapP_no hc, space_self hml] at h1
      rw [e1, e2]
      exact ⟨rfl, A1, ⟨h1, h.2⟩, st1.after bW⟩
    · have hd1 := h1.hd (p := p) (o := o) ho
      refine ⟨why (Uof S o.j) o.m 0 n, (hd1.charge (h.1.fitU o.j) (h.2.fit p o ho).1 0 n h1.er (h1.hne (p := p) (o := o) ho)).mono ?_⟩
      rintro y w2 ⟨rfl, hd2, g2⟩
      obtain ⟨A2, h2, st2⟩ := h1.led (p := p) (o := o) ho hd2 g2
      have st02 : Stp w w2 A A2 := (st1.after bW).trans st2
      have ew := why_map hc
      refine ⟨rfl, fun hz => ?_, fun hz => ?_⟩
      · have e2 : mapKS S o a n prot = S.space o.j (mapP (msJ S o.j) a n prot) S.W := by unfold mapKS; rw [← ew, if_pos hz]
        rw [← ew, e2]
        refine ⟨hz.symm, A2, h2.toN (h.2.space ho h.1.len _ _) (fun p' o' ho' k hk => ?_), st02⟩
        by_cases ej : o'.j = o.j
        · simp only [if_pos ej]
          unfold chU
          rw [if_pos hz, ej]
          unfold after put Uof
          rw [ms_space hml, if_pos rfl, ts_space]
          have hml2 := mapP_len hc
          match k, hk with
          | 0, _ => simp only [Int.toNat_zero, if_true]; exact hml2.symm
          | 1, _ => rfl
          | 2, _ => rfl
        · simp only [if_neg ej]
          unfold Uof
          rw [ms_space hml, if_neg ej, ts_space]
      · have e2 : mapKS S o a n prot = S := by unfold mapKS; rw [← ew, if_neg hz]
        have hU2 : KX w2 m H (S.space o.j (mapP (msJ S o.j) a n prot) S.W) (Uof S) q A2 := h2.congrU (fun p' o' ho' k hk => by
          by_cases ej : o'.j = o.j
          · simp only [if_pos ej]
            unfold chU
            rw [if_neg hz, ej]
          · simp only [if_neg ej])
        have bx2 : Bxs w2 A2 [(x0, wp (H.hs o.j)), (x1, .int .i64 a), (x2, .int .i64 n)] := fun y hy => ((bx.stp st1).stp st2) y (by simp at hy ⊢; rcases hy with z | z | z <;> simp [z])
        refine (hU2.map2 (p := p) (o := o) ho a n hn bx2).mono ?_
        rintro y w3 ⟨rfl, A3, h3, st3⟩
        rw [space_space, ms_space hml, if_pos rfl, unmap_map hc] at h3
        have : (S.space o.j (mapP (msJ S o.j) a n prot) S.W).W = S.W := rfl
        rw [this, space_self hml] at h3
        rw [← ew, e2]
        exact ⟨_, rfl, rfl, A3, ⟨h3, h.2⟩, st02.trans st3⟩
  have hF := fun W (hb : Below w.heap.size w W) => (h.1.below hb).find_yes ho
  have hA := h.1.lt
  generalize mapKE S o a n prot = E at *
  generalize mapKS S o a n prot = S2 at *
  have HP : Aside _ := hpay
  have HF : Aside _ := hF
  clear h ho hpay hF
  go_enter Tryz.func45, Tryz.ntmps45
  go_upto_region 1 with fail
  obtain ⟨b3, s3, c1, c2, c3⟩ := box3 w (.int .i64 a) (.int .i64 n) (.int .i64 prot) 3 3 3
  generalize ((w.alloc (.cells #[.int .i64 a] 3)).alloc (.cells #[.int .i64 n] 3)).alloc (.cells #[.int .i64 prot] 3) = W at *
  have hF := HF.out W b3
  clear HF
  go_upto_region 4 with (go_at_call 51; refine hF.mono ?_; rintro e w1 ⟨rfl, hw⟩; subst w1)
  obtain ⟨b4, s4, c4, _⟩ := box1 W (wp (H.hs o.j)) 99
  rw [s3] at c4
  have d1 := cellsUp b4 c1
  have d2 := (cellsUp b4 c2)
  have d3 := (cellsUp b4 c3)
  generalize W.alloc (.cells #[wp (H.hs o.j)] 99) = V at *
  have bV : Below w.heap.size w V := b3.trans (b4.mono b3.size)
  have hP := HP.out V (w.heap.size + 1 + 1 + 1) w.heap.size (w.heap.size + 1) (w.heap.size + 1 + 1) bV (fun y hy => by
    have hn : ∀ i, w.heap.size ≤ i → ¬ A i := fun i hi z => by have := hA i z; omega
    simp only [List.mem_cons, List.not_mem_nil, or_false] at hy
    rcases hy with rfl | rfl | rfl | rfl
    · exact ⟨c4, hn _ (by omega)⟩
    · exact ⟨d1, hn _ (Nat.le_refl _)⟩
    · exact ⟨d2, hn _ (by omega)⟩
    · exact ⟨d3, hn _ (by omega)⟩)
  clear HP c1 c2 c3 hF b3 b4 bV s3 s4 d1 d3
  go_wp2_with (go_at_call 125; refine hP.mono ?_; rintro e w1 ⟨c, rfl, hc, hR⟩)
  go_ret
  exact ⟨by rw [← hc]; rfl, hR⟩
end
end Go.Proofs.YtcfhanoekniaaaaGreatDoor

namespace Go.Proofs.YtcfhanoekniaaaaGreatDoor
open Go.RowKit Go.Maps

section
variable {w w' : World} {m : Int} {H : KH} {S : KS} {U : Nat → Nat → Int} {q : Nat} {A : Nat → Prop} {p : Int} {o : Ow}
theorem KX.spaceN {A' : Nat → Prop} {P' : PM} {D' : Nat → Nat → Int} (h : KX w m H (S.space o.j P' D') (Uof S) q A') (ok : KOk S) (ho : S.O p = some o) (hl : S.Ms.length = S.Ts.length) (hj : o.j < S.Ts.length) (hp : lenP P' = lenP (msJ S o.j)) : KN w m H (S.space o.j P' D') q A' :=
  h.toN (ok.space ho hl _ _) (fun p' o' ho' k hk => by
    unfold Uof
    rw [ms_space (by omega), ts_space]
    by_cases e : o'.j = o.j
    · rw [if_pos e, hp, e]
    · rw [if_neg e])
theorem KX.filesN {A' : Nat → Prop} {D' : DS} {N' : Ns} (h : KX w m H (S.files D' o.j N') (Uof S) q A') (ok : KOk S) (ho : S.O p = some o) (hj : o.j < S.Ts.length) (hp : usedN N' = usedN (tsJ S o.j)) : KN w m H (S.files D' o.j N') q A' :=
  h.toN (ok.files ho _ _) (fun p' o' ho' k hk => by
    unfold Uof
    rw [ts_files hj, ms_files]
    by_cases e : o'.j = o.j
    · rw [if_pos e, hp, e]
    · rw [if_neg e])
theorem KX.procsN {A' : Nat → Prop} {P' : Ps} (h : KX w m H (S.procs P') (Uof S) q A') (ok : KOk S) (hr : ∀ x, runsJ P' x = runsJ S.P x) : KN w m H (S.procs P') q A' := ⟨h, ok.procs hr⟩
theorem KX.lenOther (h : KX w m H S U q A) (ho : S.O p = some o) {V : World} (g : w.grownBy V (some (H.hs o.j))) :
    Calls Tryz.prog 116 #[wp (H.sp o.j)] V fun y w' => y = .returned (.int .i64 (lenP (msJ S o.j) : Nat)) ∧ w' = V := by
  have hj := h.jlt ho
  obtain ⟨G, k, e⟩ := h
  have wt : Wt (fun i => G.κ i = 5) w V := ⟨g.os, g.tape, g.output, g.size, fun i hi hn => g.block i hi (fun e => hn (by cases e; exact k.k5 p o ho))⟩
  have kp := k.kept (X := 5) ⟨by omega, by omega⟩ wt
  have al := kp.al (by omega)
  have hl : o.j < G.L.length := by rw [k.Ll]; exact hj
  have hP : G.L[o.j].2.2 = msJ S o.j := by
    rw [ms_at (by rw [k.len]; exact hj)]
    have : S.Ms = G.L.map (fun x => x.2.2) := k.ms.symm
    simp only [this, List.getElem_map]
  have := (al.sp o.j hl).sp.len
  rw [k.sp o.j hl, hP] at this
  exact this
theorem KX.usedOther (h : KX w m H S U q A) (ho : S.O p = some o) {V : World} (g : w.grownBy V (some (H.hs o.j))) :
    Calls Tryz.prog 118 #[wp (H.tb o.j)] V fun y w' => y = .returned (.int .i64 (usedN (tsJ S o.j) : Int)) ∧ Below V.heap.size V w' := by
  have hj := h.jlt ho
  obtain ⟨G, k, e⟩ := h
  have wt : Wt (fun i => G.κ i = 5) w V := ⟨g.os, g.tape, g.output, g.size, fun i hi hn => g.block i hi (fun e => hn (by cases e; exact k.k5 p o ho))⟩
  have kp := k.kept (X := 5) ⟨by omega, by omega⟩ wt
  have kd := kp.kd (by omega)
  have hb : o.j < G.bs.length := by rw [k.Lb]; exact hj
  have := kd.used hb
  rw [k.tb _ hb, ← ts_at hj] at this
  exact this
theorem KX.settle (h : KX w m H S U q A) (ok : KOk S) (ho : S.O p = some o) (hU : Fit (U o.j)) (h0 : ((lenP (msJ S o.j) : Nat) : Int) ≤ U o.j 0) (h1 : ((usedN (tsJ S o.j) : Nat) : Int) ≤ U o.j 1) (h2 : U o.j 2 = 0) (hr : ∀ p' o', S.O p' = some o' → o'.j ≠ o.j → ∀ k, k < 3 → U o'.j k = Uof S o'.j k) :
    Calls Tryz.prog 58 #[wp (H.hs o.j)] w fun y w' => y = .returned (.tuple #[]) ∧ ∃ A', KN w' m H S q A' ∧ Stp w w' A A' := by
  refine ((h.hd ho).settle hU (ok.fit p o ho).1 h.er (h.hne ho) ⟨by omega, h0⟩ ⟨by omega, h1⟩ (fun V g => h.lenOther ho g) (fun V g => h.usedOther ho g)).mono ?_
  rintro y w' ⟨rfl, hd, g⟩
  obtain ⟨A', h', st⟩ := h.led ho hd g
  refine ⟨rfl, A', h'.toN ok (fun p' o' ho' k hk => ?_), st⟩
  by_cases e : o'.j = o.j
  · simp only [if_pos e]
    unfold setU Uof
    rw [e]
    match k, hk with
    | 0, _ => rfl
    | 1, _ => rfl
    | 2, _ => simpa using h2
  · simp only [if_neg e]
    exact hr p' o' ho' e k hk
set_option maxRecDepth 100000 in
set_option maxHeartbeats 4000000 in
theorem KX.load_yes (h : KX w m H S U q A) (ho : S.O p = some o) (a k : Int) (ha : (Lit.int .i64 a).wf = true) :
    Calls Tryz.prog 44 #[wp H.kb, .int .i64 p, .int .i64 a, .int .i64 k] w fun y w' => y = .returned (.tuple #[.int .i64 (loadV (msJ S o.j) S.W a k), uev (useE (msJ S o.j) a k 1)]) ∧ Below w.heap.size w w' := by
  have hF := h.find_yes ho
  have hj := h.jlt ho
  have d0 : w.cell? ⟨H.hs o.j, 0, none⟩ = some (wp (H.sp o.j)) := (h.hd ho).at 0
  have hU := h.loadS hj a k ha
  generalize loadV (msJ S o.j) S.W a k = X at *
  generalize useE (msJ S o.j) a k 1 = E at *
  clear h ho hj
  go_enter Tryz.func44, Tryz.ntmps44
  go_wp2_with (first
    | (go_at_call 51; refine hF.mono ?_; rintro e w1 ⟨rfl, hw⟩; subst w1)
    | (go_at_call 124; refine hU.mono ?_; rintro e w1 ⟨rfl, hR⟩))
  go_ret2
  exact ⟨rfl, hR⟩
theorem runs_on {P : Ps} {n : Int} {f : Pr → Pr} (hf : ∀ q, (f q).state = q.state) (x : Int) : runsJ (onJ P n f) x = runsJ P x := runsJ_congr (onJ_st hf x)
theorem runs_kill (P : Ps) (n sig x : Int) : runsJ (if killE P n sig = 0 then killP P n sig else P) x = runsJ P x := by
  split
  · unfold killP
    refine runs_on (fun q => ?_) x
    split <;> rfl
  · rfl
end
end Go.Proofs.YtcfhanoekniaaaaGreatDoor
