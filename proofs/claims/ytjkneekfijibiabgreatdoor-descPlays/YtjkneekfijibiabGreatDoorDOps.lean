/- Pipe, Read, Write, Seek, Dup, Fork, Exec, Clear keep what holds. -/
import Derived.Test.YtjkneekfijibiabGreatDoorDInv2
import Derived.Test.YtjkneekfijibiabGreatDoorUCnt
import Derived.Deep.WholeRow
import Derived.Deep.MidRow
namespace Go.Proofs.YtjkneekfijibiabGreatDoor
open Go.RowKit Go.Maps

/-- A table that is forked: all its numbers are doubled. -/
def forkD (D : DS) (N : Ns) : DS := N.foldl (fun D x => if 0 < x.1 then incR D x.1 else D) D
/-- Numbers freed, so many looked at: all, or those that are MARKED. -/
noncomputable def freeS (all : Bool) (D : DS) (N : Ns) : Nat → DS × Ns
  | 0 => (D, N)
  | i + 1 => if 0 < (N.getD i (0, false)).1 ∧ (all = true ∨ (N.getD i (0, false)).2 = true) then (closeK (freeS all D N i).1 (N.getD i (0, false)).1, (freeS all D N i).2.set i (0, false)) else freeS all D N i
section
variable {D : DS} {Ts : List Ns} {k j i : Nat} {d : Int} {e : En}
theorem Inv.seek (h : Inv D Ts k) (hj : j < Ts.length) (x a : Int) : Inv (seekD D Ts[j] x a) Ts k := by
  unfold seekD
  split
  · rename_i hz
    unfold seekE at hz
    split at hz
    · cases he : D.E (Ts[j].getD x.toNat (0, false)).1 with
      | none => exact h
      | some e =>
        rw [he] at hz
        simp only at hz ⊢
        have hok := h.core.ent _ e he
        by_cases hk : e.kind = 1
        · rw [if_neg (fun z => z hk)] at hz
          by_cases ha : 0 ≤ a ∧ a ≤ 200
          · refine h.putE he ⟨hok.kind, fun hk => ?_, hok.frm, hok.into, hok.pipe⟩
            have := hok.file hk
            exact ⟨this.1, this.2.1, this.2.2.1, this.2.2.2.1, ha.1, ha.2⟩
          · rw [if_neg ha] at hz; omega
        · rw [if_pos hk] at hz; omega
    · omega
  · exact h
theorem readS_end {T : Wd} {x a c : Int} (hs : Sm k T) (h0 : 0 ≤ a) (h1 : a ≤ 200) : a + (readS T x a c).length ≤ 200 := by
  unfold readS
  split
  · rename_i b y e
    have := (hs.2 x b y e).2
    split
    · simp; omega
    · rw [List.length_take, List.length_drop]; omega
  · simp; omega
theorem Inv.read (h : Inv D Ts k) (hj : j < Ts.length) (x a : Int) : Inv (readO D Ts[j] x a).2.2 Ts k := by
  unfold readO
  split
  · split
    · exact h
    · rename_i e he
      have hok := h.core.ent _ e he
      split
      · exact h
      · split
        · rename_i hk
          refine h.putE he ⟨hok.kind, fun hk => ?_, hok.frm, hok.into, hok.pipe⟩
          obtain ⟨a1, a2, a3, a4, a5, a6⟩ := hok.file hk
          have := readS_end (x := e.node) (c := a) h.core.sm a5 a6
          exact ⟨a1, a2, a3, a4, by simp only; omega, this⟩
        · rename_i hk
          obtain ⟨a1, a2, p, a3, a4, a5, a6, a7, a8⟩ := hok.pipe hk
          rw [a3]
          exact h.putP a3 ⟨by simp; omega, a5, a6, a7, a8⟩
  · exact h
theorem writeE_len {T : Wd} {x a : Int} {s : List UInt8} (h : writeE T x a s = 0) : a + s.length ≤ 200 := by
  unfold writeE at h
  split at h
  · omega
  · split at h
    · omega
    · split at h
      · omega
      · omega
theorem Inv.write (h : Inv D Ts k) (hj : j < Ts.length) (x : Int) (s : List UInt8) (a : Int) : Inv (writeO D Ts[j] x s a).2.2 Ts (k + 1) := by
  have h1 := h.more (Nat.le_succ k)
  unfold writeO
  split
  · split
    · exact h1
    · rename_i e he
      have hok := h.core.ent _ e he
      split
      · exact h1
      · split
        · rename_i hk
          split
          · exact h1
          · split
            · exact h1
            · rename_i hE
              have hE' : writeE D.T e.node e.pos s = 0 := by omega
              have h2 := h.putT (h.core.lv.write e.node e.pos s) (h.core.sm.write e.node e.pos s)
              refine h2.putE (D := { D with T := writeN D.T e.node e.pos s }) he ⟨hok.kind, fun hk => ?_, hok.frm, hok.into, hok.pipe⟩
              obtain ⟨a1, a2, a3, a4, a5, a6⟩ := hok.file hk
              have := writeE_len hE'
              exact ⟨a1, a2, a3, a4, by simp only; omega, this⟩
        · rename_i hk
          obtain ⟨a1, a2, p, a3, a4, a5, a6, a7, a8⟩ := hok.pipe hk
          rw [a3]
          exact h1.putP a3 ⟨wrB_len _ _ _ a4, a5, a6, a7, a8⟩
  · exact h1
theorem Inv.dupO (h : Inv D Ts k) (hj : j < Ts.length) (x : Int) : Inv (dupD D Ts[j] x) (Ts.set j (dupN Ts[j] x)) k := by
  by_cases hz : dupE Ts[j] x = 0
  · have hx : hasN Ts[j] x = true := by
      unfold dupE at hz
      by_cases e1 : hasN Ts[j] x = true
      · exact e1
      · rw [if_neg e1] at hz; omega
    obtain ⟨i, rfl, hi, hiL, h0⟩ := hasN_at hx (h.len hj)
    unfold dupE at hz
    rw [if_pos hx] at hz
    rcases least_lt (N := Ts[j]) with hl | ⟨y, hl, hyL, hy0⟩
    · rw [hl] at hz; simp at hz
    have e0 : dupE Ts[j] i = 0 := by unfold dupE; rw [if_pos hx]; exact hz
    have e1 : dupD D Ts[j] i = incR D Ts[j][i].1 := by unfold dupD; rw [if_pos e0, getD_in hiL]; rfl
    have e2 : dupN Ts[j] i = Ts[j].set y (Ts[j][i].1, false) := by unfold dupN; rw [if_pos e0, getD_in hiL, hl, show (y : Int).toNat = y by omega]
    rw [e1, e2]
    exact h.dup hj hyL hy0 h0 (cntS_pos hj hiL) false
  · rw [show dupD D Ts[j] x = D from if_neg hz, show dupN Ts[j] x = Ts[j] from if_neg hz]
    exact h.setSelf hj
/-- A new pipe, and its two ends. -/
theorem Inv.pipe (h : Inv D Ts k) (hn : D.nx < 890) (hj : j < Ts.length) (hl1 : ¬ leastN Ts[j] < 0) (hl2 : ¬ leastN (pipeN1 D Ts[j]) < 0) : Inv (pipeD D) (Ts.set j (pipeN D Ts[j])) k := by
  have g := h.core.giv
  obtain ⟨n1, n2, n3⟩ := g.new
  have g0 := g.n0
  have hz : cntS (D.nx + 1) Ts = 0 := by
    have := h.core.cE (D.nx + 1) (by omega)
    rw [n1] at this
    simp at this
    exact this
  have h0 : Inv (pipeD0 D) Ts k := by
    refine ⟨⟨g.pipe0 (by omega), h.core.lv, h.core.sm, fun x ex hx => (h.core.ent x ex hx).keep (by show D.nx ≤ D.nx + 1; omega) (fun p y a b c d e f => ?_), h.core.cE, h.core.cR⟩, h.tab, h.few⟩
    have : p ≠ D.nx + 1 := fun e => by rw [e, n3] at a; cases a
    exact ⟨y, (if_neg this).trans a, b, c, d, e, f⟩
  have hP0 : (pipeD0 D).P (D.nx + 1) = some ([], 1, 1) := if_pos rfl
  have h1 : Inv (pipeD1 D) (Ts.set j (pipeN1 D Ts[j])) k := h0.add (D := pipeD0 D) (e := ⟨2, 1, 0, D.nx + 1, 0⟩) (by show D.nx + 1 < 899; omega) hj hl1 ⟨.inr (.inl rfl), fun z => by simp at z, fun _ => rfl, fun z => by simp at z, fun _ => ⟨by simp only; omega, by show D.nx + 1 ≤ D.nx + 1 + 1; omega, _, hP0, by simp, by simp, by simp, by simp, by simp⟩⟩
  have hj1 : j < (Ts.set j (pipeN1 D Ts[j])).length := by rw [List.length_set]; exact hj
  have hg1 := getT_set hj (pipeN1 D Ts[j]) hj1
  have h2 := h1.add (D := pipeD1 D) (j := j) (e := ⟨3, 2, 0, D.nx + 1, 0⟩) (by show D.nx + 1 + 1 < 899; omega) hj1 (by rw [hg1]; exact hl2) ⟨.inr (.inr rfl), fun z => by simp at z, fun z => by simp at z, fun _ => rfl, fun _ => ⟨by simp only; omega, by show D.nx + 1 ≤ D.nx + 1 + 1 + 1; omega, _, hP0, by simp, by simp, by simp, by simp, by simp⟩⟩
  rw [hg1, set_setT] at h2
  exact h2
theorem InvC.fork : ∀ (l : Ns) {D : DS} {C : Int → Nat}, InvC D C k → (∀ x ∈ l, 0 < x.1 → 0 < C x.1) → InvC (forkD D l) (fun d => C d + cntN d l) k
  | [], D, C, h, _ => h.congr (fun d _ => by simp [cntN])
  | x :: l, D, C, h, hl => by
    unfold forkD
    rw [List.foldl_cons]
    by_cases hx : 0 < x.1
    · rw [if_pos hx]
      refine (InvC.fork l (h.inc hx (hl x List.mem_cons_self hx)) (fun y hy h0 => ?_)).congr (fun d hd => ?_)
      · show 0 < (if y.1 = x.1 then C x.1 + 1 else C y.1)
        split
        · omega
        · exact hl y (List.mem_cons_of_mem _ hy) h0
      · simp only [cntN, List.filter_cons]
        by_cases e1 : d = x.1
        · simp [e1]; omega
        · simp [e1, Ne.symm e1]
    · rw [if_neg hx]
      refine (InvC.fork l h (fun y hy h0 => hl y (List.mem_cons_of_mem _ hy) h0)).congr (fun d hd => ?_)
      simp only [cntN, List.filter_cons]
      rw [if_neg (by simp; omega)]
theorem Inv.fork (h : Inv D Ts k) (hf : Ts.length < 8) (hj : j < Ts.length) : Inv (forkD D Ts[j]) (Ts ++ [Ts[j]]) k := by
  refine ⟨(InvC.fork Ts[j] h.core (fun x hx h0 => ?_)).congr (fun d hd => ?_), fun N hN => ?_, by rw [List.length_append]; simp; omega⟩
  · obtain ⟨i, hi, rfl⟩ := List.getElem_of_mem hx
    exact cntS_pos hj hi
  · simp [cntS]
  · rcases List.mem_append.1 hN with h1 | h1
    · exact h.tab N h1
    · rw [List.mem_singleton.1 h1]; exact h.tab _ (List.getElem_mem hj)
theorem freeS_tab (all : Bool) (D : DS) (N : Ns) : ∀ i, (freeS all D N i).2.length = N.length ∧ ∀ x, i ≤ x → (freeS all D N i).2[x]? = N[x]?
  | 0 => ⟨rfl, fun _ _ => rfl⟩
  | i + 1 => by
    obtain ⟨h1, h2⟩ := freeS_tab all D N i
    rw [freeS]
    split
    · refine ⟨by simp only [List.length_set]; exact h1, fun x hx => ?_⟩
      simp only
      rw [List.getElem?_set_ne (by omega)]
      exact h2 x (by omega)
    · exact ⟨h1, fun x hx => h2 x (by omega)⟩
theorem freeS_at {all : Bool} {N : Ns} {i : Nat} (hi : i < N.length) (h : i < (freeS all D N i).2.length) : (freeS all D N i).2[i] = N[i] := by
  have := (freeS_tab all D N i).2 i (Nat.le_refl _)
  rw [List.getElem?_eq_getElem h, List.getElem?_eq_getElem hi] at this
  exact Option.some.inj this
theorem Inv.free (h : Inv D Ts k) (hk : k ≤ 900) (hj : j < Ts.length) (all : Bool) : ∀ i, i ≤ 8 → Inv (freeS all D Ts[j] i).1 (Ts.set j (freeS all D Ts[j] i).2) k
  | 0, _ => h.setSelf hj
  | i + 1, hi => by
    have ih := Inv.free h hk hj all i (by omega)
    rw [freeS]
    split
    · rename_i hc
      have hiN : i < Ts[j].length := by rw [h.len hj]; omega
      have hiF : i < (freeS all D Ts[j] i).2.length := by rw [(freeS_tab all D Ts[j] i).1]; exact hiN
      have hj1 : j < (Ts.set j (freeS all D Ts[j] i).2).length := by rw [List.length_set]; exact hj
      have hg1 := getT_set hj (freeS all D Ts[j] i).2 hj1
      have hgi : (Ts.set j (freeS all D Ts[j] i).2)[j][i]'(by rw [hg1]; exact hiF) = Ts[j][i] := by
        simp only [hg1]
        exact freeS_at hiN hiF
      have hD : Ts[j].getD i (0, false) = Ts[j][i] := by rw [List.getD_eq_getElem?_getD, List.getElem?_eq_getElem hiN]; rfl
      rw [hD] at hc ⊢
      have h2 := ih.close hk hj1 (i := i) (by rw [hg1]; exact hiF) (by rw [hgi]; exact hc.1)
      rw [hgi, hg1, set_setT] at h2
      exact h2
    · exact ih
end
end Go.Proofs.YtjkneekfijibiabGreatDoor

namespace Go.Proofs.YtjkneekfijibiabGreatDoor
open Go.RowKit Go.Maps

theorem wpList_store_run {P : Program} {ops : Array Oper} {rest : List Oper} {op : Oper} {a : Act} {w : World} {Q : Exit → Act → World → Prop} (hgd : op.guard = none) (ty : TypeId) (x y : Operand) (ho : op.op = .store ty x y) (v u : Value) (hx : a.eval x = v) (hy : a.eval y = u) (w' : World) (hr : (Instr.storeAt ty v u).run P w = .ok () w')
    (h : wpList P ops Q rest (a.put op.dst undef) w') : wpList P ops Q (op :: rest) a w :=
  wpList_plain hgd fun _ hK => by
    unfold Oper.wp execOp
    simp only [ho, hx, hy, Sem.run_bind, hr, Sem.run_pure, Result.andThen_ok]
    exact hK _ _ h
theorem wpList_load_run {P : Program} {ops : Array Oper} {rest : List Oper} {op : Oper} {a : Act} {w : World} {Q : Exit → Act → World → Prop} (hgd : op.guard = none) (ty : TypeId) (x : Operand) (ho : op.op = .load ty x) (v u : Value) (hx : a.eval x = v) (hr : (Instr.loadAt ty v).run P w = .ok u w)
    (h : wpList P ops Q rest (a.put op.dst u) w) : wpList P ops Q (op :: rest) a w :=
  wpList_plain hgd fun _ hK => by
    unfold Oper.wp execOp
    simp only [ho, hx, Sem.run_bind, hr, Sem.run_pure, Result.andThen_ok]
    exact hK _ _ h
theorem fork_takeR {D : DS} {N : Ns} {i : Nat} (hi : i < N.length) : forkD D (N.take (i + 1)) = if 0 < N[i].1 then incR (forkD D (N.take i)) N[i].1 else forkD D (N.take i) := by
  unfold forkD
  rw [List.take_succ_eq_append_getElem hi, List.foldl_append]
  rfl
theorem fork_T (D : DS) : ∀ l : Ns, (forkD D l).T = D.T
  | [] => rfl
  | x :: l => by
    unfold forkD
    rw [List.foldl_cons]
    have h := fork_T (if 0 < x.1 then incR D x.1 else D) l
    unfold forkD at h
    rw [h]
    split <;> rfl
theorem nv_one (N : Ns) : (nv N).toArray.all (·.oneCell') = true := by
  rw [List.all_toArray, List.all_eq_true]
  intro v hv
  unfold nv at hv
  obtain ⟨x, _, hx⟩ := List.mem_flatMap.1 hv
  simp at hx
  rcases hx with rfl | rfl <;> rfl
theorem nvx0 (a b c d e f g h : Int × Bool) (w : World) : (Instr.index 75 (.agg #[.int .i64 a.1, .bool a.2, .int .i64 b.1, .bool b.2, .int .i64 c.1, .bool c.2, .int .i64 d.1, .bool d.2, .int .i64 e.1, .bool e.2, .int .i64 f.1, .bool f.2, .int .i64 g.1, .bool g.2, .int .i64 h.1, .bool h.2]) (.int .i64 0)).run Tryz.prog w = .ok (.agg #[.int .i64 a.1, .bool a.2]) w := by kernel_rfl
theorem nvx1 (a b c d e f g h : Int × Bool) (w : World) : (Instr.index 75 (.agg #[.int .i64 a.1, .bool a.2, .int .i64 b.1, .bool b.2, .int .i64 c.1, .bool c.2, .int .i64 d.1, .bool d.2, .int .i64 e.1, .bool e.2, .int .i64 f.1, .bool f.2, .int .i64 g.1, .bool g.2, .int .i64 h.1, .bool h.2]) (.int .i64 1)).run Tryz.prog w = .ok (.agg #[.int .i64 b.1, .bool b.2]) w := by kernel_rfl
theorem nvx2 (a b c d e f g h : Int × Bool) (w : World) : (Instr.index 75 (.agg #[.int .i64 a.1, .bool a.2, .int .i64 b.1, .bool b.2, .int .i64 c.1, .bool c.2, .int .i64 d.1, .bool d.2, .int .i64 e.1, .bool e.2, .int .i64 f.1, .bool f.2, .int .i64 g.1, .bool g.2, .int .i64 h.1, .bool h.2]) (.int .i64 2)).run Tryz.prog w = .ok (.agg #[.int .i64 c.1, .bool c.2]) w := by kernel_rfl
theorem nvx3 (a b c d e f g h : Int × Bool) (w : World) : (Instr.index 75 (.agg #[.int .i64 a.1, .bool a.2, .int .i64 b.1, .bool b.2, .int .i64 c.1, .bool c.2, .int .i64 d.1, .bool d.2, .int .i64 e.1, .bool e.2, .int .i64 f.1, .bool f.2, .int .i64 g.1, .bool g.2, .int .i64 h.1, .bool h.2]) (.int .i64 3)).run Tryz.prog w = .ok (.agg #[.int .i64 d.1, .bool d.2]) w := by kernel_rfl
theorem nvx4 (a b c d e f g h : Int × Bool) (w : World) : (Instr.index 75 (.agg #[.int .i64 a.1, .bool a.2, .int .i64 b.1, .bool b.2, .int .i64 c.1, .bool c.2, .int .i64 d.1, .bool d.2, .int .i64 e.1, .bool e.2, .int .i64 f.1, .bool f.2, .int .i64 g.1, .bool g.2, .int .i64 h.1, .bool h.2]) (.int .i64 4)).run Tryz.prog w = .ok (.agg #[.int .i64 e.1, .bool e.2]) w := by kernel_rfl
theorem nvx5 (a b c d e f g h : Int × Bool) (w : World) : (Instr.index 75 (.agg #[.int .i64 a.1, .bool a.2, .int .i64 b.1, .bool b.2, .int .i64 c.1, .bool c.2, .int .i64 d.1, .bool d.2, .int .i64 e.1, .bool e.2, .int .i64 f.1, .bool f.2, .int .i64 g.1, .bool g.2, .int .i64 h.1, .bool h.2]) (.int .i64 5)).run Tryz.prog w = .ok (.agg #[.int .i64 f.1, .bool f.2]) w := by kernel_rfl
theorem nvx6 (a b c d e f g h : Int × Bool) (w : World) : (Instr.index 75 (.agg #[.int .i64 a.1, .bool a.2, .int .i64 b.1, .bool b.2, .int .i64 c.1, .bool c.2, .int .i64 d.1, .bool d.2, .int .i64 e.1, .bool e.2, .int .i64 f.1, .bool f.2, .int .i64 g.1, .bool g.2, .int .i64 h.1, .bool h.2]) (.int .i64 6)).run Tryz.prog w = .ok (.agg #[.int .i64 g.1, .bool g.2]) w := by kernel_rfl
theorem nvx7 (a b c d e f g h : Int × Bool) (w : World) : (Instr.index 75 (.agg #[.int .i64 a.1, .bool a.2, .int .i64 b.1, .bool b.2, .int .i64 c.1, .bool c.2, .int .i64 d.1, .bool d.2, .int .i64 e.1, .bool e.2, .int .i64 f.1, .bool f.2, .int .i64 g.1, .bool g.2, .int .i64 h.1, .bool h.2]) (.int .i64 7)).run Tryz.prog w = .ok (.agg #[.int .i64 h.1, .bool h.2]) w := by kernel_rfl
theorem nv_index {N : Ns} (hL : N.length = 8) {i : Nat} (hi : i < N.length) (w : World) : (Instr.index 75 (.agg (nv N).toArray) (.int .i64 (i : Int))).run Tryz.prog w = .ok (.agg #[.int .i64 N[i].1, .bool N[i].2]) w := by
  match N, hL with
  | [a, b, c, d, e, f, g, h], _ =>
    have : i = 0 ∨ i = 1 ∨ i = 2 ∨ i = 3 ∨ i = 4 ∨ i = 5 ∨ i = 6 ∨ i = 7 := by simp at hi; omega
    rcases this with rfl | rfl | rfl | rfl | rfl | rfl | rfl | rfl
    · exact nvx0 a b c d e f g h w
    · exact nvx1 a b c d e f g h w
    · exact nvx2 a b c d e f g h w
    · exact nvx3 a b c d e f g h w
    · exact nvx4 a b c d e f g h w
    · exact nvx5 a b c d e f g h w
    · exact nvx6 a b c d e f g h w
    · exact nvx7 a b c d e f g h w
section
variable {w w' : World} {f r gN s gE gR gP sE sR sP b k j : Nat} {D : DS} {G : Int → Nat} {N : Ns} {Ts : List Ns}
theorem FdT.load (h : FdT w b N) : (Instr.loadAt 75 (wp b)).run Tryz.prog w = .ok (.agg (nv N).toArray) w :=
  run_loadAt_mid w b 0 75 (nv N) _ (fun j v hv => by
    rw [cell_of_row _ _ _ _ _ _ h.1]
    simpa using hv) Tryz.underlying75 rfl (by rw [nv_len, h.2]; kernel_rfl)
theorem fds_store (w : World) (c : Array Value) (hc : c.size = 16) (hL : N.length = 8) : (Instr.storeAt 75 (.pointer (some ⟨w.heap.size, 0, none⟩)) (.agg (nv N).toArray)).run Tryz.prog (w.alloc (.cells c 75)) = .ok () (w.alloc (.cells (nv N).toArray 75)) := by
  have hs : (nv N).toArray.size = 16 := by rw [List.size_toArray, nv_len, hL]
  exact run_storeAt_new w 75 c (nv N).toArray (by rw [hs]; kernel_rfl) (by rw [hs, hc]) (nv_one N)
/-- So many counts turned. -/
structure RkS (w W : World) (f r gN s : Nat) (G : Int → Nat) (gE gR gP sE sP b : Nat) (D : DS) (N : Ns) (i : Nat) : Prop where
  q : ∃ sR, RFt W f (forkD D (N.take i)) r gN s G gE gR gP sE sR sP w.heap.size N
  t : FdT W b N
  wt : Wt (fown f r gN D.T G gE gR gP) w W
theorem RkS.first (h : RFt w f D r gN s G gE gR gP sE sR sP b N) : RkS w (w.alloc (.cells (nv N).toArray 75)) f r gN s G gE gR gP sE sP b D N 0 := by
  have bA : Below w.heap.size w (w.alloc (.cells (nv N).toArray 75)) := (Below.refl _ w).alloc (Nat.le_refl _) _
  have h2 := h.below bA
  refine ⟨⟨sR, h2.toRFm, ⟨?_, h.tab.2⟩, fun z => ?_⟩, h2.tab, Wt.below _ bA⟩
  · show (w.heap.push _)[w.heap.size]? = _
    rw [Array.getElem?_push, if_pos rfl]
  · have := h.toRFm.lt z; omega
theorem RkS.below {W : World} {i : Nat} (h : RkS w W f r gN s G gE gR gP sE sP b D N i) (hb : Below W.heap.size W w') : RkS w w' f r gN s G gE gR gP sE sP b D N i := by
  obtain ⟨sR, q⟩ := h.q
  exact ⟨⟨sR, q.below hb⟩, h.t.below hb, h.wt.trans (Wt.below _ hb)⟩
theorem RkS.skip {W : World} {i : Nat} (h : RkS w W f r gN s G gE gR gP sE sP b D N i) (hi : i < N.length) (h0 : ¬ 0 < N[i].1) : RkS w W f r gN s G gE gR gP sE sP b D N (i + 1) :=
  ⟨by rw [fork_takeR hi, if_neg h0]; exact h.q, h.t, h.wt⟩
/-- One count more. -/
theorem RkS.inc {W : World} {i : Nat} (h : RkS w W f r gN s G gE gR gP sE sP b D N i) (I : Inv D Ts k) (hj : j < Ts.length) (hN : Ts[j] = N) (hi : i < N.length) (h0 : 0 < N[i].1) (hbo : ¬ fown f r gN D.T G gE gR gP b) :
    ∃ c w5, W.cell? ⟨f, 2, none⟩ = some (.map (some gR)) ∧ (Instr.lookup 85 (.map (some gR)) (.int .i64 N[i].1) false).run Tryz.prog W = .ok (.int .i64 c) W ∧ wrap64 (c + 1) = c + 1 ∧ IntKind.i64.wrap (c + 1) = c + 1 ∧ (Instr.mapUpdate 85 (.map (some gR)) (.int .i64 N[i].1) (.int .i64 (c + 1))).run Tryz.prog W = .ok () w5 ∧ RkS w w5 f r gN s G gE gR gP sE sP b D N (i + 1) := by
  obtain ⟨sR, q⟩ := h.q
  have hIc := InvC.fork (N.take i) I.core (fun x hx hx0 => by
    rw [← hN] at hx
    obtain ⟨y, hy, rfl⟩ := List.getElem_of_mem (List.mem_of_mem_take hx)
    exact cntS_pos hj hy)
  have hcp : 0 < cntS N[i].1 Ts := by
    have := cntS_pos (Ts := Ts) (j := j) (i := i) hj (by rw [hN]; exact hi)
    simp only [hN] at this
    exact this
  have h64 := I.few64 N[i].1
  have hcl := cntN_le N[i].1 (N.take i)
  rw [List.length_take] at hcl
  have hL := h.t.2
  obtain ⟨e, cl⟩ := hIc.cl h0 (by omega) (by omega)
  have hwk : (Lit.int .i64 N[i].1).wf = true := wf_few (by omega) (by have := cl.k1; omega)
  obtain ⟨_, hsR, _⟩ := q.toRFm.few hIc.giv
  have hf2 := q.toRFm.cells.2.2.1
  have hlk := q.toRFm.lookR hwk cl.cnt
  generalize hC : ((cntS N[i].1 Ts + cntN N[i].1 (N.take i) : Nat) : Int) = C at *
  have hC0 : 0 ≤ C ∧ C < 100000 := by omega
  obtain ⟨w5, hrun, pm5, g5⟩ := q.mR.put Tryz.underlying85 (by unfold maxLen; omega) N[i].1 hwk (.int .i64 (C + 1))
  have q5 := q.putR g5 pm5
  have hD : forkD D (N.take (i + 1)) = { forkD D (N.take i) with R := fun x => if x = N[i].1 then some (C + 1) else (forkD D (N.take i)).R x } := by
    rw [fork_takeR hi, if_pos h0, incR_eq cl.cnt]
  rw [← hD] at q5
  refine ⟨C, w5, hf2, hlk, by unfold wrap64; omega, by rw [IntKind.wrap_i64]; omega, hrun, ⟨⟨_, q5⟩, ?_, ?_⟩⟩
  · exact h.t.keep (g5.block b h.t.lt (fun z => hbo (.inr (.inr (.inl (Option.some.inj z))))))
  · exact h.wt.trans (Wt.grown g5 (.inr (.inr (.inl rfl))))
set_option maxRecDepth 100000 in
set_option maxHeartbeats 8000000 in
theorem RFt.fork_ok (h : RFt w f D r gN s G gE gR gP sE sR sP b N) (I : Inv D Ts k) (hj : j < Ts.length) (hN : Ts[j] = N) :
    Calls Tryz.prog 30 #[wp f, wp b] w fun y w' => y = .returned (wp w.heap.size) ∧ RkS w w' f r gN s G gE gR gP sE sP b D N 8 := by
  have hL : N.length = 8 := h.tab.2
  have hF0 := RkS.first h
  have hld := h.tab.load
  have hst : ∀ c : Array Value, c.size = 16 → (Instr.storeAt 75 (.pointer (some ⟨w.heap.size, 0, none⟩)) (.agg (nv N).toArray)).run Tryz.prog (w.alloc (.cells c 75)) = .ok () (w.alloc (.cells (nv N).toArray 75)) := fun c hc => fds_store w c hc hL
  have hst0 := hst #[.int .i64 0, .bool false, .int .i64 0, .bool false, .int .i64 0, .bool false, .int .i64 0, .bool false, .int .i64 0, .bool false, .int .i64 0, .bool false, .int .i64 0, .bool false, .int .i64 0, .bool false] rfl
  obtain ⟨sR0, q0⟩ := hF0.q
  have hld2 := q0.tab.load
  have HI : Aside (∀ (W : World) (i : Nat), RkS w W f r gN s G gE gR gP sE sP b D N i → ∀ hi : i < N.length, 0 < N[i].1 → ∃ c w5, W.cell? ⟨f, 2, none⟩ = some (.map (some gR)) ∧ (Instr.lookup 85 (.map (some gR)) (.int .i64 N[i].1) false).run Tryz.prog W = .ok (.int .i64 c) W ∧ wrap64 (c + 1) = c + 1 ∧ IntKind.i64.wrap (c + 1) = c + 1 ∧ (Instr.mapUpdate 85 (.map (some gR)) (.int .i64 N[i].1) (.int .i64 (c + 1))).run Tryz.prog W = .ok () w5 ∧ RkS w w5 f r gN s G gE gR gP sE sP b D N (i + 1)) := fun W i hR hi h0 => hR.inc I hj hN hi h0 h.off
  have HX : Aside (∀ (i : Nat) (hi : i < N.length) (V : World), (Instr.index 75 (.agg (nv N).toArray) (.int .i64 (i : Int))).run Tryz.prog V = .ok (.agg #[.int .i64 N[i].1, .bool N[i].2]) V) := fun i hi V => nv_index hL hi V
  have HL : Aside (N.length = 8) := hL
  clear h I hj hN hst q0 hL
  generalize (nv N).toArray = R at *
  go_enter Tryz.func30, Tryz.ntmps30
  go_wp2_with (first
    | (refine wpList_load_run rfl 75 _ rfl _ _ rfl hld ?_)
    | (refine wpList_load_run rfl 75 _ rfl _ _ rfl hld2 ?_)
    | (refine wpList_store_run rfl 75 _ _ rfl _ _ rfl rfl _ hst0 ?_))
  clear hld hld2 hst0
  go_loopg [7, 12] 8 (fun mm _ s12 wx => ∃ i : Nat, Aside (i + mm = 8) ∧ s12 = .int .i64 (i : Int) ∧ RkS w wx f r gN s G gE gR gP sE sP b D N i)
  case atStart => exact ⟨0, rfl, rfl, hF0⟩
  case round =>
    obtain ⟨i, HI8, rfl, hR⟩ := hrel
    have hi9' : (i : Int) ≤ 8 := by have := HI8.out; omega
    by_cases hlt : (i : Int) < 8
    · have HiL : Aside (i < N.length) := by show i < N.length; have := HL.out; omega
      have hix := HX.out i HiL.out
      by_cases h0 : 0 < (N[i]'HiL.out).1
      · have hbA : ∀ o, Below wr.heap.size wr (wr.alloc o).drew := fun o => below_dr ((Below.refl _ wr).alloc (Nat.le_refl _) o)
        obtain ⟨c, w5, d1, d2, d3, d4, d5, hR5⟩ := HI.out _ i (hR.below (hbA (.cells #[.int .i64 (N[i]'HiL.out).1, .bool (N[i]'HiL.out).2] 73))) HiL.out h0
        obtain ⟨c0, c1⟩ := new_pair wr (.int .i64 (N[i]'HiL.out).1) (.bool (N[i]'HiL.out).2) 73
        generalize (N[i]'HiL.out).1 = X at *
        generalize (N[i]'HiL.out).2 = Y at *
        clear hR hbA
        go_upto_region 6 with fail
        clear hix
        go_region
        all_goals
          go_wp2_with fail
          go_roundg (7 - i)
          case measure => have := HI8.out; omega
          case rel => exact ⟨i + 1, (show i + 1 + (7 - i) = 8 by omega), by rfl, hR5⟩
      · have hR2 := (hR.skip HiL.out h0).below ((Below.refl _ wr).alloc (Nat.le_refl _) (.cells #[.int .i64 (N[i]'HiL.out).1, .bool (N[i]'HiL.out).2] 73))
        obtain ⟨c0, c1⟩ := new_pair wr (.int .i64 (N[i]'HiL.out).1) (.bool (N[i]'HiL.out).2) 73
        generalize (N[i]'HiL.out).1 = X at *
        generalize (N[i]'HiL.out).2 = Y at *
        clear hR
        go_wp2_with fail
        go_roundg (7 - i)
        case measure => have := HI8.out; omega
        case rel => exact ⟨i + 1, (show i + 1 + (7 - i) = 8 by omega), by rfl, hR2⟩
    · have h8 : i = 8 := by omega
      subst h8
      go_wp2_with fail
      go_ret
      exact ⟨rfl, hR⟩
end
end Go.Proofs.YtjkneekfijibiabGreatDoor

namespace Go.Proofs.YtjkneekfijibiabGreatDoor
open Go.RowKit Go.Maps

theorem RTr.numR {w : World} {r gN s : Nat} {T : Wd} {G : Int → Nat} (h : RTr w r gN s T G) : IsNum T s := h.map.num (f := fun k => ndv G k)
section
variable {w w' w1 w2 : World} {f r gN s gE gR gP sE sR sP b k j : Nat} {D D1 D2 : DS} {G : Int → Nat} {N N1 N2 : Ns} {Ts : List Ns}
theorem town_close {d : Int} : ∀ i, town r gN (closeK D d).T G i → town r gN D.T G i := by
  intro i h
  unfold closeK at h
  split at h
  · split at h
    · exact h
    · split at h
      · exact town_hold i h
      · exact h
  · exact h
theorem RFt.closeI (h : RFt w f D r gN s G gE gR gP sE sR sP b N) (I : Inv D Ts k) (hk : k ≤ 900) (hj : j < Ts.length) (hN : Ts[j] = N) {i : Nat} (hi : i < 8) (hiL : i < N.length) (h0 : 0 < N[i].1) :
    Calls Tryz.prog 87 #[wp f, wp b, .int .i64 (i : Int)] w fun e w' => e = .returned (.int .i64 0) ∧ RGo w w' f D (closeK D N[i].1) r gN G gE gR gP b (N.set i (0, false)) := by
  have hcl := I.cl hj (i := i) (by rw [hN]; exact hiL)
  simp only [hN] at hcl
  obtain ⟨e, cl⟩ := hcl h0
  obtain ⟨_, hsR, hsP⟩ := h.toRFm.few I.core.giv
  have hn := hasN_yes hi hiL h0
  have hs64 := h.tree.numR.few I.core.lv.toTrOk
  by_cases hm : 0 < (cntS N[i].1 Ts : Int) - 1
  · exact h.close_more hi hiL cl.toCanClose hsR hm hn
  · by_cases hkd : e.kind = 1
    · exact h.close_file hi hiL cl.toCanClose hsR hm hn hkd I.core.lv.toTrOk (by omega) (fun x C e => by have := I.core.sm.1 x C e; omega) (fun b x e => by have := (I.core.sm.2 _ b x e).1; omega)
    · exact h.close_end hi hiL cl.toCanClose hsR hm hn hkd hsP
/-- Free, so far. -/
def RFr (w W : World) (f : Nat) (D : DS) (r gN : Nat) (G : Int → Nat) (gE gR gP b : Nat) (N : Ns) (all : Bool) (i : Nat) : Prop := RGo w W f D (freeS all D N i).1 r gN G gE gR gP b (freeS all D N i).2 ∧ ∀ x, town r gN (freeS all D N i).1.T G x → town r gN D.T G x
theorem RFr.step {all : Bool} {i : Nat} (h : RFr w w1 f D r gN G gE gR gP b N all i) (I : Inv D Ts k) (hk : k ≤ 900) (hj : j < Ts.length) (hN : Ts[j] = N) (hi : i < 8) (hiL : i < N.length) (h0 : 0 < N[i].1) (ha : all = true ∨ N[i].2 = true) :
    Calls Tryz.prog 87 #[wp f, wp b, .int .i64 (i : Int)] w1 fun e w' => e = .returned (.int .i64 0) ∧ RFr w w' f D r gN G gE gR gP b N all (i + 1) := by
  have hiF : i < (freeS all D N i).2.length := by rw [(freeS_tab all D N i).1]; exact hiL
  have hat := freeS_at (D := D) (all := all) hiL hiF
  have hD : N.getD i (0, false) = N[i] := by rw [List.getD_eq_getElem?_getD, List.getElem?_eq_getElem hiL]; rfl
  have e1 : freeS all D N (i + 1) = (closeK (freeS all D N i).1 N[i].1, (freeS all D N i).2.set i (0, false)) := by
    rw [freeS, hD, if_pos ⟨h0, ha⟩]
  have I1 := I.free hk hj all i (by omega)
  rw [hN] at I1
  have hj1 : j < (Ts.set j (freeS all D N i).2).length := by rw [List.length_set]; exact hj
  have hg1 := getT_set hj (freeS all D N i).2 hj1
  obtain ⟨hG, htw⟩ := h
  have hG' := hG
  obtain ⟨s1, sE1, sR1, sP1, q, wt⟩ := hG
  have hc := q.closeI I1 hk hj1 hg1 hi hiF (by rw [hat]; exact h0)
  rw [hat] at hc
  refine hc.mono ?_
  rintro e w' ⟨rfl, hG2⟩
  unfold RFr
  rw [e1]
  exact ⟨rfl, RGo.upon htw hG' hG2, fun x hx => htw x (town_close x hx)⟩
theorem RFr.skip {all : Bool} {i : Nat} (h : RFr w w1 f D r gN G gE gR gP b N all i) (hiL : i < N.length) (hc : ¬ (0 < N[i].1 ∧ (all = true ∨ N[i].2 = true))) : RFr w w1 f D r gN G gE gR gP b N all (i + 1) := by
  have hD : N.getD i (0, false) = N[i] := by rw [List.getD_eq_getElem?_getD, List.getElem?_eq_getElem hiL]; rfl
  unfold RFr
  rw [freeS, hD, if_neg hc]
  exact h
theorem RFr.at {all : Bool} {i : Nat} (h : RFr w w1 f D r gN G gE gR gP b N all i) (hi : i < 8) (hiL : i < N.length) : w1.cell? ⟨b, i * 2, none⟩ = some (.int .i64 N[i].1) ∧ w1.cell? ⟨b, i * 2 + 1, none⟩ = some (.bool N[i].2) := by
  have hiF : i < (freeS all D N i).2.length := by rw [(freeS_tab all D N i).1]; exact hiL
  have hat := freeS_at (D := D) (all := all) hiL hiF
  obtain ⟨⟨s1, sE1, sR1, sP1, q, wt⟩, htw⟩ := h
  have := q.tab.at hi
  simp only [hat] at this
  exact this
set_option maxRecDepth 100000 in
set_option maxHeartbeats 8000000 in
theorem RFt.free_ok (h : RFt w f D r gN s G gE gR gP sE sR sP b N) (I : Inv D Ts k) (hk : k ≤ 900) (hj : j < Ts.length) (hN : Ts[j] = N) (all : Bool) :
    Calls Tryz.prog 92 #[wp f, wp b, .bool all] w fun y w' => y = .returned (.tuple #[]) ∧ RFr w w' f D r gN G gE gR gP b N all 8 := by
  have hF0 : RFr w w f D r gN G gE gR gP b N all 0 := ⟨h.same (Below.refl _ _), fun x hx => hx⟩
  have HL : Aside (N.length = 8) := h.tab.2
  have HC : Aside (∀ (W : World) (i : Nat), RFr w W f D r gN G gE gR gP b N all i → i < 8 → ∀ hiL : i < N.length, 0 < N[i].1 → (all = true ∨ N[i].2 = true) → Calls Tryz.prog 87 #[wp f, wp b, .int .i64 (i : Int)] W fun e w' => e = .returned (.int .i64 0) ∧ RFr w w' f D r gN G gE gR gP b N all (i + 1)) := fun W i hR hi hiL h0 ha => hR.step I hk hj hN hi hiL h0 ha
  clear h I hk hj hN
  go_enter Tryz.func92, Tryz.ntmps92
  go_wp2_with fail
  go_loopg [6, 7] 8 (fun mm _ s7 wx => ∃ i : Nat, Aside (i + mm = 8) ∧ s7 = .int .i64 (i : Int) ∧ RFr w wx f D r gN G gE gR gP b N all i)
  case atStart => exact ⟨0, rfl, rfl, hF0⟩
  case round =>
    obtain ⟨i, HI8, rfl, hR⟩ := hrel
    have hi9' : (i : Int) ≤ 8 := by have := HI8.out; omega
    by_cases hlt : (i : Int) < 8
    · have HiL : Aside (i < N.length) := by show i < N.length; have := HL.out; omega
      have Hi8 : Aside (i < 8) := by show i < 8; omega
      obtain ⟨c0, c1⟩ := hR.at Hi8.out HiL.out
      by_cases h0 : 0 < (N[i]'HiL.out).1
      · cases all with
        | true =>
          have hC := HC.out _ i hR Hi8.out HiL.out h0 (.inl rfl)
          generalize (N[i]'HiL.out).1 = X at *
          generalize (N[i]'HiL.out).2 = Y at *
          clear hR
          go_wp2_with (go_at_call 87; refine hC.mono ?_; rintro e w2 ⟨rfl, hR2⟩)
          go_roundg (7 - i)
          case measure => have := HI8.out; omega
          case rel => exact ⟨i + 1, (show i + 1 + (7 - i) = 8 by omega), by rfl, hR2⟩
        | false =>
          by_cases hY : (N[i]'HiL.out).2 = true
          · have hC := HC.out _ i hR Hi8.out HiL.out h0 (.inr hY)
            rw [hY] at c1
            clear hY hR
            generalize (N[i]'HiL.out).1 = X at *
            go_wp2_with (go_at_call 87; refine hC.mono ?_; rintro e w2 ⟨rfl, hR2⟩)
            go_roundg (7 - i)
            case measure => have := HI8.out; omega
            case rel => exact ⟨i + 1, (show i + 1 + (7 - i) = 8 by omega), by rfl, hR2⟩
          · have hR2 := hR.skip HiL.out (fun z => by rcases z.2 with z2 | z2; exact absurd z2 (by simp); exact hY z2)
            have hY' : (N[i]'HiL.out).2 = false := by simpa using hY
            rw [hY'] at c1
            clear hY hY' hR
            generalize (N[i]'HiL.out).1 = X at *
            go_wp2_with fail
            go_roundg (7 - i)
            case measure => have := HI8.out; omega
            case rel => exact ⟨i + 1, (show i + 1 + (7 - i) = 8 by omega), by rfl, hR2⟩
      · have hR2 := hR.skip HiL.out (fun z => h0 z.1)
        generalize (N[i]'HiL.out).1 = X at *
        generalize (N[i]'HiL.out).2 = Y at *
        clear hR
        go_wp2_with fail
        go_roundg (7 - i)
        case measure => have := HI8.out; omega
        case rel => exact ⟨i + 1, (show i + 1 + (7 - i) = 8 by omega), by rfl, hR2⟩
    · have h8 : i = 8 := by omega
      subst h8
      go_wp2_with fail
      go_end0
      exact ⟨rfl, hR⟩
end
end Go.Proofs.YtjkneekfijibiabGreatDoor

namespace Go.Proofs.YtjkneekfijibiabGreatDoor
open Go.RowKit Go.Maps

theorem holdN_no {T : Wd} {x : Int} (h : holdE T x 1 ≠ 0) : holdN T x 1 = T := by
  unfold holdE at h; unfold holdN
  cases hn : T x with
  | none => rfl
  | some nd => cases nd with
    | dir C => rfl
    | file b y =>
      rw [hn] at h
      simp only at h ⊢
      by_cases h9 : (y : Int) + 1 < 0
      · omega
      · rw [if_neg h9] at h; exact absurd rfl h
/-- How many there are. -/
def IsN {α : Type} (F : Int → Option α) (n : Nat) : Prop := ∃ ks : List Int, ks.Nodup ∧ ks.length = n ∧ ∀ x, x ∈ ks ↔ (F x).isSome = true
theorem IsN.one {α : Type} {F : Int → Option α} {n n' : Nat} (h : IsN F n) (h' : IsN F n') : n = n' := by
  obtain ⟨a, ha, rfl, ma⟩ := h
  obtain ⟨b, hb, rfl, mb⟩ := h'
  exact perm_len ha hb (fun x => (ma x).trans (mb x).symm)
theorem IsN.few {α : Type} {F : Int → Option α} {n : Nat} (h : IsN F n) {B : Int} (h0 : 0 ≤ B) (hB : ∀ x, (F x).isSome = true → 0 < x ∧ x ≤ B) : (n : Int) ≤ B := by
  obtain ⟨ks, h1, rfl, h2⟩ := h
  have h5 := int_sub (b := ((List.range B.toNat).map (fun i : Nat => (i : Int) + 1))) h1 (fun x hx => by
    have := hB x ((h2 x).1 hx)
    exact List.mem_map.2 ⟨(x - 1).toNat, List.mem_range.2 (by omega), by omega⟩)
  simp at h5
  omega
noncomputable def closeD (D : DS) (N : Ns) (x : Int) : DS := if hasN N x = true then closeK D (N.getD x.toNat (0, false)).1 else D
def closeN (N : Ns) (x : Int) : Ns := if hasN N x = true then N.set x.toNat (0, false) else N
def dup2E (N : Ns) (x y : Int) : Int := if hasN N x = true then (if 0 ≤ y ∧ y ≤ 7 then 0 else 2) else 7
noncomputable def dup2D (D : DS) (N : Ns) (x y : Int) : DS := if dup2E N x y = 0 ∧ x ≠ y then (if (N.getD y.toNat (0, false)).1 = 0 then incR D (N.getD x.toNat (0, false)).1 else closeK (incR D (N.getD x.toNat (0, false)).1) (N.getD y.toNat (0, false)).1) else D
def dup2N (N : Ns) (x y : Int) : Ns := if dup2E N x y = 0 ∧ x ≠ y then N.set y.toNat ((N.getD x.toNat (0, false)).1, false) else N
def noPipe (N : Ns) (n : Nat) : Prop := usedN N + 2 > 8 ∨ n + 2 > 40
/-- What Pipe comes to. -/
def PipeO (D : DS) (N : Ns) (n : Nat) (x y c : Int) (D' : DS) (N' : Ns) : Prop := (noPipe N n ∧ x = 0 ∧ y = 0 ∧ c = 12 ∧ D' = D ∧ N' = N) ∨ (¬ noPipe N n ∧ x = leastN N ∧ y = leastN (pipeN1 D N) ∧ c = 0 ∧ D' = pipeD D ∧ N' = pipeN D N)
section
variable {D : DS} {Ts : List Ns} {k j i : Nat} {d : Int} {e : En}
theorem used_set : ∀ (N : Ns) (i : Nat) (y : Int × Bool), usedN (N.set i y) ≤ usedN N + 1
  | [], _, _ => by simp [usedN]
  | x :: N, 0, y => by
    simp only [List.set_cons_zero, usedN, List.filter_cons]
    split <;> split <;> simp <;> omega
  | x :: N, i + 1, y => by
    have := used_set N i y
    simp only [List.set_cons_succ, usedN, List.filter_cons] at this ⊢
    split
    · simp; omega
    · exact this
theorem Inv.nn (h : Inv D Ts k) (hj : j < Ts.length) : ∀ x ∈ Ts[j], 0 ≤ x.1 := fun x hx => ((h.tab _ (List.getElem_mem hj)).2 x hx).1
theorem Inv.pipe_room (h : Inv D Ts k) (hj : j < Ts.length) {n : Nat} (hf : ¬ noPipe Ts[j] n) : ¬ leastN Ts[j] < 0 ∧ ¬ leastN (pipeN1 D Ts[j]) < 0 := by
  have h0 := h.core.giv.n0
  have hl := h.len hj
  have hu : usedN Ts[j] + 2 ≤ 8 := by unfold noPipe at hf; omega
  have e1 : ¬ leastN Ts[j] < 0 := fun z => by
    have := (used_least (h.nn hj)).1 z; omega
  refine ⟨e1, fun z => ?_⟩
  have h2 : ∀ x ∈ pipeN1 D Ts[j], 0 ≤ x.1 := fun x hx => by
    unfold pipeN1 addN at hx
    rcases List.mem_or_eq_of_mem_set hx with h1 | h1
    · exact h.nn hj x h1
    · rw [h1]; show 0 ≤ D.nx + 1 + 1; omega
  have h3 := (used_least h2).1 z
  have h4 : usedN (pipeN1 D Ts[j]) ≤ usedN Ts[j] + 1 := used_set _ _ _
  have h5 : (pipeN1 D Ts[j]).length = 8 := by unfold pipeN1 addN; rw [List.length_set]; exact hl
  omega
theorem Inv.closeO (h : Inv D Ts k) (hk : k ≤ 900) (hj : j < Ts.length) (x : Int) : Inv (closeD D Ts[j] x) (Ts.set j (closeN Ts[j] x)) k := by
  unfold closeD closeN
  by_cases hx : hasN Ts[j] x = true
  · obtain ⟨i, rfl, hi, hiL, h0⟩ := hasN_at hx (h.len hj)
    rw [if_pos hx, if_pos hx, getD_in hiL, show (i : Int).toNat = i by omega]
    exact h.close hk hj hiL h0
  · rw [if_neg hx, if_neg hx]; exact h.setSelf hj
theorem Inv.dup2O (h : Inv D Ts k) (hk : k ≤ 900) (hj : j < Ts.length) (x y : Int) : Inv (dup2D D Ts[j] x y) (Ts.set j (dup2N Ts[j] x y)) k := by
  unfold dup2D dup2N
  by_cases hz : dup2E Ts[j] x y = 0 ∧ x ≠ y
  · rw [if_pos hz, if_pos hz]
    obtain ⟨hz, hne⟩ := hz
    unfold dup2E at hz
    by_cases hx : hasN Ts[j] x = true
    · rw [if_pos hx] at hz
      by_cases hy : 0 ≤ y ∧ y ≤ 7
      · obtain ⟨i, rfl, hi, hiL, h0⟩ := hasN_at hx (h.len hj)
        obtain ⟨i2, rfl⟩ : ∃ i2 : Nat, y = i2 := ⟨y.toNat, by omega⟩
        have hiL2 : i2 < Ts[j].length := by rw [h.len hj]; omega
        rw [getD_in hiL, getD_in hiL2, show (i2 : Int).toNat = i2 by omega]
        by_cases e0 : Ts[j][i2].1 = 0
        · rw [if_pos e0]
          exact h.dup hj hiL2 e0 h0 (cntS_pos hj hiL) false
        · rw [if_neg e0]
          have := h.nn hj _ (List.getElem_mem hiL2)
          exact (h.dup2 hk hj hiL2 (by omega) h0 (cntS_pos hj hiL)).1
      · rw [if_neg hy] at hz; omega
    · rw [if_neg hx] at hz; omega
  · rw [if_neg hz, if_neg hz]; exact h.setSelf hj
end
end Go.Proofs.YtjkneekfijibiabGreatDoor
