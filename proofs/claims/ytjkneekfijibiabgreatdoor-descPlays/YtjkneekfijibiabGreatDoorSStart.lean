/- One more in either list; each call of either side, with all that stays. -/
import Derived.Test.YtjkneekfijibiabGreatDoorSState
import Derived.Test.YtjkneekfijibiabGreatDoorSFds
import Derived.Test.YtjkneekfijibiabGreatDoorRAll3
import Derived.Test.YtjkneekfijibiabGreatDoorDRf
namespace Go.Proofs.YtjkneekfijibiabGreatDoor
open Go.RowKit Go.Maps Go.Lib Go.Sort

section
variable {w0 w w' W : World} {C C' : List (Nat × Nat × Value)} {m : Int} {f r f2 r2 k k' j b : Nat} {D D' D2 D2' : DS} {bs bs2 bs' bs2' cs ds : List Nat} {Ts Ts2 Ts' Ts2' : List Ns} {v1 v2 v' : Value} {A A' : Nat → Prop} {ek : Nat × Nat}
theorem BL.push1 (h : BL w0 C w m f r f2 r2 ek D bs Ts k D2 bs2 Ts2 v1 v2 cs ds) (hg : w.grownBy w' v1.ownBlock) (hr : w'.ownsRow w0.heap.size 64 1 v' (cs.length + 1) (cs.map wp ++ [wp b])) (hv : v'.ownBlock = v1.ownBlock ∨ v'.ownBlock = some w.heap.size) (hk : ∀ g j, v1.ownBlock = some g → j < cs.length → w'.cell? ⟨g, j, none⟩ = w.cell? ⟨g, j, none⟩) : BL w0 C w' m f r f2 r2 ek D bs Ts k D2 bs2 Ts2 v' v2 (cs ++ [b]) ds := by
  obtain ⟨A, hb, h1, h2, h3, h4⟩ := h.st
  have kp : ∀ i, i < w.heap.size → v1.ownBlock ≠ some i → w'.heap[i]? = w.heap[i]? := fun i hi hn => hg.block i hi (fun e => hn e.symm)
  have hbs : ∀ i, v1.ownBlock = some i → w0.heap.size ≤ i := fun i hi => (orow_block h.r1 hi).1
  have hsz := h.bel.size
  have n2 : ∀ i, v2.ownBlock = some i → v1.ownBlock ≠ some i := fun i hi e => by
    obtain ⟨_, c1, e1⟩ := orow_block h.r1 e
    obtain ⟨_, c2, e2⟩ := orow_block h.r2 hi
    rw [e1] at e2; simp at e2
  have low : ∀ i, i < w0.heap.size → w'.heap[i]? = w.heap[i]? := fun i hi => kp i (by omega) (fun e => by have := hbs i e; omega)
  have hltC : ∀ c ∈ C, c.1 < w.heap.size := fun c hc => World.block_lt_of_cell? w _ (h.cell c hc)
  refine ⟨⟨A, hb.keep (fun i hi => kp i (hb.lt i hi) (fun e => h2 i e hi)) hg.size (low _ h.mlt) (low _ h.elt), h1, fun i hi ha => ?_, h3, h4⟩, ⟨hg.os.trans h.bel.os, hg.tape.trans h.bel.tape, hg.output.trans h.bel.output, Nat.le_trans hsz hg.size, fun i hi => (low i hi).trans (h.bel.block i hi)⟩, ?_, orow_keep h.r2 (fun g hg' hl => kp g hl (n2 g hg')), fun c hc => ?_, fun c hc hv' => ?_, h.c2, h.mlt, h.elt⟩
  · rcases hv with e | e
    · exact h2 i (e ▸ hi) ha
    · rw [e] at hi; cases hi; have := hb.lt _ ha; omega
  · rw [List.length_append, List.map_append]; exact hr
  · by_cases e : v1.ownBlock = some c.1
    · rw [hk _ _ e (h.c1 c hc e)]; exact h.cell c hc
    · rw [World.cell?_of_block (w := w) (a := ⟨c.1, c.2.1, none⟩) (kp _ (hltC c hc) e)]; exact h.cell c hc
  · rw [List.length_append]
    rcases hv with e | e
    · have := h.c1 c hc (e ▸ hv'); omega
    · rw [e] at hv'; have := hltC c hc; have := Option.some.inj hv'; omega
theorem BL.push2 (h : BL w0 C w m f r f2 r2 ek D bs Ts k D2 bs2 Ts2 v1 v2 cs ds) (hg : w.grownBy w' v2.ownBlock) (hr : w'.ownsRow w0.heap.size 71 1 v' (ds.length + 1) (ds.map wp ++ [wp b])) (hv : v'.ownBlock = v2.ownBlock ∨ v'.ownBlock = some w.heap.size) (hk : ∀ g j, v2.ownBlock = some g → j < ds.length → w'.cell? ⟨g, j, none⟩ = w.cell? ⟨g, j, none⟩) : BL w0 C w' m f r f2 r2 ek D bs Ts k D2 bs2 Ts2 v1 v' cs (ds ++ [b]) := by
  obtain ⟨A, hb, h1, h2, h3, h4⟩ := h.st
  have kp : ∀ i, i < w.heap.size → v2.ownBlock ≠ some i → w'.heap[i]? = w.heap[i]? := fun i hi hn => hg.block i hi (fun e => hn e.symm)
  have hbs : ∀ i, v2.ownBlock = some i → w0.heap.size ≤ i := fun i hi => (orow_block h.r2 hi).1
  have hsz := h.bel.size
  have n2 : ∀ i, v1.ownBlock = some i → v2.ownBlock ≠ some i := fun i hi e => by
    obtain ⟨_, c1, e1⟩ := orow_block h.r2 e
    obtain ⟨_, c2, e2⟩ := orow_block h.r1 hi
    rw [e1] at e2; simp at e2
  have low : ∀ i, i < w0.heap.size → w'.heap[i]? = w.heap[i]? := fun i hi => kp i (by omega) (fun e => by have := hbs i e; omega)
  have hltC : ∀ c ∈ C, c.1 < w.heap.size := fun c hc => World.block_lt_of_cell? w _ (h.cell c hc)
  refine ⟨⟨A, hb.keep (fun i hi => kp i (hb.lt i hi) (fun e => h3 i e hi)) hg.size (low _ h.mlt) (low _ h.elt), h1, h2, fun i hi ha => ?_, h4⟩, ⟨hg.os.trans h.bel.os, hg.tape.trans h.bel.tape, hg.output.trans h.bel.output, Nat.le_trans hsz hg.size, fun i hi => (low i hi).trans (h.bel.block i hi)⟩, orow_keep h.r1 (fun g hg' hl => kp g hl (n2 g hg')), ?_, fun c hc => ?_, h.c1, fun c hc hv' => ?_, h.mlt, h.elt⟩
  · rcases hv with e | e
    · exact h3 i (e ▸ hi) ha
    · rw [e] at hi; cases hi; have := hb.lt _ ha; omega
  · rw [List.length_append, List.map_append]; exact hr
  · by_cases e : v2.ownBlock = some c.1
    · rw [hk _ _ e (h.c2 c hc e)]; exact h.cell c hc
    · rw [World.cell?_of_block (w := w) (a := ⟨c.1, c.2.1, none⟩) (kp _ (hltC c hc) e)]; exact h.cell c hc
  · rw [List.length_append]
    rcases hv with e | e
    · have := h.c2 c hc (e ▸ hv'); omega
    · rw [e] at hv'; have := hltC c hc; have := Option.some.inj hv'; omega

/-- append, at a step of a region that draws. -/
theorem step_push1 {ops : Array Oper} {o : Oper} {a : Act} {K : Act → World → Prop} {Q : Exit → Act → World → Prop} {E : Prop}
    (hg : o.guard = none) (s x : Operand) (hop : o.op = Op.call { callee := Callee.builtin Builtin.append, args := #[s, x], argTypes := #[70, 70] })
    (h : BL w0 C w m f r f2 r2 ek D bs Ts k D2 bs2 Ts2 v1 v2 cs ds) (hs : a.eval s = v1) {q c : Nat} (hx : a.eval x = .slice (some ⟨q, 0, none⟩) 1 c) (hq : (q, 0, wp b) ∈ C) (hl : cs.length ≤ 100)
    (hK : ∀ v' w', BL w0 C w' m f r f2 r2 ek D bs Ts k D2 bs2 Ts2 v' v2 (cs ++ [b]) ds → K (a.put o.dst v') w') :
    if Region.wanted o (yielded ops a.tmps) = true then Oper.wp Tryz.prog o a w K Q else E := by
  have hw : Region.wanted o (yielded ops a.tmps) = true := by simp [Region.wanted, hg]
  rw [if_pos hw]
  obtain ⟨i0, hi, hz0, hz1, hz2⟩ := info_parts (P := Tryz.prog) (e := 64) (z := .pointer none) (size := 1) (bytes := 8) (by kernel_rfl)
  obtain ⟨v', w', hrun, r1, r2, r3, r4⟩ := append_stays (P := Tryz.prog) w w0.heap.size 70 o.type 64 i0 (.pointer none) 8 Tryz.underlying70 hi hz0 hz1 hz2 rfl v1 cs.length _ h.r1 ⟨q, 0, none⟩ c (wp b) (h.cell _ hq) rfl (by unfold maxLen; omega) (by omega) h.bel.size
  unfold Oper.wp
  simp [execOp, hop, resolve, invoke, builtin, hs, hx, hrun, Result.andThen]
  exact hK v' w' (h.push1 r2 r1 r3 r4)
theorem step_push2 {ops : Array Oper} {o : Oper} {a : Act} {K : Act → World → Prop} {Q : Exit → Act → World → Prop} {E : Prop}
    (hg : o.guard = none) (s x : Operand) (hop : o.op = Op.call { callee := Callee.builtin Builtin.append, args := #[s, x], argTypes := #[76, 76] })
    (h : BL w0 C w m f r f2 r2 ek D bs Ts k D2 bs2 Ts2 v1 v2 cs ds) (hs : a.eval s = v2) {q c : Nat} (hx : a.eval x = .slice (some ⟨q, 0, none⟩) 1 c) (hq : (q, 0, wp b) ∈ C) (hl : ds.length ≤ 100)
    (hK : ∀ v' w', BL w0 C w' m f r f2 r2 ek D bs Ts k D2 bs2 Ts2 v1 v' cs (ds ++ [b]) → K (a.put o.dst v') w') :
    if Region.wanted o (yielded ops a.tmps) = true then Oper.wp Tryz.prog o a w K Q else E := by
  have hw : Region.wanted o (yielded ops a.tmps) = true := by simp [Region.wanted, hg]
  rw [if_pos hw]
  obtain ⟨i0, hi, hz0, hz1, hz2⟩ := info_parts (P := Tryz.prog) (e := 71) (z := .pointer none) (size := 1) (bytes := 8) (by kernel_rfl)
  obtain ⟨v', w', hrun, r1, r2, r3, r4⟩ := append_stays (P := Tryz.prog) w w0.heap.size 76 o.type 71 i0 (.pointer none) 8 Tryz.underlying76 hi hz0 hz1 hz2 rfl v2 ds.length _ h.r2 ⟨q, 0, none⟩ c (wp b) (h.cell _ hq) rfl (by unfold maxLen; omega) (by omega) h.bel.size
  unfold Oper.wp
  simp [execOp, hop, resolve, invoke, builtin, hs, hx, hrun, Result.andThen]
  exact hK v' w' (h.push2 r2 r1 r3 r4)

/-- What an item does, whichever it is. -/
theorem fds_any (v : Int) (hv : v ≠ 9) (h : BD w m f r f2 r2 ek D bs Ts k D bs2 Ts A) (hk : k ≤ 800) (hn : D.nx < 800) (hj : j < bs.length) (hj2 : j < bs2.length) (hjT : j < Ts.length) (t9 X Y : Int) (p : List UInt8) (hp : p.length ≤ 250) (yes : Bool) (hY : Y < 9223372036854775808) :
    Calls Tryz.prog 31 #[wp f, wp f2, wp bs[j], wp bs2[j], .agg #[.int .i64 v, .int .i64 t9, .int .i64 X, .int .i64 Y, tx p, .bool yes]] w fun e w' => e = .returned (.bool true) ∧ Nxd w m f r f2 r2 ek D bs bs2 Ts k A w' := by
  by_cases h9 : ¬ (0 ≤ v ∧ v ≤ 8) ∧ v ≠ 10 ∧ v ≠ 11
  · exact fds_none v h9 h hk hn hj hj2 hjT t9 X Y p hp yes hY
  · have hc : v = 0 ∨ v = 1 ∨ v = 2 ∨ v = 3 ∨ v = 4 ∨ v = 5 ∨ v = 6 ∨ v = 7 ∨ v = 8 ∨ v = 10 ∨ v = 11 := by omega
    rcases hc with rfl | rfl | rfl | rfl | rfl | rfl | rfl | rfl | rfl | rfl | rfl
    · exact fds_0 h hk hn hj hj2 hjT t9 X Y p hp yes hY
    · exact fds_1 h hk hn hj hj2 hjT t9 X Y p hp yes hY
    · exact fds_2 h hk hn hj hj2 hjT t9 X Y p hp yes hY
    · exact fds_3 h hk hn hj hj2 hjT t9 X Y p hp yes hY
    · exact fds_4 h hk hn hj hj2 hjT t9 X Y p hp yes hY
    · exact fds_5 h hk hn hj hj2 hjT t9 X Y p hp yes hY
    · exact fds_6 h hk hn hj hj2 hjT t9 X Y p hp yes hY
    · exact fds_7 h hk hn hj hj2 hjT t9 X Y p hp yes hY
    · exact fds_8 h hk hn hj hj2 hjT t9 X Y p hp yes hY
    · exact fds_10 h hk hn hj hj2 hjT t9 X Y p hp yes hY
    · exact fds_11 h hk hn hj hj2 hjT t9 X Y p hp yes hY
theorem BL.fds (h : BL w0 C w m f r f2 r2 ek D bs Ts k D bs2 Ts v1 v2 cs ds) (v : Int) (hv : v ≠ 9) (hk : k ≤ 800) (hn : D.nx < 800) (hj : j < bs.length) (hj2 : j < bs2.length) (t9 X Y : Int) (p : List UInt8) (hp : p.length ≤ 250) (yes : Bool) (hY : Y < 9223372036854775808) :
    Calls Tryz.prog 31 #[wp f, wp f2, wp bs[j], wp bs2[j], .agg #[.int .i64 v, .int .i64 t9, .int .i64 X, .int .i64 Y, tx p, .bool yes]] w fun e w' => e = .returned (.bool true) ∧ ∃ D' Ts', BL w0 C w' m f r f2 r2 ek D' bs Ts' (k + 2) D' bs2 Ts' v1 v2 cs ds ∧ D'.nx ≤ D.nx + 3 := by
  have hl := h.len.1
  refine (h.call (k' := k + 2) (Q := fun y D' bs' Ts' D2' bs2' Ts2' => y = .returned (.bool true) ∧ bs' = bs ∧ bs2' = bs2 ∧ D2' = D' ∧ Ts2' = Ts' ∧ D'.nx ≤ D.nx + 3) (fun A hb => (fds_any v hv hb hk hn hj hj2 (by omega) t9 X Y p hp yes hY).mono ?_)).mono ?_
  · rintro y w' ⟨rfl, D', Ts', A', h', st, hx⟩
    exact ⟨D', bs, Ts', D', bs2, Ts', A', ⟨rfl, rfl, rfl, rfl, rfl, hx⟩, h', st⟩
  · rintro y w' ⟨D', bs', Ts', D2', bs2', Ts2', ⟨rfl, rfl, rfl, rfl, rfl, hx⟩, h'⟩
    exact ⟨rfl, _, _, h', hx⟩
theorem BL.forkP (h : BL w0 C w m f r f2 r2 ek D bs Ts k D2 bs2 Ts2 v1 v2 cs ds) (hf : Ts.length < 8) (hj : j < bs.length) (hjT : j < Ts.length) :
    Calls Tryz.prog 29 #[wp f, wp bs[j]] w fun y w' => ∃ b, y = .returned (wp b) ∧ BL w0 C w' m f r f2 r2 ek (forkD D Ts[j]) (bs ++ [b]) (Ts ++ [Ts[j]]) k D2 bs2 Ts2 v1 v2 cs ds := by
  refine (h.call (k' := k) (Q := fun y D' bs' Ts' D2' bs2' Ts2' => ∃ b, y = .returned (wp b) ∧ D' = forkD D Ts[j] ∧ bs' = bs ++ [b] ∧ Ts' = Ts ++ [Ts[j]] ∧ D2' = D2 ∧ bs2' = bs2 ∧ Ts2' = Ts2) (fun A hb => (hb.callP (k' := k) (Q := fun y D' bs' Ts' => ∃ b, y = .returned (wp b) ∧ D' = forkD D Ts[j] ∧ bs' = bs ++ [b] ∧ Ts' = Ts ++ [Ts[j]]) (fun A1 h1 => (h1.fork hf hj).mono ?_)).mono ?_)).mono ?_
  · rintro y w' ⟨A', rfl, h', st⟩
    exact ⟨_, _, _, A', ⟨_, rfl, rfl, rfl, rfl⟩, h', st⟩
  · rintro y w' ⟨D', bs', Ts', A', ⟨b, rfl, rfl, rfl, rfl⟩, h', st⟩
    exact ⟨_, _, _, _, _, _, A', ⟨b, rfl, rfl, rfl, rfl, rfl, rfl, rfl⟩, h', st⟩
  · rintro y w' ⟨D', bs', Ts', D2', bs2', Ts2', ⟨b, rfl, rfl, rfl, rfl, rfl, rfl, rfl⟩, h'⟩
    exact ⟨b, rfl, h'⟩
theorem BL.forkR (h : BL w0 C w m f r f2 r2 ek D bs Ts k D2 bs2 Ts2 v1 v2 cs ds) (I : Inv D2 Ts2 k') (hj : j < bs2.length) (hjT : j < Ts2.length) :
    Calls Tryz.prog 30 #[wp f2, wp bs2[j]] w fun y w' => ∃ b, y = .returned (wp b) ∧ BL w0 C w' m f r f2 r2 ek D bs Ts k (forkD D2 Ts2[j]) (bs2 ++ [b]) (Ts2 ++ [Ts2[j]]) v1 v2 cs ds := by
  refine (h.call (k' := k) (Q := fun y D' bs' Ts' D2' bs2' Ts2' => ∃ b, y = .returned (wp b) ∧ D' = D ∧ bs' = bs ∧ Ts' = Ts ∧ D2' = forkD D2 Ts2[j] ∧ bs2' = bs2 ++ [b] ∧ Ts2' = Ts2 ++ [Ts2[j]]) (fun A hb => (hb.callR (Q := fun y D' bs' Ts' => ∃ b, y = .returned (wp b) ∧ D' = forkD D2 Ts2[j] ∧ bs' = bs2 ++ [b] ∧ Ts' = Ts2 ++ [Ts2[j]]) (fun A1 h1 => (h1.fork I hj).mono ?_)).mono ?_)).mono ?_
  · rintro y w' ⟨A', rfl, h', st⟩
    exact ⟨_, _, _, A', ⟨_, rfl, rfl, rfl, rfl⟩, h', st⟩
  · rintro y w' ⟨D', bs', Ts', A', ⟨b, rfl, rfl, rfl, rfl⟩, h', st⟩
    exact ⟨_, _, _, _, _, _, A', ⟨b, rfl, rfl, rfl, rfl, rfl, rfl, rfl⟩, h', st⟩
  · rintro y w' ⟨D', bs', Ts', D2', bs2', Ts2', ⟨b, rfl, rfl, rfl, rfl, rfl, rfl, rfl⟩, h'⟩
    exact ⟨b, rfl, h'⟩
theorem BL.unlinkP (h : BL w0 C w m f r f2 r2 ek D bs Ts k D2 bs2 Ts2 v1 v2 cs ds) (hk : k ≤ 900) (p : List UInt8) (hp : p.length < 100000) :
    Calls Tryz.prog 22 #[wp r, tx p] w fun y w' => y = .returned (uev (unlinkE D.T p)) ∧ BL w0 C w' m f r f2 r2 ek { D with T := unlinkN D.T p } bs Ts (k + 1) D2 bs2 Ts2 v1 v2 cs ds := by
  refine (h.call (k' := k + 1) (Q := fun y D' bs' Ts' D2' bs2' Ts2' => y = .returned (uev (unlinkE D.T p)) ∧ D' = { D with T := unlinkN D.T p } ∧ bs' = bs ∧ Ts' = Ts ∧ D2' = D2 ∧ bs2' = bs2 ∧ Ts2' = Ts2) (fun A hb => (hb.callP (k' := k + 1) (Q := fun y D' bs' Ts' => y = .returned (uev (unlinkE D.T p)) ∧ D' = { D with T := unlinkN D.T p } ∧ bs' = bs ∧ Ts' = Ts) (fun A1 h1 => (h1.unlink hk p hp).mono ?_)).mono ?_)).mono ?_
  · rintro y w' ⟨A', rfl, h', st⟩
    exact ⟨_, _, _, A', ⟨rfl, rfl, rfl, rfl⟩, h', st⟩
  · rintro y w' ⟨D', bs', Ts', A', ⟨rfl, rfl, rfl, rfl⟩, h', st⟩
    exact ⟨_, _, _, _, _, _, A', ⟨rfl, rfl, rfl, rfl, rfl, rfl, rfl⟩, h', st⟩
  · rintro y w' ⟨D', bs', Ts', D2', bs2', Ts2', ⟨rfl, rfl, rfl, rfl, rfl, rfl, rfl⟩, h'⟩
    exact ⟨rfl, h'⟩
theorem BL.unlinkR (h : BL w0 C w m f r f2 r2 ek D bs Ts k D2 bs2 Ts2 v1 v2 cs ds) (I : Inv D2 Ts2 k') (hk : k' ≤ 900) (p : List UInt8) (hp : p.length < 100000) :
    Calls Tryz.prog 37 #[wp r2, tx p] w fun y w' => y = .returned (.int .i64 (unlinkE D2.T p)) ∧ BL w0 C w' m f r f2 r2 ek D bs Ts k { D2 with T := unlinkN D2.T p } bs2 Ts2 v1 v2 cs ds := by
  refine (h.call (k' := k) (Q := fun y D' bs' Ts' D2' bs2' Ts2' => y = .returned (.int .i64 (unlinkE D2.T p)) ∧ D' = D ∧ bs' = bs ∧ Ts' = Ts ∧ D2' = { D2 with T := unlinkN D2.T p } ∧ bs2' = bs2 ∧ Ts2' = Ts2) (fun A hb => (hb.callR (Q := fun y D' bs' Ts' => y = .returned (.int .i64 (unlinkE D2.T p)) ∧ D' = { D2 with T := unlinkN D2.T p } ∧ bs' = bs2 ∧ Ts' = Ts2) (fun A1 h1 => (h1.unlink I hk hb.ml p hp).mono ?_)).mono ?_)).mono ?_
  · rintro y w' ⟨A', rfl, h', st⟩
    exact ⟨_, _, _, A', ⟨rfl, rfl, rfl, rfl⟩, h', st⟩
  · rintro y w' ⟨D', bs', Ts', A', ⟨rfl, rfl, rfl, rfl⟩, h', st⟩
    exact ⟨_, _, _, _, _, _, A', ⟨rfl, rfl, rfl, rfl, rfl, rfl, rfl⟩, h', st⟩
  · rintro y w' ⟨D', bs', Ts', D2', bs2', Ts2', ⟨rfl, rfl, rfl, rfl, rfl, rfl, rfl⟩, h'⟩
    exact ⟨rfl, h'⟩

/-- What is only read. -/
theorem BL.usedP (h : BL w0 C w m f r f2 r2 ek D bs Ts k D2 bs2 Ts2 v1 v2 cs ds) (hj : j < bs.length) (hjT : j < Ts.length) : Calls Tryz.prog 32 #[wp bs[j]] w fun y w' => y = .returned (.int .i64 (usedN Ts[j] : Int)) ∧ BL w0 C w' m f r f2 r2 ek D bs Ts k D2 bs2 Ts2 v1 v2 cs ds := by
  obtain ⟨A, hb, _⟩ := h.st
  obtain ⟨A1, A2, q1, q2, _⟩ := hb.both
  refine (q1.used hj).mono ?_
  rintro y w' ⟨rfl, b⟩
  exact ⟨rfl, h.below b⟩
theorem BL.usedR (h : BL w0 C w m f r f2 r2 ek D bs Ts k D2 bs2 Ts2 v1 v2 cs ds) (hj : j < bs2.length) (hjT : j < Ts2.length) : Calls Tryz.prog 33 #[wp bs2[j]] w fun y w' => y = .returned (.int .i64 (usedN Ts2[j] : Int)) ∧ BL w0 C w' m f r f2 r2 ek D bs Ts k D2 bs2 Ts2 v1 v2 cs ds := by
  obtain ⟨A, hb, _⟩ := h.st
  obtain ⟨A1, A2, q1, q2, _⟩ := hb.both
  refine (q2.used hj).mono ?_
  rintro y w' ⟨rfl, b⟩
  exact ⟨rfl, h.below b⟩
theorem BL.hasP (h : BL w0 C w m f r f2 r2 ek D bs Ts k D2 bs2 Ts2 v1 v2 cs ds) (hj : j < bs.length) (hjT : j < Ts.length) (x : Int) : Calls Tryz.prog 34 #[wp f, wp bs[j], .int .i64 x] w fun y w' => y = .returned (.bool (hasN Ts[j] x)) ∧ BL w0 C w' m f r f2 r2 ek D bs Ts k D2 bs2 Ts2 v1 v2 cs ds := by
  obtain ⟨A, hb, _⟩ := h.st
  obtain ⟨A1, A2, q1, q2, _⟩ := hb.both
  refine (q1.has hj x).mono ?_
  rintro y w' ⟨rfl, b⟩
  exact ⟨rfl, h.below b⟩
theorem BL.hasR (h : BL w0 C w m f r f2 r2 ek D bs Ts k D2 bs2 Ts2 v1 v2 cs ds) (hj : j < bs2.length) (hjT : j < Ts2.length) (x : Int) : Calls Tryz.prog 35 #[wp bs2[j], .int .i64 x] w fun y w' => y = .returned (.bool (hasN Ts2[j] x)) ∧ BL w0 C w' m f r f2 r2 ek D bs Ts k D2 bs2 Ts2 v1 v2 cs ds := by
  obtain ⟨A, hb, _⟩ := h.st
  obtain ⟨A1, A2, q1, q2, _⟩ := hb.both
  refine (q2.has hj x).mono ?_
  rintro y w' ⟨rfl, rfl⟩
  exact ⟨rfl, h⟩
/-- How many are open, how many nodes there are: both told. -/
theorem BL.links (h : BL w0 C w m f r f2 r2 ek D bs Ts k D2 bs2 Ts2 v1 v2 cs ds) : w.cell? ⟨f2, 0, none⟩ = some (wp r2) ∧ w.cell? ⟨f2, 1, none⟩ = some (.map (some ek.2)) ∧ w.cell? ⟨r2, 0, none⟩ = some (.map (some ek.1)) := by
  obtain ⟨A, hb, _⟩ := h.st
  obtain ⟨A1, A2, q1, q2, _⟩ := hb.both
  obtain ⟨n, s, a1, a2, a3, _⟩ := q2.lens
  exact ⟨a1, a2, a3⟩
theorem BL.tell (h : BL w0 C w m f r f2 r2 ek D bs Ts k D bs2 Ts2 v1 v2 cs ds) : ∃ n s : Nat, ∀ w', BL w0 C w' m f r f2 r2 ek D bs Ts k D bs2 Ts2 v1 v2 cs ds → (∀ ty, (Builtin.len_ #[84] ty #[.map (some ek.2)]).run Tryz.prog w' = .ok (.int .i64 n) w') ∧ (∀ ty, (Builtin.len_ #[33] ty #[.map (some ek.1)]).run Tryz.prog w' = .ok (.int .i64 s) w') ∧ Calls Tryz.prog 36 #[wp f] w' (fun y w2 => y = .returned (.int .i64 (n : Int)) ∧ w2 = w') ∧ Calls Tryz.prog 13 #[wp r] w' (fun y w2 => y = .returned (.int .i64 (s : Int)) ∧ w2 = w') := by
  obtain ⟨A, hb, _⟩ := h.st
  obtain ⟨A1, A2, q1, q2, _⟩ := hb.both
  obtain ⟨n, s, _, _, _, a4, a5, _, _⟩ := q2.lens
  refine ⟨n, s, fun w' h' => ?_⟩
  obtain ⟨A', hb', _⟩ := h'.st
  obtain ⟨A1', A2', q1', q2', _⟩ := hb'.both
  obtain ⟨n', s', _, _, _, a4', a5', a6, a7⟩ := q2'.lens
  obtain rfl := a4.one a4'
  obtain rfl := a5.one a5'
  exact ⟨a6, a7, q1'.openIs a4, q1'.nodes a5⟩
/-- What stands behind an item, told once for all worlds that follow. -/
def AfterS (_w0 : World) (C : List (Nat × Nat × Value)) (_m : Int) (f r f2 r2 : Nat) (ek : Nat × Nat) (b1 b2 : Nat) (X : Int) (St : World → Prop) (un n s : Nat) (hv : Bool) (V : World) : Prop :=
  (V.cell? ⟨f2, 0, none⟩ = some (wp r2) ∧ V.cell? ⟨f2, 1, none⟩ = some (.map (some ek.2)) ∧ V.cell? ⟨r2, 0, none⟩ = some (.map (some ek.1))) ∧ (∀ c ∈ C, V.cell? ⟨c.1, c.2.1, none⟩ = some c.2.2) ∧
  Calls Tryz.prog 32 #[wp b1] V (fun y w' => y = .returned (.int .i64 (un : Int)) ∧ St w') ∧
  Calls Tryz.prog 33 #[wp b2] V (fun y w' => y = .returned (.int .i64 (un : Int)) ∧ St w') ∧
  Calls Tryz.prog 34 #[wp f, wp b1, .int .i64 X] V (fun y w' => y = .returned (.bool hv) ∧ St w') ∧
  Calls Tryz.prog 35 #[wp b2, .int .i64 X] V (fun y w' => y = .returned (.bool hv) ∧ St w') ∧
  Calls Tryz.prog 36 #[wp f] V (fun y w' => y = .returned (.int .i64 (n : Int)) ∧ w' = V) ∧
  Calls Tryz.prog 13 #[wp r] V (fun y w' => y = .returned (.int .i64 (s : Int)) ∧ w' = V) ∧
  (∀ ty, (Builtin.len_ #[84] ty #[.map (some ek.2)]).run Tryz.prog V = .ok (.int .i64 n) V) ∧
  ∀ ty, (Builtin.len_ #[33] ty #[.map (some ek.1)]).run Tryz.prog V = .ok (.int .i64 s) V
theorem BL.after (h : BL w0 C w m f r f2 r2 ek D bs Ts k D bs2 Ts v1 v2 cs ds) (v : Int) (hv : v ≠ 9) (hk : k ≤ 800) (hn : D.nx < 800) (hj : j < bs.length) (hj2 : j < bs2.length) (t9 X Y : Int) (p : List UInt8) (hp : p.length ≤ 250) (yes : Bool) (hY : Y < 9223372036854775808) :
    Calls Tryz.prog 31 #[wp f, wp f2, wp bs[j], wp bs2[j], .agg #[.int .i64 v, .int .i64 t9, .int .i64 X, .int .i64 Y, tx p, .bool yes]] w fun e w' => e = .returned (.bool true) ∧ ∃ (St : World → Prop) (un n s : Nat) (hv : Bool), St w' ∧ (∀ V, St V → AfterS w0 C m f r f2 r2 ek bs[j] bs2[j] X St un n s hv V) ∧ ∃ D' Ts', D'.nx ≤ D.nx + 3 ∧ Ts'.length = Ts.length ∧ ∀ V, St V → BL w0 C V m f r f2 r2 ek D' bs Ts' (k + 2) D' bs2 Ts' v1 v2 cs ds := by
  refine (h.fds v hv hk hn hj hj2 t9 X Y p hp yes hY).mono ?_
  rintro e w' ⟨rfl, D', Ts', h', hx⟩
  obtain ⟨n, s, ht⟩ := h'.tell
  have l1 := h'.len.1
  have l2 := h.len.1
  refine ⟨rfl, fun V => BL w0 C V m f r f2 r2 ek D' bs Ts' (k + 2) D' bs2 Ts' v1 v2 cs ds, usedN (Ts'[j]'(by omega)), n, s, hasN (Ts'[j]'(by omega)) X, h', fun V hV => ?_, D', Ts', hx, by omega, fun V hV => hV⟩
  obtain ⟨t1, t2, t3, t4⟩ := ht V hV
  exact ⟨hV.links, hV.cell, hV.usedP hj (by omega), hV.usedR hj2 (by omega), hV.hasP hj (by omega) X, hV.hasR hj2 (by omega) X, t3, t4, t1, t2⟩
end
end Go.Proofs.YtjkneekfijibiabGreatDoor

namespace Go.Proofs.YtjkneekfijibiabGreatDoor
open Go.RowKit Go.Maps Go.Lib Go.Sort

section
variable {w0 w w' W : World} {C : List (Nat × Nat × Value)} {m : Int} {f r f2 r2 k j b : Nat} {D D2 : DS} {bs bs2 : List Nat} {Ts Ts2 : List Ns} {A : Nat → Prop} {ek : Nat × Nat}
theorem RD.table (h : RD w f r ek D bs Ts A) : RD (w.alloc (.cells (nv zeroN).toArray 75)) f r ek D (bs ++ [w.heap.size]) (Ts ++ [zeroN]) (fun i => A i ∨ i = w.heap.size) := by
  have bA : Below w.heap.size w (w.alloc (.cells (nv zeroN).toArray 75)) := (Below.refl _ w).alloc (Nat.le_refl _) _
  have hsz : (w.alloc (.cells (nv zeroN).toArray 75)).heap.size = w.heap.size + 1 := by show (w.heap.push _).size = _; rw [Array.size_push]
  have hn : (w.alloc (.cells (nv zeroN).toArray 75)).heap[w.heap.size]? = some (.cells (nv zeroN).toArray 75) := by
    show (w.heap.push _)[w.heap.size]? = _
    rw [Array.getElem?_push, if_pos rfl]
  obtain ⟨gN, s, G, gE, gR, gP, sE, sR, sP, q, ht, hA⟩ := h.st
  refine ⟨⟨gN, s, G, gE, gR, gP, sE, sR, sP, q.below bA, fun x hx hx' => ?_, fun i hi => .inl (hA i hi)⟩, by rw [List.length_append, List.length_append, h.len]; rfl, ?_, fun b hb => ?_, fun i hi => ?_, q.lk (q.below bA) h.lk⟩
  · by_cases e1 : x < bs.length
    · have e2 : x < Ts.length := by rw [← h.len]; exact e1
      rw [List.getElem_append_left e1, List.getElem_append_left e2]
      exact ⟨(ht x e1 e2).1.below bA, (ht x e1 e2).2⟩
    · have e3 : x = bs.length := by rw [List.length_append] at hx; simp at hx; omega
      have e4 := h.len
      subst e3
      rw [List.getElem_concat_length rfl]
      have : (Ts ++ [zeroN])[bs.length]'hx' = zeroN := by
        rw [List.getElem_append_right (by omega)]
        simp
      rw [this]
      exact ⟨⟨hn, rfl⟩, fun hf => by have := q.lt hf; omega⟩
  · rw [List.nodup_append]
    exact ⟨h.nd, by simp, fun a ha b hb e => by rw [List.mem_singleton.1 hb] at e; have := h.lt a (h.bsA a ha); omega⟩
  · rcases List.mem_append.1 hb with z | z
    · exact .inl (h.bsA b z)
    · exact .inr (List.mem_singleton.1 z)
  · rw [hsz]
    rcases hi with z | z
    · have := h.lt i z; omega
    · omega
/-- Nothing open on either side. -/
def BN (w0 w : World) (m : Int) (f r f2 r2 : Nat) (ek : Nat × Nat) : Prop := ∃ A1 A2, KD w m f r (noneD nullT) [] [] 0 A1 ∧ RD w f2 r2 ek (noneD nullT) [] [] A2 ∧ (∀ i, A1 i → ¬ A2 i) ∧ (∀ i, A1 i → w0.heap.size ≤ i) ∧ (∀ i, A2 i → w0.heap.size ≤ i) ∧ Below w0.heap.size w0 w
theorem BN.below (h : BN w0 w m f r f2 r2 ek) (hb : Below w.heap.size w w') : BN w0 w' m f r f2 r2 ek := by
  obtain ⟨A1, A2, h1, h2, h3, h4, h5, h6⟩ := h
  exact ⟨A1, A2, h1.below hb, h2.below hb, h3, h4, h5, h6.trans (hb.mono h6.size)⟩
theorem BN.er (h : BN w0 w m f r f2 r2 ek) : w.cell? ⟨0, 0, none⟩ = some errT := by
  obtain ⟨A1, A2, h1, _⟩ := h; exact h1.er
theorem BN.first (w : World) (hm : w.cell? ⟨2, 0, none⟩ = some (.int .i64 m)) (he : w.cell? ⟨0, 0, none⟩ = some errT) :
    Calls Tryz.prog 9 #[] w fun y w1 => ∃ r, y = .returned (wp r) ∧ Calls Tryz.prog 10 #[] w1 fun y w2 => ∃ r2, y = .returned (wp r2) ∧ Calls Tryz.prog 26 #[wp r2] w2 fun y w3 => ∃ f2, y = .returned (wp f2) ∧ Calls Tryz.prog 27 #[wp r] w3 fun y w4 => ∃ f, y = .returned (.tuple #[wp f, .nilIface]) ∧ ∃ ek, BN w w4 m f r f2 r2 ek := by
  refine (new_ok w).mono ?_
  rintro y w1 ⟨r, O, rfl, p1, b1, hO⟩
  refine ⟨r, rfl, (newTree_ok w1).mono ?_⟩
  rintro y w2 ⟨r2, rfl, gN, g, t2, b2, l1, l2, l3⟩
  refine ⟨r2, rfl, (NewFiles_ok t2).mono ?_⟩
  rintro y w3 ⟨f2, gE, gR, gP, rfl, q3, b3, _, n1, n2, n3, n4⟩
  have p3 := (p1.below b2).below b3
  refine ⟨f2, rfl, (QNew.ok p3).mono ?_⟩
  rintro y w4 ⟨f, g4, rfl, q4, hk, hr, b4⟩
  have bb2 := b1.trans (b2.mono b1.size)
  have bb3 := bb2.trans (b3.mono bb2.size)
  have bb := bb3.trans (b4.mono bb3.size)
  have hA : ∀ i, (g4.kap i).isSome = true → w.heap.size ≤ i := fun i hi => by
    by_cases e1 : i < w3.heap.size
    · exact hO i ((hk i e1).1 hi)
    · have := bb3.size; omega
  have hml := World.block_lt_of_cell? w _ hm
  have hel := World.block_lt_of_cell? w _ he
  simp only at hml hel
  have hfo : ∀ i, fown f2 r2 gN nullT (fun _ => g) gE gR gP i → w1.heap.size ≤ i := fun i hi => by
    have := b2.size
    rcases hi with z | z | z | z | z
    · omega
    · omega
    · omega
    · omega
    · rcases z with z | z | ⟨_, _, _, z⟩
      · omega
      · omega
      · have z : i = g := z
        omega
  have hs1 := b1.size
  have q34 := q3.below b4
  refine ⟨f, rfl, (gN, gE), fun i => (g4.kap i).isSome = true, fown f2 r2 gN nullT (fun _ => g) gE gR gP, ⟨⟨g4, 0, q4, hr, fun j h => (by simp at h), fun i hi => hi⟩, rfl, List.nodup_nil, fun b hb => (by cases hb), Inv.none nullT_lv sm_null, fun i hi => q4.lt i hi, cell_below hm bb, fun z => ?_, cell_below he bb, fun z => ?_⟩, ⟨⟨gN, 1, fun _ => g, gE, gR, gP, 0, 0, 0, q3.below b4, fun j h => (by simp at h), fun i hi => hi⟩, rfl, List.nodup_nil, fun b hb => (by cases hb), fun i hi => Nat.lt_of_lt_of_le (q3.lt hi) b4.size, q34.cells.2.1, q34.tree.c0⟩, fun i hi hf => ?_, hA, fun i hi => Nat.le_trans hs1 (hfo i hi), bb⟩
  · have := hA _ z; omega
  · have := hA _ z; omega
  · have h1 := hfo i hf
    have h2 := q3.lt hf
    have := p1.lt i ((hk i h2).1 hi)
    omega
/-- A table each, and the two lists of one. -/
theorem BN.lists (h : BN w0 w m f r f2 r2 ek) (hml : 2 < w0.heap.size) (hel : 0 < w0.heap.size) : BL w0 [] ((((w.alloc (.cells (nv zeroN).toArray 69)).alloc (.cells #[wp w.heap.size] 64)).alloc (.cells (nv zeroN).toArray 75)).alloc (.cells #[wp (w.heap.size + 2)] 71)) m f r f2 r2 ek (noneD nullT) [w.heap.size] [zeroN] 0 (noneD nullT) [w.heap.size + 2] [zeroN] (.slice (some ⟨w.heap.size + 1, 0, none⟩) 1 1) (.slice (some ⟨w.heap.size + 3, 0, none⟩) 1 1) [w.heap.size] [w.heap.size + 2] := by
  obtain ⟨A1, A2, h1, h2, h3, h4, h5, h6⟩ := h
  obtain ⟨wA, hwA⟩ : ∃ wA, w.alloc (.cells (nv zeroN).toArray 69) = wA := ⟨_, rfl⟩
  obtain ⟨wB, hwB⟩ : ∃ wB, wA.alloc (.cells #[wp w.heap.size] 64) = wB := ⟨_, rfl⟩
  obtain ⟨wC, hwC⟩ : ∃ wC, wB.alloc (.cells (nv zeroN).toArray 75) = wC := ⟨_, rfl⟩
  obtain ⟨wE, hwE⟩ : ∃ wE, wC.alloc (.cells #[wp (w.heap.size + 2)] 71) = wE := ⟨_, rfl⟩
  have sA : wA.heap.size = w.heap.size + 1 := by rw [← hwA]; show (w.heap.push _).size = _; rw [Array.size_push]
  have sB : wB.heap.size = w.heap.size + 2 := by rw [← hwB]; show (wA.heap.push _).size = _; rw [Array.size_push, sA]
  have sC : wC.heap.size = w.heap.size + 3 := by rw [← hwC]; show (wB.heap.push _).size = _; rw [Array.size_push, sB]
  have sE : wE.heap.size = w.heap.size + 4 := by rw [← hwE]; show (wC.heap.push _).size = _; rw [Array.size_push, sC]
  have bA : Below w.heap.size w wA := by rw [← hwA]; exact (Below.refl _ w).alloc (Nat.le_refl _) _
  have bB : Below wA.heap.size wA wB := by rw [← hwB]; exact (Below.refl _ wA).alloc (Nat.le_refl _) _
  have bC : Below wB.heap.size wB wC := by rw [← hwC]; exact (Below.refl _ wB).alloc (Nat.le_refl _) _
  have bE : Below wC.heap.size wC wE := by rw [← hwE]; exact (Below.refl _ wC).alloc (Nat.le_refl _) _
  have k1 := h1.table (by simp)
  rw [hwA] at k1
  have k4 := ((k1.below bB).below bC).below bE
  have r2' := ((h2.below bA).below bB).table
  rw [hwC, sB] at r2'
  have r4 := r2'.below bE
  have hB : wB.heap[w.heap.size + 1]? = some (.cells #[wp w.heap.size] 64) := by
    rw [← hwB]; show (wA.heap.push _)[w.heap.size + 1]? = _
    rw [Array.getElem?_push, if_pos sA.symm]
  have hBE : wE.heap[w.heap.size + 1]? = some (.cells #[wp w.heap.size] 64) := ((bE.block _ (by omega)).trans (bC.block _ (by omega))).trans hB
  have hE : wE.heap[w.heap.size + 3]? = some (.cells #[wp (w.heap.size + 2)] 71) := by
    rw [← hwE]; show (wC.heap.push _)[w.heap.size + 3]? = _
    rw [Array.getElem?_push, if_pos sC.symm]
  have b0 := h6.size
  have bb : Below w0.heap.size w0 wE := (((h6.trans (bA.mono b0)).trans (bB.mono (by omega))).trans (bC.mono (by omega))).trans (bE.mono (by omega))
  rw [hwA, hwB, hwC, hwE]
  refine ⟨⟨fun i => (A1 i ∨ i = w.heap.size) ∨ (A2 i ∨ i = w.heap.size + 2), ⟨⟨_, _, k4, r4, fun i hi hj => ?_, fun i hi => .inl hi, fun i hi => .inr hi⟩, fun i hi => ?_, fun hi => ?_, fun hi => ?_⟩, fun i hi => ?_, fun i hi ha => ?_, fun i hi ha => ?_, fun c hc => (by cases hc)⟩, bb, ⟨rfl, .inr ⟨w.heap.size + 1, 1, #[wp w.heap.size], rfl, by omega, hBE, Nat.le_refl _, by decide, rfl, rfl⟩⟩, ⟨rfl, .inr ⟨w.heap.size + 3, 1, #[wp (w.heap.size + 2)], rfl, by omega, hE, Nat.le_refl _, by decide, rfl, rfl⟩⟩, fun c hc => (by cases hc), fun c hc => (by cases hc), fun c hc => (by cases hc), hml, hel⟩
  · rcases hi with hi | hi
    · rcases hj with hj | hj
      · exact h3 i hi hj
      · have := h1.lt i hi; omega
    · rcases hj with hj | hj
      · have := h2.lt i hj; omega
      · omega
  · rw [sE]
    rcases hi with (z | z) | (z | z)
    · have := h1.lt i z; omega
    · omega
    · have := h2.lt i z; omega
    · omega
  · rcases hi with (z | z) | (z | z)
    · have := h4 _ z; omega
    · omega
    · have := h5 _ z; omega
    · omega
  · rcases hi with (z | z) | (z | z)
    · have := h4 _ z; omega
    · omega
    · have := h5 _ z; omega
    · omega
  · rcases hi with (z | z) | (z | z)
    · exact h4 i z
    · omega
    · exact h5 i z
    · omega
  · have hi : w.heap.size + 1 = i := Option.some.inj hi
    rcases ha with (z | z) | (z | z)
    · have := h1.lt i z; omega
    · omega
    · have := h2.lt i z; omega
    · omega
  · have hi : w.heap.size + 3 = i := Option.some.inj hi
    rcases ha with (z | z) | (z | z)
    · have := h1.lt i z; omega
    · omega
    · have := h2.lt i z; omega
    · omega
end
end Go.Proofs.YtjkneekfijibiabGreatDoor
