/- DescCloses: the walk of its Go text. -/
import Derived.Test.YtjkneekfijibiabGreatDoorDScene
import Derived.Test.YtjkneekfijibiabGreatDoorRShares
namespace Go.Proofs.YtjkneekfijibiabGreatDoor
open Go.RowKit Go.Maps Go.Lib Go.Sort

/-- One item. -/
structure CItem where
  what : Int
  tab : Int
  n : Int
  a : Int
  s : List UInt8
/-- The items lie in the argument's array. -/
def CScript (w : World) (ad : Option Addr) (len : Nat) (q : Nat → CItem) : Prop :=
  len = 0 ∨ ∃ blk off, ad = some ⟨blk, off, none⟩ ∧ blk < w.heap.size ∧ ∀ i, i < len →
    w.cell? ⟨blk, off + i * 5, none⟩ = some (.int .i64 (q i).what) ∧ w.cell? ⟨blk, off + i * 5 + 1, none⟩ = some (.int .i64 (q i).tab) ∧ w.cell? ⟨blk, off + i * 5 + 2, none⟩ = some (.int .i64 (q i).n) ∧ w.cell? ⟨blk, off + i * 5 + 3, none⟩ = some (.int .i64 (q i).a) ∧ w.cell? ⟨blk, off + i * 5 + 4, none⟩ = some (tx (q i).s)

set_option maxRecDepth 100000 in
set_option maxHeartbeats 1000000 in
theorem closes_long (ad : Option Addr) (len cap : Nat) (w : World) (h : 40 < len) :
    Calls Tryz.prog 7 #[.slice ad len cap] w fun e w' => e = .returned (.bool true) ∧ Below w.heap.size w w' := by
  have h1 : (40 : Int) < (len : Int) := by omega
  go_enter Tryz.func7, Tryz.ntmps7
  go_wp2_with fail
  go_ret
  exact ⟨rfl, Below.refl _ _⟩

theorem named (x : Nat) : ∃ y, x = y := ⟨x, rfl⟩
/-- Between two items. -/
def PC (w : World) (m : Int) (f r : Nat) (i : Nat) (v : Value) (wr : World) : Prop :=
  ∃ D bs Ts, CL w [] wr m f r D bs Ts (3 * i) v bs ∧ D.nx ≤ 3 * i ∧ FlD D ∧ 1 ≤ Ts.length ∧ Ts.length ≤ 5 ∧ ∀ n, IsN D.E n → n ≤ 40
theorem PC.of {w wr : World} {m : Int} {f r : Nat} {i k : Nat} {v : Value} {C : List (Nat × Nat × Value)} {D : DS} {bs : List Nat} {Ts : List Ns} (h : CL w C wr m f r D bs Ts k v bs) (hk : k ≤ 3 * i) (hn : D.nx ≤ 3 * i) (fl : FlD D) (h1 : 1 ≤ Ts.length) (h8 : Ts.length ≤ 5) (hf : ∀ n, IsN D.E n → n ≤ 40) : PC w m f r i v wr :=
  ⟨D, bs, Ts, (h.more hk).sub (fun c hc => (by cases hc)), hn, fl, h1, h8, hf⟩
theorem flat_null : FlD (noneD nullT) := by
  refine ⟨fun k C e => ?_, fun C e => ?_, fun n b x e => ?_, fun d n e => (by cases e)⟩
  · exact (nullT_node e).1
  · obtain ⟨_, e9⟩ := nullT_node (show nullT 0 = some (.dir C) from e)
    cases e9
    intro x hx; cases hx
  · obtain ⟨_, e9⟩ := nullT_node (show nullT n = some (.file b x) from e); cases e9
theorem PC.first {w wr : World} {m : Int} {f r : Nat} (h : KW w wr m f r (noneD nullT) [] [] 0) (hml : 2 < w.heap.size) (hel : 0 < w.heap.size) : PC w m f r 0 (.slice (some ⟨wr.heap.size + 1, 0, none⟩) 1 1) ((wr.alloc (.cells (nv zeroN).toArray 69)).alloc (.cells #[wp wr.heap.size] 64)) :=
  PC.of (h.lists hml hel) (by omega) (show (0 : Int) ≤ _ by omega) flat_null (by simp) (by simp) (fun n hn => by
    have := hn.one (IsN.nil (F := (noneD nullT).E) (fun _ => rfl)); omega)
theorem filesC_ne (b : Nat) (w : World) : (binOp BinOp.eql 60 (wp b) (.pointer none)).run Tryz.prog w = .ok (.bool false) w := by kernel_rfl
theorem tableC_ne (b : Nat) (w : World) : (binOp BinOp.eql 64 (wp b) (.pointer none)).run Tryz.prog w = .ok (.bool false) w := by kernel_rfl

section
variable {w0 w w' : World} {C : List (Nat × Nat × Value)} {m : Int} {f r k j b : Nat} {D : DS} {bs cs : List Nat} {Ts : List Ns} {v : Value}
theorem CL.bounds (h : CL w0 C w m f r D bs Ts k v cs) {n : Nat} (hn : IsN D.E n) (hf : n ≤ 40) (hj : j < Ts.length) : ¬ (sumU Ts : Int) < (n : Int) ∧ ¬ (40 : Int) < (n : Int) ∧ ¬ (8 : Int) < (usedN Ts[j] : Int) := by
  have h1 := h.inv.open_le hn
  have h2 := used_le Ts[j]
  have h3 := h.inv.len hj
  exact ⟨by omega, by omega, by omega⟩
/-- Cells of the argument's. -/
theorem CL.arg (h : CL w0 C w m f r D bs Ts k v cs) {blk : Nat} (hb : blk < w0.heap.size) (N : List (Nat × Value)) (hN : ∀ c ∈ N, w0.cell? ⟨blk, c.1, none⟩ = some c.2) : CL w0 (N.map (fun c => (blk, c.1, c.2)) ++ C) w m f r D bs Ts k v cs := by
  refine h.with _ (fun c hc => ?_) (fun A _ h1 _ c hc ha => ?_) (fun c hc hv => ?_)
  · obtain ⟨x, hx, rfl⟩ := List.mem_map.1 hc
    show w.cell? ⟨blk, x.1, none⟩ = some x.2
    rw [h.bel.cell (p := ⟨blk, x.1, none⟩) hb]; exact hN x hx
  · obtain ⟨x, _, rfl⟩ := List.mem_map.1 hc
    have := h1 _ ha; simp only at this; omega
  · obtain ⟨x, _, rfl⟩ := List.mem_map.1 hc
    have := (orow_block h.r1 hv).1; simp only at this; omega
theorem CL.usedAs (h : CL w0 C w m f r D bs Ts k v cs) {N : Ns} (hb : bs[j]? = some b) (hN : Ts[j]? = some N) : Calls Tryz.prog 32 #[wp b] w fun y w' => y = .returned (.int .i64 (usedN N : Int)) ∧ CL w0 C w' m f r D bs Ts k v cs := by
  obtain ⟨h1, rfl⟩ := List.getElem?_eq_some_iff.1 hb
  obtain ⟨h2, rfl⟩ := List.getElem?_eq_some_iff.1 hN
  exact h.used h1 h2
theorem CL.sum (h : CL w0 C w m f r D bs Ts k v cs) (hj : j < Ts.length) (h5 : Ts.length ≤ 5) : wrap64 ((sumU (Ts.take j) : Int) + (usedN Ts[j] : Int)) = ((sumU (Ts.take (j + 1)) : Nat) : Int) := by
  have h1 := sumU_le (Ts.take (j + 1)) (fun N hN => (h.inv.tab N (List.mem_of_mem_take hN)).1)
  have h2 := sumU_take Ts hj
  rw [List.length_take] at h1
  unfold wrap64
  omega
end

/-- append, by its own equation. -/
theorem wpList_append_run {P : Program} {ops : Array Oper} {rest : List Oper} {o : Oper} {a : Act} {w : World} {Q : Exit → Act → World → Prop} (hgd : o.guard = none) (s x : Operand) (t : TypeId)
    (ho : o.op = .call { callee := .builtin .append, args := #[s, x], argTypes := #[t, t] }) (v y v' : Value) (w' : World) (hs : a.eval s = v) (hx : a.eval x = y)
    (hr : ∀ ty, (Builtin.append_ #[t, t] ty #[v, y]).run P w = .ok v' w') (h : wpList P ops Q rest (a.put o.dst v') w') : wpList P ops Q (o :: rest) a w := by
  refine wpList_plain hgd fun K hK => ?_
  unfold Oper.wp execOp
  simp only [ho, resolve, invoke, builtin, Sem.run_bind, Sem.run_pure, Result.andThen_ok, List.map_toArray, List.map_cons, List.map_nil, hs, hx, hr]
  exact hK _ _ h

set_option maxRecDepth 100000 in
set_option maxHeartbeats 16000000 in
theorem closes_short (ad : Option Addr) (len cap : Nat) (q : Nat → CItem) (w : World) (h1 : len ≤ 40) (hsc : CScript w ad len q) (m : Int) (hm : w.cell? ⟨2, 0, none⟩ = some (.int .i64 m)) (hg : w.cell? ⟨0, 0, none⟩ = some errT) :
    Calls Tryz.prog 7 #[.slice ad len cap] w fun e w' => e = .returned (.bool true) ∧ Below w.heap.size w w' := by
  have h1' : ¬ (40 : Int) < (len : Int) := by omega
  have hml : 2 < w.heap.size := World.block_lt_of_cell? w _ hm
  have hel : 0 < w.heap.size := World.block_lt_of_cell? w _ hg
  have hO := opened_ok w hm hg
  have hK := fun (V : World) (b : Below w.heap.size w V) => KW.first V (m := m) (by rw [b.cell (p := ⟨2, 0, none⟩) hml]; exact hm) (by rw [b.cell (p := ⟨0, 0, none⟩) hel]; exact hg)
  have hne := filesC_ne
  clear hm hg
  go_enter Tryz.func7, Tryz.ntmps7
  go_upto_region 5 with (go_at_call 38; refine hO.mono ?_; rintro e w1 ⟨rfl, b1⟩)
  have hN := hK w1 b1
  clear hK hO
  go_upto_region 7 with (first
    | (go_at_call 9; refine hN.mono ?_; rintro e w2 ⟨r, rfl, b2, hD⟩)
    | (go_at_call 27; refine hD.mono ?_; rintro e w3 ⟨f, rfl, k3⟩))
  have k4 := k3.base b1
  clear hN hD k3 b2
  go_upto_region 9 with fail
  have HL : Aside (PC w m f r 0 (.slice (some ⟨w3.heap.size + 1, 0, none⟩) 1 1) ((w3.alloc (.cells (nv zeroN).toArray 69)).alloc (.cells #[wp w3.heap.size] 64))) := PC.first k4 hml hel
  clear k4 b1 hne hml hel
  go_wp2_with fail
  go_loopg [6, 7] len (fun k s6 s7 wr => ∃ (i : Nat), i + k = len ∧ s7 = .int .i64 (i : Int) ∧ PC w m f r i s6 wr)
  case atStart => exact ⟨0, by omega, rfl, HL.out⟩
  case round =>
    clear HL
    obtain ⟨i, hi, rfl, D, bs, Ts, S, hx, fl, hl1, hl5, hfew⟩ := hrel
    have hlb := S.len
    obtain ⟨N0, hN0⟩ : ∃ N0, bs.length = N0 := ⟨_, rfl⟩
    obtain ⟨g1, cap1, rfl, hc1, hg1, _⟩ := orow_read S.r1 (by omega)
    rw [hN0] at S ⊢
    clear hg1
    by_cases hlt : (i : Int) < (len : Int)
    · rcases hsc with h0 | ⟨blk, off, rfl, hbl, hss⟩
      · exfalso; omega
      obtain ⟨c0, c1, c2, c3, c4⟩ := hss i (by omega)
      generalize (q i).what = W at *
      generalize (q i).tab = K at *
      generalize (q i).n = X at *
      generalize (q i).a = Y at *
      generalize (q i).s = U at *
      have S1 := S.arg hbl [(off + i * 5, .int .i64 W), (off + i * 5 + 1, .int .i64 K), (off + i * 5 + 2, .int .i64 X), (off + i * 5 + 3, .int .i64 Y), (off + i * 5 + 4, tx U)] (fun c hc => by
        simp only [List.mem_cons, List.not_mem_nil, or_false] at hc
        rcases hc with rfl | rfl | rfl | rfl | rfl <;> assumption)
      clear c0 c1 c2 c3 c4 hss hbl
      have d0 := S1.cell (blk, off + i * 5, .int .i64 W) (by simp)
      have d1 := S1.cell (blk, off + i * 5 + 1, .int .i64 K) (by simp)
      have d4 := S1.cell (blk, off + i * 5 + 4, tx U) (by simp)
      simp only at d0 d1 d4
      by_cases hlong : (100 : Int) < (U.length : Int)
      · as_aux_lemma =>
          have hbel := S.bel
          clear S S1
          go_wp2_with fail
          go_ret
          exact ⟨rfl, hbel⟩
      have hP := ppick_any wr K N0 (by omega) (by omega)
      go_upto_region 16 with (go_at_call 17; refine hP.mono ?_; rintro e w5 ⟨j, rfl, hjN, hw5⟩; subst w5)
      clear hP S
      have hjb : j < bs.length := by omega
      have hjT : j < Ts.length := by omega
      have S0 := S1.in1 (g := g1) rfl hjb
      clear S1
      obtain ⟨b1, hb1⟩ : ∃ b1, bs[j] = b1 := ⟨_, rfl⟩
      rw [hb1] at S0
      obtain ⟨C0, hC0⟩ : ∃ C0 : List (Nat × Nat × Value), (g1, j, wp b1) :: (List.map (fun c => (blk, c.1, c.2)) [(off + i * 5, Value.int .i64 W), (off + i * 5 + 1, .int .i64 K), (off + i * 5 + 2, .int .i64 X), (off + i * 5 + 3, .int .i64 Y), (off + i * 5 + 4, tx U)] ++ []) = C0 := ⟨_, rfl⟩
      rw [hC0] at S0
      have m0 : (blk, off + i * 5, .int .i64 W) ∈ C0 := by rw [← hC0]; simp
      have m1 : (blk, off + i * 5 + 1, .int .i64 K) ∈ C0 := by rw [← hC0]; simp
      have m2 : (blk, off + i * 5 + 2, .int .i64 X) ∈ C0 := by rw [← hC0]; simp
      have m3 : (blk, off + i * 5 + 3, .int .i64 Y) ∈ C0 := by rw [← hC0]; simp
      have m4 : (blk, off + i * 5 + 4, tx U) ∈ C0 := by rw [← hC0]; simp
      have m5 : (g1, j, wp b1) ∈ C0 := by rw [← hC0]; simp
      clear hC0 d1 d4
      have z5 := S0.cell _ m5
      simp only at z5
      by_cases hW : W = 9
      · subst hW
        by_cases h5 : (N0 : Int) < 5
        · as_aux_lemma =>
          obtain ⟨n, hn⟩ := S0.num
          have hO := S0.open hn
          have hF := S0.fork (by omega) hjb hjT
          rw [hb1] at hF
          have htn := tableC_ne
          go_upto_region 20 with (first
            | (go_at_call 36; refine hO.mono ?_; rintro e w6 ⟨rfl, hw6⟩; subst w6)
            | (go_at_call 29; refine hF.mono ?_; rintro e w7 ⟨b, rfl, SS⟩))
          have hT3 := fork_TE Ts[j] D
          have hnn : IsN (forkD D Ts[j]).E n := by rw [hT3.2.1]; exact hn
          obtain ⟨u, hu⟩ := named (usedN Ts[j])
          have hU : ∀ (V : World) (z : Value), (z = wp b ∨ z = wp b1) → CL w C0 V m f r (forkD D Ts[j]) (bs ++ [b]) (Ts ++ [Ts[j]]) (3 * i) (.slice (some ⟨g1, 0, none⟩) N0 cap1) bs → Calls Tryz.prog 32 #[z] V fun y w' => y = .returned (.int .i64 (u : Int)) ∧ CL w C0 w' m f r (forkD D Ts[j]) (bs ++ [b]) (Ts ++ [Ts[j]]) (3 * i) (.slice (some ⟨g1, 0, none⟩) N0 cap1) bs := by
            rintro V z (rfl | rfl) h
            · rw [← hu]
              exact h.usedAs (j := bs.length) (by simp) (by rw [hlb]; simp)
            · rw [← hu]
              exact h.usedAs (j := j) (by rw [List.getElem?_append_left hjb, List.getElem?_eq_getElem hjb, hb1]) (by rw [List.getElem?_append_left hjT, List.getElem?_eq_getElem hjT])
          have hOp : ∀ (V : World), CL w C0 V m f r (forkD D Ts[j]) (bs ++ [b]) (Ts ++ [Ts[j]]) (3 * i) (.slice (some ⟨g1, 0, none⟩) N0 cap1) bs → Calls Tryz.prog 36 #[wp f] V fun y w' => y = .returned (.int .i64 (n : Int)) ∧ w' = V := fun V h => h.open hnn
          have y5 := SS.cell _ m5
          simp only at y5
          have hlq : bs.length ≤ 100 := by omega
          clear hO hF z5 d0 S0 hn hnn hu
          go_region_held3 (fun w' => w'.cell? ⟨g1, j, none⟩ = some (wp b1)) (first | exact y5 | exact SS.cell (g1, j, wp b1) m5 | exact (SS.to0 ⟨by rfl, by rfl, by rfl, by rfl⟩).cell (g1, j, wp b1) m5) (first
            | (go_at_call 32; refine (hU _ _ (by first | exact .inl rfl | exact .inr rfl) (SS.to0 ⟨by rfl, by rfl, by rfl, by rfl⟩)).mono ?_; rintro e wU ⟨rfl, SS⟩)
            | (go_at_call 36; refine (hOp _ (SS.to0 ⟨by rfl, by rfl, by rfl, by rfl⟩)).mono ?_; rintro e wO ⟨rfl, hwO⟩; subst hwO))
          all_goals
            obtain ⟨v8, w8, hrun, SZ⟩ := (SS.to1 (wp b) 64 (W := wO.alloc (.cells #[wp b] 64)) ⟨rfl, rfl, rfl, rfl⟩).append (q := wO.heap.size) (c := 1) (b := b) (by simp) hlq
            clear SS hU hOp y5
            go_wp2_with (at_builtin; refine wpList_append_run rfl _ _ 70 rfl _ _ v8 w8 rfl rfl hrun ?_)
            go_roundg (gk - 1)
            case measure => omega
            case rel => exact ⟨i + 1, by omega, by go_num, PC.of SZ (by omega) (by rw [hT3.2.2]; omega) (fl.fork _) (by simp) (by simp; omega) (fun n hn => by rw [hT3.2.1] at hn; exact hfew n hn)⟩
        · as_aux_lemma =>
          go_wp2_with fail
          go_roundg (gk - 1)
          case measure => omega
          case rel => exact ⟨i + 1, by omega, by go_num, PC.of S0 (by omega) (by omega) fl hl1 hl5 hfew⟩
      · as_aux_lemma =>
        have hW9 : (W == 9) = false := by simp [hW]
        obtain ⟨n, hn⟩ := S0.num
        obtain ⟨u, hu⟩ := named (usedN Ts[j])
        have hU := S0.usedAs (j := j) (b := b1) (N := Ts[j]) (by rw [List.getElem?_eq_getElem hjb, hb1]) (List.getElem?_eq_getElem hjT)
        rw [hu] at hU
        have hOp : ∀ (V : World), CL w C0 V m f r D bs Ts (3 * i) (.slice (some ⟨g1, 0, none⟩) N0 cap1) bs → Calls Tryz.prog 36 #[wp f] V fun y w' => y = .returned (.int .i64 (n : Int)) ∧ w' = V := fun V h => h.open hn
        go_upto_region 24 with (first
          | (go_at_call 32; refine hU.mono ?_; rintro e w6 ⟨rfl, SU⟩; have hO := hOp _ SU)
          | (go_at_call 36; refine hO.mono ?_; rintro e w7 ⟨rfl, hw7⟩; subst w7))
        clear hU hOp hO S0 z5 d0
        have y0 := SU.cell _ m0
        have y1 := SU.cell _ m1
        have y2 := SU.cell _ m2
        have y3 := SU.cell _ m3
        have y4 := SU.cell _ m4
        have y5 := SU.cell _ m5
        simp only at y0 y1 y2 y3 y4 y5
        have hFd := fun (V : World) (h : CL w C0 V m f r D bs Ts (3 * i) (.slice (some ⟨g1, 0, none⟩) N0 cap1) bs) => h.fd fl (by omega) (by omega) hjb hjT W K X Y U (by omega)
        simp only [hb1] at hFd
        go_region_held3 (fun w' => w'.cell? ⟨blk, off + i * 5, none⟩ = some (.int .i64 W) ∧ w'.cell? ⟨blk, off + i * 5 + 1, none⟩ = some (.int .i64 K) ∧ w'.cell? ⟨blk, off + i * 5 + 2, none⟩ = some (.int .i64 X) ∧ w'.cell? ⟨blk, off + i * 5 + 3, none⟩ = some (.int .i64 Y) ∧ w'.cell? ⟨blk, off + i * 5 + 4, none⟩ = some (tx U) ∧ w'.cell? ⟨g1, j, none⟩ = some (wp b1)) (first | exact ⟨y0, y1, y2, y3, y4, y5⟩ | exact ⟨SS.cell _ m0, SS.cell _ m1, SS.cell _ m2, SS.cell _ m3, SS.cell _ m4, SS.cell _ m5⟩) (first | (go_at_call 39; refine (hFd _ (SU.to0 ⟨by rfl, by rfl, by rfl, by rfl⟩)).mono ?_; rintro e w8 ⟨c, D', N', rfl, aft, SS⟩))
        clear y0 y1 y2 y3 y4 y5 hFd SU
        obtain ⟨Ts', hTs⟩ : ∃ Ts', Ts.set j N' = Ts' := ⟨_, rfl⟩
        have hTl : Ts'.length = N0 := by rw [← hTs, List.length_set]; omega
        have hTj : Ts'[j]? = some N' := by rw [← hTs, List.getElem?_set_self hjT]
        rw [hTs] at SS
        clear hTs
        obtain ⟨n2, hn2⟩ := SS.num
        obtain ⟨u2, hu2⟩ := named (usedN N')
        have hU2 : ∀ (V : World), CL w C0 V m f r D' bs Ts' (3 * i + 2) (.slice (some ⟨g1, 0, none⟩) N0 cap1) bs → Calls Tryz.prog 32 #[wp b1] V fun y w' => y = .returned (.int .i64 (u2 : Int)) ∧ CL w C0 w' m f r D' bs Ts' (3 * i + 2) (.slice (some ⟨g1, 0, none⟩) N0 cap1) bs := fun V h => by
          rw [← hu2]
          exact h.usedAs (j := j) (by rw [List.getElem?_eq_getElem hjb, hb1]) hTj
        have hO2 : ∀ (V : World), CL w C0 V m f r D' bs Ts' (3 * i + 2) (.slice (some ⟨g1, 0, none⟩) N0 cap1) bs → Calls Tryz.prog 36 #[wp f] V fun y w' => y = .returned (.int .i64 (n2 : Int)) ∧ w' = V := fun V h => h.open hn2
        have hc5 : ∀ (V : World), CL w C0 V m f r D' bs Ts' (3 * i + 2) (.slice (some ⟨g1, 0, none⟩) N0 cap1) bs → V.cell? ⟨g1, j, none⟩ = some (wp b1) := fun V h => h.cell _ m5
        have hf2 : ∀ z, IsN D'.E z → z ≤ 40 := fun z hz => aft.few n z hn (hfew n hn) hz
        have hbd := SS.bounds hn2 (hf2 n2 hn2) (j := j) (by omega)
        rw [show usedN Ts'[j] = u2 by rw [← hu2, (List.getElem?_eq_some_iff.1 hTj).2]] at hbd
        have hno := aft.no
        have hPC : ∀ (V : World), CL w C0 V m f r D' bs Ts' (3 * i + 2) (.slice (some ⟨g1, 0, none⟩) N0 cap1) bs → PC w m f r (i + 1) (.slice (some ⟨g1, 0, none⟩) N0 cap1) V := fun V h => PC.of h (by omega) (by have := aft.nx; omega) aft.fl (by omega) (by omega) hf2
        have hcc := hc5 _ SS
        have hu1 := hU2 _ SS
        rcases Decidable.em (c = 0) with hc | hc
        case' inl =>
          subst hc
          rw [uev_zero]
          go_upto_region 27 with fail
        case' inr =>
          have he2 : u2 = u := by rw [← hu2, ← hu]; exact (hno hc).1
          have hen : n2 = n := (hn2.congr (G := D.E) (fun x => ((hno hc).2 x).symm)).one hn
          subst he2 hen
          rw [uev_ne hc]
          go_upto_region 27 with (first
            | (go_at_call 32; refine hu1.mono ?_; rintro e w9 ⟨rfl, SS⟩; have hu3 := hO2 _ SS)
            | (go_at_call 36; refine hu3.mono ?_; rintro e w10 ⟨rfl, hw10⟩; subst w10))
        all_goals
          clear hcc hu1 hno
          obtain ⟨G, hG⟩ : ∃ G, gk = G := ⟨_, rfl⟩
          go_wp2_with fail
          go_loopg [14, 15] N0 (fun k s14 s15 wv => ∃ (p : Nat), p + k = N0 ∧ s14 = .int .i64 (sumU (Ts'.take p) : Int) ∧ s15 = .int .i64 (p : Int) ∧ CL w C0 wv m f r D' bs Ts' (3 * i + 2) (.slice (some ⟨g1, 0, none⟩) N0 cap1) bs)
          case atStart => exact ⟨0, by omega, rfl, rfl, SS⟩
          case round =>
            clear SS
            obtain ⟨p, hp, rfl, rfl, SP⟩ := hrel
            by_cases hpl : (p : Int) < (N0 : Int)
            · have hpb : p < bs.length := by omega
              have hpT : p < Ts'.length := by omega
              have hUp := SP.used hpb hpT
              have hat := SP.at (g := g1) rfl hpb
              have hsm := SP.sum hpT (by omega)
              generalize bs[p] = b9 at *
              generalize usedN Ts'[p] = u9 at *
              generalize sumU (List.take p Ts') = s9 at *
              clear SP hbd
              go_wp2_with (go_at_call 32; refine hUp.mono ?_; rintro e wq ⟨rfl, SQ⟩)
              go_roundg (gk - 1)
              case measure => omega
              case rel => exact ⟨p + 1, by omega, by first | rfl | (rw [← hsm]; rfl) | rw [hsm], by go_num, SQ⟩
            · rw [List.take_of_length_le (show Ts'.length ≤ p by omega)]
              obtain ⟨q1, q2, q3⟩ := hbd
              have hcc := hc5 _ SP
              have ho1 := hO2 _ SP
              have hu1 := hU2 _ SP
              generalize sumU Ts' = s9 at *
              go_wp2_with (first
                | (go_at_call 36; refine ho1.mono ?_; rintro e w11 ⟨rfl, hw11⟩; subst w11)
                | (go_at_call 32; refine hu1.mono ?_; rintro e w12 ⟨rfl, SQ⟩))
              go_roundg (G - 1)
              case measure => omega
              case rel => exact ⟨i + 1, by omega, by go_num, hPC _ SQ⟩
    · as_aux_lemma =>
      clear hsc
      have hLs := S.list fl (by omega)
      go_upto_region 37 with (go_at_call 40; refine hLs.mono ?_; rintro e w5 ⟨ad9, cap9, L, rfl, hnd, hL9, hlf, hsh, SL⟩)
      clear hLs S
      go_wp2_with fail
      go_loopg [17] L.length (fun k s17 wr => ∃ (p : Nat), p + k = L.length ∧ s17 = .int .i64 (p : Int) ∧ ∃ D', CL w ((List.range L.length).map (fun i => ((ad9.getD ⟨0, 0, none⟩).block, i, tx (L.getD i []))) ++ []) wr m f r D' bs Ts (3 * i + p) (.slice (some ⟨g1, 0, none⟩) N0 cap1) bs ∧ Lft D' L p)
      case atStart => exact ⟨0, by omega, rfl, D, SL, hlf⟩
      case round =>
        clear SL hlf
        obtain ⟨p, hp, rfl, D2, SP, hlf⟩ := hrel
        by_cases hpl : (p : Int) < (L.length : Int)
        · have hpL : p < L.length := by omega
          rcases hsh with h0 | ⟨g9, rfl, hc9⟩
          · rw [h0] at hpL; simp at hpL
          obtain ⟨hE, hnext, hl12⟩ := hlf.step SP.inv.core.lv hnd hpL
          have hcl := SP.cell (g9, p, tx L[p]) (by
            refine List.mem_append_left _ (List.mem_map.2 ⟨p, List.mem_range.2 hpL, ?_⟩)
            rw [List.getD_eq_getElem?_getD, List.getElem?_eq_getElem hpL]; rfl)
          simp only at hcl
          have hUn := SP.unlink (by omega) (47 :: L[p]) (by simp; omega)
          rw [hE, uev_zero] at hUn
          have hcat : ((⟨#[47]⟩ : ByteArray) ++ ⟨L[p].toArray⟩) = ⟨(47 :: L[p]).toArray⟩ := wtext_cat [47] L[p]
          generalize L[p] = B at *
          have hbig : ¬ 9223372036854775807 < 1 + B.length := by omega
          clear hlf
          go_wp2_with (go_at_call 22; refine hUn.mono ?_; rintro e w7 ⟨rfl, SQ⟩)
          go_roundg (gk - 1)
          case measure => omega
          case rel => exact ⟨p + 1, by omega, by go_num, _, SQ, hnext⟩
        · obtain ⟨fl2, hr2⟩ := hlf.none (by omega)
          have SC := SP.sub (C' := []) (fun c hc => by cases hc)
          clear hlf SP
          go_wp2_with fail
          go_loopg [18] N0 (fun k s18 wr => ∃ (t : Nat), t + k = N0 ∧ s18 = .int .i64 (t : Int) ∧ ∃ D' Ts', CL w [] wr m f r D' bs Ts' (3 * i + p) (.slice (some ⟨g1, 0, none⟩) N0 cap1) bs ∧ FlD D' ∧ D'.T 0 = some (.dir []) ∧ ∀ y (hy : y < Ts'.length), y < t → usedN Ts'[y] = 0)
          case atStart => exact ⟨0, by omega, rfl, D2, Ts, SC, fl2, hr2, fun y _ h => by omega⟩
          case round =>
            clear SC
            obtain ⟨t, ht, rfl, D3, Ts3, SC, fl3, hr3, hz3⟩ := hrel
            have hlb3 := SC.len
            by_cases htl : (t : Int) < (N0 : Int)
            · have htb : t < bs.length := by omega
              have htT : t < Ts3.length := by omega
              have hCl := SC.clear (by omega) htb htT
              obtain ⟨f4, r4⟩ := free_flat fl3 SC.inv (by omega) htT true hr3 8 (by omega)
              have h8 := SC.inv.len htT
              have hat := SC.at (g := g1) rfl htb
              have z4 := free_none D3 h8
              have hUs : ∀ (V : World), CL w [] V m f r (freeS true D3 Ts3[t] 8).1 bs (Ts3.set t (freeS true D3 Ts3[t] 8).2) (3 * i + p) (.slice (some ⟨g1, 0, none⟩) N0 cap1) bs → Calls Tryz.prog 32 #[wp bs[t]] V fun y w' => y = .returned (.int .i64 0) ∧ CL w [] w' m f r (freeS true D3 Ts3[t] 8).1 bs (Ts3.set t (freeS true D3 Ts3[t] 8).2) (3 * i + p) (.slice (some ⟨g1, 0, none⟩) N0 cap1) bs := fun V h => by
                have := h.usedAs (j := t) (b := bs[t]) (N := (freeS true D3 Ts3[t] 8).2) (List.getElem?_eq_getElem htb) (by rw [List.getElem?_set_self htT])
                rw [z4] at this
                exact this
              have hzn : ∀ y (hy : y < (Ts3.set t (freeS true D3 Ts3[t] 8).2).length), y < t + 1 → usedN (Ts3.set t (freeS true D3 Ts3[t] 8).2)[y] = 0 := fun y hy h => by
                rw [List.getElem_set]
                split
                · exact z4
                · rw [List.length_set] at hy
                  exact hz3 y hy (by omega)
              generalize (freeS true D3 Ts3[t] 8).1 = D4 at *
              generalize Ts3.set t (freeS true D3 Ts3[t] 8).2 = Ts4 at *
              have hat2 : ∀ (V : World), CL w [] V m f r D4 bs Ts4 (3 * i + p) (.slice (some ⟨g1, 0, none⟩) N0 cap1) bs → V.cell? ⟨g1, t, none⟩ = some (wp bs[t]) := fun V h => h.at (g := g1) rfl htb
              generalize bs[t] = b9 at *
              clear SC z4 h8 hz3
              go_wp2_with (first
                | (go_at_call 41; refine hCl.mono ?_; rintro e w7 ⟨rfl, SQ⟩; have hat3 := hat2 _ SQ; have hU3 := hUs _ SQ)
                | (go_at_call 32; refine hU3.mono ?_; rintro e w8 ⟨rfl, SR⟩))
              go_roundg (gk - 1)
              case measure => omega
              case rel => exact ⟨t + 1, by omega, by go_num, D4, Ts4, SR, f4, r4, hzn⟩
            · obtain ⟨hE0, hT1⟩ := all_gone SC.inv fl3 hr3 (sumU_zero (fun y hy => hz3 y hy (by omega)))
              have hbel := SC.bel
              have hOp := SC.open hE0
              have hNd := SC.nodes hT1
              clear SC
              go_wp2_with (first
                | (go_at_call 36; refine hOp.mono ?_; rintro e w7 ⟨rfl, hw7⟩; subst w7)
                | (go_at_call 13; refine hNd.mono ?_; rintro e w8 ⟨rfl, hw8⟩; subst w8))
              go_ret
              exact ⟨rfl, hbel⟩
end Go.Proofs.YtjkneekfijibiabGreatDoor
