/- TreeStays: the walk of its Go text, to its end. -/
import Derived.Test.YtpibokijbidgdabDoorKStays
namespace Go.Proofs.YtpibokijbidgdabDoor
open Go.RowKit Go.Maps

section
variable {w wr : World} {m : Int} {r k : Nat} {C : List (Nm × Int)} {b p q : List UInt8} {x : Nat} {nm : Nm}
theorem KT.make_no (h : KT w m r 0 nullT wr) (hp : p.length < 100000) (hE : makeE nullT 1 p ≠ 0) :
    Calls Tryd.prog 40 #[wp r, tx p] wr fun e w' => e = .returned (.tuple #[.int .i64 0, uer (makeE nullT 1 p)]) ∧ KT w m r 1 nullT w' := by
  refine (h.create (by omega) null_num p hp).mono ?_
  rintro e w' (⟨a, rfl, k'⟩ | ⟨a, _⟩)
  · exact ⟨rfl, k'⟩
  · exact absurd a hE
theorem KT.make_one (h : KT w m r 0 nullT wr) (hp : p.length < 100000) (hE : makeE nullT 1 p = 0) (hN : makeN nullT p false 1 = tC [(nm, 1)] [] 0) :
    Calls Tryd.prog 40 #[wp r, tx p] wr fun e w' => e = .returned (.tuple #[.int .i64 1, .nilIface]) ∧ KT w m r 1 (tC [(nm, 1)] [] 0) w' := by
  refine (h.create_yes (by omega) null_num p hp hE null_free).mono ?_
  rintro e w' ⟨rfl, k'⟩
  rw [hN] at k'
  exact ⟨rfl, k'⟩
theorem KT.link_did (h : KT w m r k (tC C b x) wr) (hk : k ≤ 900) (hp : p.length < 100000) (hq : q.length < 100000) (hE : linkE (tC C b x) p q = 0) {D : List (Nm × Int)} (hN : linkN (tC C b x) p q = tC D b x) :
    Calls Tryd.prog 43 #[wp r, tx p, tx q] wr fun e w' => e = .returned .nilIface ∧ KT w m r (k + 1) (tC D b x) w' := by
  refine (h.link hk p q hp hq).mono ?_
  rintro e w' ⟨rfl, k'⟩
  rw [hE]
  rw [hN] at k'
  exact ⟨rfl, k'⟩
theorem KT.link_not (h : KT w m r k (tC C b x) wr) (hk : k ≤ 900) (hp : p.length < 100000) (hq : q.length < 100000) (hE : linkE (tC C b x) p q ≠ 0) :
    Calls Tryd.prog 43 #[wp r, tx p, tx q] wr fun e w' => ∃ z, e = .returned (uer z) ∧ KT w m r (k + 1) (tC C b x) w' := by
  refine (h.link hk p q hp hq).mono ?_
  rintro e w' ⟨rfl, k'⟩
  rw [uev_ne hE]
  rw [show linkN (tC C b x) p q = tC C b x by unfold linkN; rw [if_pos hE]] at k'
  exact ⟨_, rfl, k'⟩
theorem KT.find_at (h : KT w m r k (tC C b x) wr) (hp : p.length < 100000) (hn : namesOf p = some [nm]) (hl : C.lookup nm = some 1) :
    Calls Tryd.prog 44 #[wp r, tx p] wr fun e w' => e = .returned (.tuple #[.int .i64 1, .nilIface]) ∧ KT w m r k (tC C b x) w' := by
  refine (h.find p hp).mono ?_
  rintro e w' ⟨rfl, k'⟩
  rw [root_find (T := tC C b x) tC_0 hn hl]
  exact ⟨rfl, k'⟩
theorem KT.find_any (h : KT w m r k (tC C b x) wr) (hp : p.length < 100000) :
    Calls Tryd.prog 44 #[wp r, tx p] wr fun e w' => ∃ y v, e = .returned (.tuple #[.int .i64 y, v]) ∧ KT w m r k (tC C b x) w' := by
  refine (h.find p hp).mono ?_
  rintro e w' ⟨rfl, k'⟩
  exact ⟨_, _, rfl, k'⟩
theorem KT.find_gone (h : KT w m r k (tC [] b x) wr) (hp : p.length < 100000) (hn : namesOf p = some [nm]) :
    Calls Tryd.prog 44 #[wp r, tx p] wr fun e w' => e = .returned (.tuple #[.int .i64 0, uer 7]) ∧ KT w m r k (tC [] b x) w' := by
  refine (h.find p hp).mono ?_
  rintro e w' ⟨rfl, k'⟩
  rw [root_miss (T := tC [] b x) tC_0 hn rfl]
  exact ⟨rfl, k'⟩
end

set_option maxRecDepth 100000 in
set_option maxHeartbeats 8000000 in
theorem stays_short (p o s : List UInt8) (n : Int) (w : World) (hp : p.length ≤ 60) (ho : o.length ≤ 60) (hs : s.length ≤ 100) (m : Int) (hm : w.cell? ⟨1, 0, none⟩ = some (.int .i64 m)) :
    Calls Tryd.prog 7 #[tx p, tx o, tx s, .int .i64 n] w fun e w' => e = .returned (.bool true) ∧ Below w.heap.size w w' := by
  have h1 : ¬ (60 : Int) < (p.length : Int) := by omega
  have h2 : ¬ (60 : Int) < (o.length : Int) := by omega
  have h3 : ¬ (100 : Int) < (s.length : Int) := by omega
  have hnm := named_ok w m hm
  have hne := ktree_ne
  have hml : 1 < w.heap.size := World.block_lt_of_cell? w _ hm
  have hN : ∀ V : World, Below w.heap.size w V → Calls Tryd.prog 31 #[] V fun e w' => ∃ r, e = .returned (wp r) ∧ KT w m r 0 nullT w' := fun V hb => by
    refine (KT.first V m (by rw [hb.cell (p := ⟨1, 0, none⟩) hml]; exact hm)).mono ?_
    rintro e w' ⟨r, rfl, k⟩
    exact ⟨r, rfl, k.base hb hm⟩
  by_cases hE : makeE nullT 1 p = 0
  · obtain ⟨nm, hn, _, hmN⟩ := make_null hE
    have hCr := fun r V (h : KT w m r 0 nullT V) => h.make_one (by omega) hE hmN
    have hpk := fun V => ppick_any V n 90 (by omega) (by omega)
    clear hE hmN
    go_enter Tryd.func7, Tryd.ntmps7
    go_upto_region 12 with (first
      | (go_at_call 30; refine hnm.mono ?_; rintro e w1 ⟨rfl, b1⟩)
      | (go_at_call 31; refine (hN _ b1).mono ?_; rintro e w2 ⟨r, rfl, k2⟩)
      | (go_at_call 40; refine (hCr _ _ k2).mono ?_; rintro e w3 ⟨rfl, k3⟩)
      | (go_at_call 9; refine (hpk _).mono ?_; rintro e w4 ⟨a, rfl, ha, rfl⟩))
    clear hnm hN hCr hpk k2 hm hml
    have hH := k3.hold1 (by omega)
    go_upto_region 14 with (first
      | (go_at_call 41; refine hH.mono ?_; rintro e w5 ⟨rfl, k5⟩; have hW := k5.write1 (s := s) ha hs)
      | (go_at_call 42; refine hW.mono ?_; rintro e w6 ⟨rfl, k6⟩))
    clear hH hW k3 k5
    by_cases hL : linkE (tC [(nm, 1)] (stB a s) 1) p o = 0
    · obtain ⟨nm2, hn2, hl2, hLN⟩ := link_one (C := [(nm, 1)]) (fun s n e => by rw [List.lookup_cons] at e; split at e <;> cases e; rfl) hn (by simp) hL
      have hnn : nm ≠ nm2 := fun e => by subst e; simp at hl2
      have hnn2 : nm2 ≠ nm := fun e => hnn e.symm
      have hLk := k6.link_did (by omega) (by omega) (by omega) hL hLN
      have hF := fun V (h : KT w m r (1 + 1 + 1 + 1) (tC [(nm2, 1), (nm, 1)] (stB a s) 1) V) => h.find_at (p := o) (by omega) hn2 (by simp)
      have hU : ∀ V, KT w m r (1 + 1 + 1 + 1) (tC [(nm2, 1), (nm, 1)] (stB a s) 1) V → Calls Tryd.prog 45 #[wp r, tx p] V fun e w' => e = .returned .nilIface ∧ KT w m r (1 + 1 + 1 + 1 + 1) (tC [(nm2, 1)] (stB a s) 1) w' := fun V h => by
        have hl : ([(nm2, 1), (nm, 1)] : List (Nm × Int)).lookup nm = some 1 := by rw [List.lookup_cons, show (nm == nm2) = false by simp [hnn]]; simp
        have := h.unlink_held (p := p) (by omega) (by omega) hn hl (by omega)
        rw [show ([(nm2, 1), (nm, 1)] : List (Nm × Int)).filter (fun y => y.1 != nm) = [(nm2, 1)] by simp [hnn2]] at this
        exact this
      have hU2 : ∀ V, KT w m r (1 + 1 + 1 + 1 + 1) (tC [(nm2, 1)] (stB a s) 1) V → Calls Tryd.prog 45 #[wp r, tx o] V fun e w' => e = .returned .nilIface ∧ KT w m r (1 + 1 + 1 + 1 + 1 + 1) (tC [] (stB a s) 1) w' := fun V h => by
        have := h.unlink_held (p := o) (by omega) (by omega) hn2 (by simp) (by omega)
        rw [show ([(nm2, 1)] : List (Nm × Int)).filter (fun y => y.1 != nm2) = [] by simp] at this
        exact this
      clear hL hl2 hLN hnn hnn2
      go_upto_region 20 with (first
        | (go_at_call 43; refine hLk.mono ?_; rintro e w7 ⟨rfl, k7⟩)
        | (go_at_call 44; refine (hF _ k7).mono ?_; rintro e w8 ⟨rfl, k8⟩)
        | (go_at_call 45; refine (hU2 _ k9).mono ?_; rintro e w10 ⟨rfl, k10⟩)
        | (go_at_call 45; refine (hU _ k8).mono ?_; rintro e w9 ⟨rfl, k9⟩))
      clear hLk hF hU hU2 k6 k7 k8 k9
      have hR1 := k10.read_c a s.length
      rw [stB_s] at hR1
      have hR2 := fun V (h : KT w m r (1 + 1 + 1 + 1 + 1 + 1) (tC [] (stB a s) 1) V) => h.read_c 0 a
      have hRp := repeat_ok a (by omega)
      have hFg := fun V (h : KT w m r (1 + 1 + 1 + 1 + 1 + 1) (tC [] (stB a s) 1) V) => h.find_gone (p := p) (by omega) hn
      by_cases hs0 : s = []
      · subst hs0
        go_wp2_with (first
          | (go_at_call 41; refine hH2.mono ?_; rintro e w17 ⟨rfl, k17⟩)
          | (go_at_call 38; refine hN3.mono ?_; rintro e w16 ⟨rfl, rfl⟩)
          | (go_at_call 48; refine hD.mono ?_; rintro e w15 ⟨rfl, k15⟩; have hN3 := k15.nodes1; have hH2 := k15.hold_no (by omega))
          | (go_at_call 44; refine (hFg _ k12).mono ?_; rintro e w14 ⟨rfl, k14⟩; have hD := k14.drop1 (by omega))
          | (go_at_call 46; refine (hR2 _ k11).mono ?_; rintro e w12 ⟨rfl, k12⟩)
          | (go_at_call 38; refine hN2.mono ?_; rintro e w13 ⟨rfl, rfl⟩)
          | (go_at_call 46; refine hR1.mono ?_; rintro e w11 ⟨rfl, k11⟩; have hN2 := k11.nodes2))
        go_ret
        exact ⟨rfl, k17.bel⟩
      · have hR3 : ∀ V, KT w m r (1 + 1 + 1 + 1 + 1 + 1) (tC [] (stB a s) 1) V → Calls Tryd.prog 46 #[wp r, .int .i64 1, .int .i64 0, .int .i64 (a : Int)] V fun e w' => e = .returned (.tuple #[tx (List.replicate a 0), .nilIface]) ∧ KT w m r (1 + 1 + 1 + 1 + 1 + 1) (tC [] (stB a s) 1) w' := fun V h => by
          have := hR2 V h
          rw [stB_0 hs0] at this
          exact this
        clear hR2
        generalize List.replicate a (0 : UInt8) = Zs at *
        go_wp2_with (first
          | (go_at_call 41; refine hH2.mono ?_; rintro e w17 ⟨rfl, k17⟩)
          | (go_at_call 38; refine hN3.mono ?_; rintro e w16 ⟨rfl, rfl⟩)
          | (go_at_call 48; refine hD.mono ?_; rintro e w15 ⟨rfl, k15⟩; have hN3 := k15.nodes1; have hH2 := k15.hold_no (by omega))
          | (go_at_call 44; refine (hFg _ k13).mono ?_; rintro e w14 ⟨rfl, k14⟩; have hD := k14.drop1 (by omega))
          | (go_at_call 47; refine (hRp _).mono ?_; rintro e w13 ⟨rfl, b13⟩; have k13 := k12.below b13)
          | (go_at_call 46; refine (hR3 _ k11).mono ?_; rintro e w12 ⟨rfl, k12⟩)
          | (go_at_call 38; refine hN2.mono ?_; rintro e w13 ⟨rfl, rfl⟩)
          | (go_at_call 46; refine hR1.mono ?_; rintro e w11 ⟨rfl, k11⟩; have hN2 := k11.nodes2))
        go_ret
        exact ⟨rfl, k17.bel⟩
    · have hLk := k6.link_not (p := p) (q := o) (by omega) (by omega) (by omega) hL
      have hF := fun V (h : KT w m r (1 + 1 + 1 + 1) (tC [(nm, 1)] (stB a s) 1) V) => h.find_any (p := o) (by omega)
      have hU : ∀ V, KT w m r (1 + 1 + 1 + 1) (tC [(nm, 1)] (stB a s) 1) V → Calls Tryd.prog 45 #[wp r, tx p] V fun e w' => e = .returned .nilIface ∧ KT w m r (1 + 1 + 1 + 1 + 1) (tC [] (stB a s) 1) w' := fun V h => by
        have := h.unlink_held (p := p) (by omega) (by omega) hn (by simp) (by omega)
        rw [show ([(nm, 1)] : List (Nm × Int)).filter (fun y => y.1 != nm) = [] by simp] at this
        exact this
      clear hL
      go_upto_region 20 with (first
        | (go_at_call 43; refine hLk.mono ?_; rintro e w7 ⟨z, rfl, k7⟩)
        | (go_at_call 44; refine (hF _ k7).mono ?_; rintro e w8 ⟨y, v, rfl, k8⟩)
        | (go_at_call 45; refine (hU _ k8).mono ?_; rintro e w9 ⟨rfl, k9⟩))
      have k10 := k9.more (k' := 1 + 1 + 1 + 1 + 1 + 1) (by omega)
      clear hLk hF hU k6 k7 k8 k9
      have hR1 := k10.read_c a s.length
      rw [stB_s] at hR1
      have hR2 := fun V (h : KT w m r (1 + 1 + 1 + 1 + 1 + 1) (tC [] (stB a s) 1) V) => h.read_c 0 a
      have hRp := repeat_ok a (by omega)
      have hFg := fun V (h : KT w m r (1 + 1 + 1 + 1 + 1 + 1) (tC [] (stB a s) 1) V) => h.find_gone (p := p) (by omega) hn
      by_cases hs0 : s = []
      · subst hs0
        go_wp2_with (first
          | (go_at_call 41; refine hH2.mono ?_; rintro e w17 ⟨rfl, k17⟩)
          | (go_at_call 38; refine hN3.mono ?_; rintro e w16 ⟨rfl, rfl⟩)
          | (go_at_call 48; refine hD.mono ?_; rintro e w15 ⟨rfl, k15⟩; have hN3 := k15.nodes1; have hH2 := k15.hold_no (by omega))
          | (go_at_call 44; refine (hFg _ k12).mono ?_; rintro e w14 ⟨rfl, k14⟩; have hD := k14.drop1 (by omega))
          | (go_at_call 46; refine (hR2 _ k11).mono ?_; rintro e w12 ⟨rfl, k12⟩)
          | (go_at_call 38; refine hN2.mono ?_; rintro e w13 ⟨rfl, rfl⟩)
          | (go_at_call 46; refine hR1.mono ?_; rintro e w11 ⟨rfl, k11⟩; have hN2 := k11.nodes2))
        go_ret
        exact ⟨rfl, k17.bel⟩
      · have hR3 : ∀ V, KT w m r (1 + 1 + 1 + 1 + 1 + 1) (tC [] (stB a s) 1) V → Calls Tryd.prog 46 #[wp r, .int .i64 1, .int .i64 0, .int .i64 (a : Int)] V fun e w' => e = .returned (.tuple #[tx (List.replicate a 0), .nilIface]) ∧ KT w m r (1 + 1 + 1 + 1 + 1 + 1) (tC [] (stB a s) 1) w' := fun V h => by
          have := hR2 V h
          rw [stB_0 hs0] at this
          exact this
        clear hR2
        generalize List.replicate a (0 : UInt8) = Zs at *
        go_wp2_with (first
          | (go_at_call 41; refine hH2.mono ?_; rintro e w17 ⟨rfl, k17⟩)
          | (go_at_call 38; refine hN3.mono ?_; rintro e w16 ⟨rfl, rfl⟩)
          | (go_at_call 48; refine hD.mono ?_; rintro e w15 ⟨rfl, k15⟩; have hN3 := k15.nodes1; have hH2 := k15.hold_no (by omega))
          | (go_at_call 44; refine (hFg _ k13).mono ?_; rintro e w14 ⟨rfl, k14⟩; have hD := k14.drop1 (by omega))
          | (go_at_call 47; refine (hRp _).mono ?_; rintro e w13 ⟨rfl, b13⟩; have k13 := k12.below b13)
          | (go_at_call 46; refine (hR3 _ k11).mono ?_; rintro e w12 ⟨rfl, k12⟩)
          | (go_at_call 38; refine hN2.mono ?_; rintro e w13 ⟨rfl, rfl⟩)
          | (go_at_call 46; refine hR1.mono ?_; rintro e w11 ⟨rfl, k11⟩; have hN2 := k11.nodes2))
        go_ret
        exact ⟨rfl, k17.bel⟩
  · have hCr := fun r V (h : KT w m r 0 nullT V) => h.make_no (p := p) (by omega) hE
    clear hE
    generalize makeE nullT 1 p = z at *
    go_enter Tryd.func7, Tryd.ntmps7
    go_wp2_with (first
      | (go_at_call 30; refine hnm.mono ?_; rintro e w1 ⟨rfl, b1⟩)
      | (go_at_call 31; refine (hN _ b1).mono ?_; rintro e w2 ⟨r, rfl, k2⟩)
      | (go_at_call 40; refine (hCr _ _ k2).mono ?_; rintro e w3 ⟨rfl, k3⟩; have hNd := k3.nodes1)
      | (go_at_call 38; refine hNd.mono ?_; rintro e w4 ⟨rfl, rfl⟩))
    go_ret
    exact ⟨rfl, k3.bel⟩
end Go.Proofs.YtpibokijbidgdabDoor
