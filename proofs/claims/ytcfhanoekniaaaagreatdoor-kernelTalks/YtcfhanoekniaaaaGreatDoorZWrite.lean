/- Candidates in a row of one's own: append. -/
import Derived.Test.YtcfhanoekniaaaaGreatDoorOVic
import Derived.WalkLawsBesides
import Derived.Shelf.Abstract
import Derived.Deep.RegionLaw
import Derived.Lib.SliceRun
import Derived.Test.YtcfhanoekniaaaaGreatDoorZNew2
import Derived.Test.YtcfhanoekniaaaaGreatDoorOVic3
import Derived.Test.YtcfhanoekniaaaaGreatDoorTell
import Derived.Maps.AppendAt
import Derived.Deep.LoopGhost
namespace Go.Proofs.YtcfhanoekniaaaaGreatDoor
open Go.RowKit Go.Maps Go.Shelf

theorem cd_info : ∃ i, Tryz.prog.info? 324 = some i ∧ i.zero = some (.agg #[.int .i64 0, .int .i64 0, .int .i64 0]) ∧ i.size = 3 ∧ i.bytes = 24 :=
  info_parts (P := Tryz.prog) (e := 324) (z := .agg #[.int .i64 0, .int .i64 0, .int .i64 0]) (size := 3) (bytes := 24) (by kernel_rfl)
/-- A part of an array, cell by cell. -/
theorem Cds.news {w : World} {blk off : Nat} {L : List Cd} (hq : ∀ j (hj : j < L.length), w.cell? ⟨blk, off + j * 3, none⟩ = some (.int .i64 L[j].pid) ∧ w.cell? ⟨blk, off + j * 3 + 1, none⟩ = some (.int .i64 L[j].res) ∧ w.cell? ⟨blk, off + j * 3 + 2, none⟩ = some (.int .i64 L[j].adj)) (j : Nat) (u : Value) (h : (ccl L)[j]? = some u) : w.cell? ((⟨blk, off, none⟩ : Addr).add j) = some u := by
  have hj : j < L.length * 3 := by have := (List.getElem?_eq_some_iff.1 h).1; rwa [ccl_len] at this
  have hq1 : j / 3 < L.length := by omega
  obtain ⟨e0, e1, e2⟩ := hq (j / 3) hq1
  obtain ⟨f0, f1, f2⟩ := ccl_get L (j / 3) L[j / 3] (by simp [hq1])
  rw [Addr.add_lit]
  have hm : j % 3 = 0 ∨ j % 3 = 1 ∨ j % 3 = 2 := by omega
  rcases hm with z | z | z
  · rw [show j = j / 3 * 3 by omega] at h ⊢
    rw [f0] at h; rw [← h]; exact e0
  · rw [show j = j / 3 * 3 + 1 by omega] at h ⊢
    rw [f1] at h; rw [← h, show off + (j / 3 * 3 + 1) = off + j / 3 * 3 + 1 by omega]; exact e1
  · rw [show j = j / 3 * 3 + 2 by omega] at h ⊢
    rw [f2] at h; rw [← h, show off + (j / 3 * 3 + 2) = off + j / 3 * 3 + 2 by omega]; exact e2
/-- append, by its own equation, as one step of a region that draws. -/
theorem step_append_run {P : Program} {ops : Array Oper} {o : Oper} {a : Act} {w : World} {K : Act → World → Prop} {Q : Exit → Act → World → Prop} {E : Prop}
    (hg : o.guard = none) (s x : Operand) (t : TypeId) (hop : o.op = Op.call { callee := Callee.builtin Builtin.append, args := #[s, x], argTypes := #[t, t] })
    (v y v' : Value) (w' : World) (hs : a.eval s = v) (hx : a.eval x = y) (hr : (Builtin.append_ #[t, t] o.type #[v, y]).run P w = .ok v' w') (hK : K (a.put o.dst v') w') :
    if Region.wanted o (yielded ops a.tmps) = true then Oper.wp P o a w K Q else E := by
  have hw : Region.wanted o (yielded ops a.tmps) = true := by simp [Region.wanted, hg]
  rw [if_pos hw]
  unfold Oper.wp
  simp [execOp, hop, resolve, invoke, builtin, hs, hx, hr, Result.andThen]
  exact hK
theorem CL.keep {w w' : World} {N : Nat} {t : TypeId} {v : Value} {L : List Cd} (h : CL w N t v L) (hb : ∀ i, N ≤ i → i < w.heap.size → w'.heap[i]? = w.heap[i]?) : CL w' N t v L := by
  refine ⟨h.1, ?_⟩
  rcases h.2 with z | ⟨g, cap, cur, rfl, h1, h2, h3⟩
  · exact .inl z
  · exact .inr ⟨g, cap, cur, rfl, h1, (hb g h1 (by
      by_cases e : g < w.heap.size
      · exact e
      · rw [Array.getElem?_eq_none (by omega)] at h2; cases h2)).trans h2, h3⟩
/-- What an append of such a part leaves. -/
theorem append_cds {W : World} {N : Nat} {v : Value} {M L : List Cd} (hown : CL W N 324 v M) {blk off : Nat} (hq : Cells W blk off L) (c : Nat) (hm : M.length ≤ 100) (hl : L.length ≤ 100) (hN : N ≤ W.heap.size) :
    ∃ v' w', (∀ ty, ty = 190 → (Builtin.append_ #[190, 190] ty #[v, .slice (some ⟨blk, off, none⟩) L.length c]).run Tryz.prog W = .ok v' w') ∧ CL w' N 324 v' (M ++ L) ∧ W.grownBy w' v.ownBlock := by
  obtain ⟨i0, hi0, hz0, hz1, hz2⟩ := cd_info
  obtain ⟨v', w', hr, ho, hg, _⟩ := run_append_own_at (P := Tryz.prog) W N 190 190 324 i0 (.agg #[.int .i64 0, .int .i64 0, .int .i64 0]) 3 24 Tryz.underlying190 hi0 hz0 hz1 hz2 rfl (by decide) v M.length (ccl M) hown ⟨blk, off, none⟩ L.length c (ccl L) (ccl_len L) (Cds.news hq) (ccl_one L) (by unfold maxLen; omega) (by omega) hN
  refine ⟨v', w', fun ty e => by rw [e]; exact hr, ?_, hg⟩
  unfold CL
  rw [List.length_append, ccl_app]; exact ho
end Go.Proofs.YtcfhanoekniaaaaGreatDoor

namespace Go.Proofs.YtcfhanoekniaaaaGreatDoor
open Go.RowKit Go.Maps Go.Sort

/-- One that may go. -/
def candOf (S : KS) (p : Int) : Option Cd := if p = 1 then none else (S.O p).map (fun o => ⟨p, ((resP (msJ S o.j) : Nat) : Int), o.adj⟩)
def cands (S : KS) : List Cd := (pidsJ S.P).filterMap (candOf S)
section
variable {w w' : World} {m : Int} {H : KH} {S : KS} {U : Nat → Nat → Int} {q : Nat} {A : Nat → Prop} {p : Int} {o : Ow}
theorem cands_take {l : List Int} {i : Nat} (h : i < l.length) : (l.take (i + 1)).filterMap (candOf S) = (l.take i).filterMap (candOf S) ++ (candOf S l[i]).toList := by
  rw [List.take_add_one, List.getElem?_eq_getElem h, List.filterMap_append]
  congr 1
theorem cands_len (S : KS) : (cands S).length ≤ 24 := Nat.le_trans (List.length_filterMap_le _ _) (pidsJ_len _)
set_option maxRecDepth 100000 in
set_option maxHeartbeats 4000000 in
theorem KX.candidates (h : KX w m H S U q A) : Calls Tryz.prog 123 #[wp H.kb] w fun y w' => ∃ ad cap, y = .returned (.slice ad (cands S).length cap) ∧ Cds w' ad (cands S) ∧ Below w.heap.size w w' := by
  have c3 := h.c3
  obtain ⟨L, hL⟩ : ∃ L, pidsJ S.P = L := ⟨_, rfl⟩
  have hl24 : L.length ≤ 24 := by rw [← hL]; exact pidsJ_len _
  have hwf : ∀ p ∈ L, 1 ≤ p ∧ p ≤ 24 := fun p hp => by
    rw [← hL] at hp
    obtain ⟨x, hx⟩ := Option.isSome_iff_exists.1 (h.jok.pids.1 hp)
    exact h.jok.key p x hx
  have hP : Calls Tryz.prog 111 #[wp H.t] w fun e w' => ∃ b cap, e = .returned (.slice (some ⟨b, 0, none⟩) L.length cap) ∧ L.length ≤ cap ∧ w.heap.size ≤ b ∧ b < w'.heap.size ∧ (∀ j (hj : j < L.length), w'.cell? ⟨b, j, none⟩ = some (.int .i64 L[j])) ∧ Below w.heap.size w w' := by
    have h1 := h.one
    obtain ⟨G, k, e⟩ := h
    obtain ⟨c, qj⟩ := k.qj
    refine (qj.toQM.pids h1).mono ?_
    rintro e w1 ⟨b, cap, rfl, hc, hb, hb2, hh, bb⟩
    rw [hL] at hh hc ⊢
    refine ⟨b, cap, rfl, hc, hb, hb2, fun j hj => ?_, bb⟩
    have := (hh j (by simpa using hj)).1
    rw [Nat.zero_add] at this
    have e9 : L.toArray[j]! = L[j] := by rw [getElem!_pos _ j (by simpa using hj)]; simp
    rw [this, e9]
  have hcell : ∀ V, Below w.heap.size w V → V.cell? ⟨H.kb, 4, none⟩ = some (.map (some H.gm)) := fun V hb => (h.below hb).c4
  have hlook : ∀ V p, 1 ≤ p ∧ p ≤ 24 → Below w.heap.size w V → (Instr.lookup 104 (.map (some H.gm)) (.int .i64 p) false).run Tryz.prog V = .ok (match S.O p with | some o => wp (H.hs o.j) | none => .pointer none) V := fun V p hp hb => (h.below hb).look p (wf24 hp)
  have hres : ∀ V p o, S.O p = some o → Below w.heap.size w V → (V.cell? ⟨H.hs o.j, 0, none⟩ = some (wp (H.sp o.j)) ∧ V.cell? ⟨H.hs o.j, 8, none⟩ = some (.int .i64 o.adj)) ∧ Calls Tryz.prog 117 #[wp (H.sp o.j)] V fun y w' => y = .returned (.int .i64 ((resP (msJ S o.j) : Nat) : Int)) ∧ Below V.heap.size V w' := fun V p o ho hb => ⟨⟨((h.below hb).hd ho).at 0, ((h.below hb).hd ho).at 8⟩, (h.below hb).resS (h.jlt ho)⟩
  have HC : Aside _ := hcell
  have HL : Aside _ := hlook
  have HR : Aside _ := hres
  have HW : Aside _ := hwf
  have hcs : cands S = L.filterMap (candOf S) := by unfold cands; rw [hL]
  rw [hcs]
  have HLL : Aside _ := hL
  clear h hcell hlook hres hwf hcs hL
  go_enter Tryz.func123, Tryz.ntmps123
  go_wp2_with (go_at_call 111; refine hP.mono ?_; rintro e w1 ⟨b, cap, rfl, hcap, hbw, hb1, hcc, b1⟩)
  have HCC : Aside (∀ j (hj : j < L.length), w1.cell? ⟨b, j, none⟩ = some (.int .i64 L[j])) := hcc
  clear hP c3 hcc
  go_loopg [3, 13] L.length (fun mm s3 s13 wr => ∃ i : Nat, i + mm = L.length ∧ s13 = .int .i64 (i : Int) ∧ CL wr w1.heap.size 324 s3 ((L.take i).filterMap (candOf S)) ∧ Below w1.heap.size w1 wr ∧ Below w.heap.size w wr)
  case atStart => exact ⟨0, by omega, rfl, ⟨rfl, .inl ⟨rfl, rfl⟩⟩, Below.refl _ _, b1⟩
  case round =>
    obtain ⟨i, hi, rfl, row, bw1, bw⟩ := hrel
    by_cases hlt : (i : Int) < (L.length : Int)
    · have hiL : i < L.length := by omega
      have hic : (i : Int) < (cap : Int) := by omega
      have c0 : wr.cell? ⟨b, i, none⟩ = some (.int .i64 L[i]) := by rw [bw1.cell (p := ⟨b, i, none⟩) hb1]; exact HCC.out i hiL
      have hk := HW.out L[i] (List.getElem_mem hiL)
      have c4 := HC.out wr bw
      have l4 := HL.out wr L[i] hk bw
      have htk := cands_take (S := S) hiL
      have HT : Aside _ := htk
      have hlen : ((L.take i).filterMap (candOf S)).length ≤ 24 := by
        refine Nat.le_trans (List.length_filterMap_le _ _) ?_
        rw [List.length_take]; omega
      clear htk
      generalize L[i] = X at *
      cases hO : S.O X with
      | none =>
        rw [hO] at l4
        have e0 : candOf S X = none := by unfold candOf; rw [hO]; split <;> rfl
        have HE : Aside _ := e0
        clear hO e0
        go_wp2_with fail
        go_roundg (gk - 1)
        case measure => omega
        case rel =>
          refine ⟨i + 1, by omega, by go_num, ?_, bw1, bw⟩
          rw [HT.out, HE.out, Option.toList_none, List.append_nil]
          exact row
      | some o =>
        rw [hO] at l4
        simp only at l4
        by_cases hx1 : X = 1
        · have e0 : candOf S X = none := if_pos hx1
          have HE : Aside _ := e0
          clear hO e0
          have hx2 : (X != 1) = false := by simpa using hx1
          subst hx1
          go_wp2_with fail
          go_roundg (gk - 1)
          case measure => omega
          case rel =>
            refine ⟨i + 1, by omega, by go_num, ?_, bw1, bw⟩
            rw [HT.out, HE.out, Option.toList_none, List.append_nil]
            exact row
        · have e0 : candOf S X = some ⟨X, ((resP (msJ S o.j) : Nat) : Int), o.adj⟩ := by unfold candOf; rw [if_neg hx1, hO]; rfl
          have HE : Aside _ := e0
          have hx2 : (X != 1) = true := by simpa using hx1
          have hrs : (wr.cell? ⟨H.hs o.j, 0, none⟩ = some (wp (H.sp o.j)) ∧ wr.cell? ⟨H.hs o.j, 8, none⟩ = some (.int .i64 o.adj)) ∧ Calls Tryz.prog 117 #[wp (H.sp o.j)] wr.drew fun y w2 => y = .returned (.int .i64 ((resP (msJ S o.j) : Nat) : Int)) ∧ (w2.cell? ⟨H.hs o.j, 0, none⟩ = some (wp (H.sp o.j)) ∧ w2.cell? ⟨H.hs o.j, 8, none⟩ = some (.int .i64 o.adj)) ∧ ((w2.alloc (.cells #[.int .i64 X, .int .i64 ((resP (msJ S o.j) : Nat) : Int), .int .i64 o.adj] 324)).cell? ⟨H.hs o.j, 0, none⟩ = some (wp (H.sp o.j)) ∧ (w2.alloc (.cells #[.int .i64 X, .int .i64 ((resP (msJ S o.j) : Nat) : Int), .int .i64 o.adj] 324)).cell? ⟨H.hs o.j, 8, none⟩ = some (.int .i64 o.adj)) ∧ ∃ v9 w9, (Builtin.append_ #[190, 190] 190 #[u3, .slice (some ⟨w2.heap.size, 0, none⟩) 1 1]).run Tryz.prog (w2.alloc (.cells #[.int .i64 X, .int .i64 ((resP (msJ S o.j) : Nat) : Int), .int .i64 o.adj] 324)) = .ok v9 w9 ∧ (w9.cell? ⟨H.hs o.j, 0, none⟩ = some (wp (H.sp o.j)) ∧ w9.cell? ⟨H.hs o.j, 8, none⟩ = some (.int .i64 o.adj)) ∧ Aside (CL w9 w1.heap.size 324 v9 ((L.take i).filterMap (candOf S) ++ [⟨X, ((resP (msJ S o.j) : Nat) : Int), o.adj⟩]) ∧ Below w1.heap.size w1 w9 ∧ Below w.heap.size w w9) := by
            refine ⟨(HR.out wr X o hO bw).1, ((HR.out wr.drew X o hO (bw.trans ((bel_drew wr).mono bw.size))).2).mono ?_⟩
            rintro y w2 ⟨rfl, b2⟩
            have b2' : Below wr.heap.size wr w2 := (bel_drew wr).trans b2
            have bA : Below w2.heap.size w2 (w2.alloc (.cells #[.int .i64 X, .int .i64 ((resP (msJ S o.j) : Nat) : Int), .int .i64 o.adj] 324)) := (Below.refl _ _).alloc (Nat.le_refl _) _
            have bB : Below wr.heap.size wr (w2.alloc (.cells #[.int .i64 X, .int .i64 ((resP (msJ S o.j) : Nat) : Int), .int .i64 o.adj] 324)) := b2'.trans (bA.mono b2'.size)
            have row2 : CL (w2.alloc (.cells #[.int .i64 X, .int .i64 ((resP (msJ S o.j) : Nat) : Int), .int .i64 o.adj] 324)) w1.heap.size 324 u3 ((L.take i).filterMap (candOf S)) := row.keep (fun j _ hj => bB.block j hj)
            have hA : (w2.alloc (.cells #[.int .i64 X, .int .i64 ((resP (msJ S o.j) : Nat) : Int), .int .i64 o.adj] 324)).heap[w2.heap.size]? = some (bx ⟨X, ((resP (msJ S o.j) : Nat) : Int), o.adj⟩) := by
              show (w2.heap.push _)[w2.heap.size]? = _
              rw [Array.getElem?_push, if_pos rfl]
            obtain ⟨x0, x1, x2⟩ := bx_cells hA
            have hcl : Cells (w2.alloc (.cells #[.int .i64 X, .int .i64 ((resP (msJ S o.j) : Nat) : Int), .int .i64 o.adj] 324)) w2.heap.size 0 [⟨X, ((resP (msJ S o.j) : Nat) : Int), o.adj⟩] := fun j hj => by
              have : j = 0 := by simp at hj; omega
              subst this
              exact ⟨x0, x1, x2⟩
            have bws := bw1.size
            have b2s := b2'.size
            have bAs := bA.size
            obtain ⟨v9, w9, hr, hcl9, hg9⟩ := append_cds row2 hcl 1 (by omega) (by simp) (by omega)
            have b19 : Below w1.heap.size w1 w9 := ⟨hg9.os.trans (bB.os.trans bw1.os), hg9.tape.trans (bB.tape.trans bw1.tape), hg9.output.trans (bB.output.trans bw1.output), by have := hg9.size; omega, fun j hj => by
              rw [hg9.block j (by omega) (fun e => by have := (row.lt j e.symm).1; omega), bB.block j (by omega)]
              exact bw1.block j hj⟩
            have bw9 : Below w.heap.size w w9 := b1.trans (b19.mono b1.size)
            have bwA : Below w.heap.size w (w2.alloc (.cells #[.int .i64 X, .int .i64 ((resP (msJ S o.j) : Nat) : Int), .int .i64 o.adj] 324)) := bw.trans (bB.mono bw.size)
            have bw2 : Below w.heap.size w w2 := bw.trans (b2'.mono bw.size)
            exact ⟨rfl, (HR.out w2 X o hO bw2).1, (HR.out _ X o hO bwA).1, v9, w9, hr _ rfl, (HR.out w9 X o hO bw9).1, hcl9, b19, bw9⟩
          obtain ⟨d0, hRs⟩ := hrs
          clear hO e0 HR HC HL HW HCC row
          generalize ((resP (msJ S o.j) : Nat) : Int) = R9 at *
          go_upto_region 7 with fail
          go_region_held3 (fun w' => w'.cell? ⟨H.hs o.j, 0, none⟩ = some (wp (H.sp o.j)) ∧ w'.cell? ⟨H.hs o.j, 8, none⟩ = some (.int .i64 o.adj)) (first | exact d0 | exact d1 | exact d2 | exact d3) (first
            | (go_at_call 117; refine hRs.mono ?_; rintro e w2 ⟨rfl, d1, d2, v9, w9, hrun, d3, hR9⟩)
            | (refine step_append_run rfl (.tmp 29) (.tmp 41) 190 rfl _ _ v9 w9 rfl rfl hrun ?_))
          all_goals
            clear d0 d1 d2 d3 hrun hRs
            go_wp2_with fail
            go_roundg (gk - 1)
            case measure => omega
            case rel =>
              obtain ⟨r1, r2, r3⟩ := hR9.out
              refine ⟨i + 1, by omega, by go_num, ?_, r2, r3⟩
              rw [HT.out, HE.out]
              exact r1
    · have hiL : i = L.length := by omega
      have hT : L.take i = L := by rw [hiL]; exact List.take_length
      rw [hT] at row
      obtain ⟨ad2, cap2, hv2, _, hcd⟩ := row.cds
      subst hv2
      have HD : Aside _ := hcd
      clear hcd row hT HC HL HR HW HCC
      go_wp2_with fail
      go_ret
      exact ⟨ad2, ⟨cap2, rfl⟩, HD.out, bw⟩
end
end Go.Proofs.YtcfhanoekniaaaaGreatDoor

namespace Go.Proofs.YtcfhanoekniaaaaGreatDoor
open Go.RowKit Go.Maps

/-- Who went, what is told, and what is left. -/
inductive StoreK (p a k v : Int) : KS → List Int → Int → KS → Prop
  | done {S : KS} {o : Ow} {er : Int} {P' : PM} {D' : Nat → Nat → Int} (ho : S.O p = some o) (h : StR S.n (msJ S o.j) (othM S o.j) S.W a k v er P' D') (h12 : er ≠ 12) : StoreK p a k v S [] er (S.space o.j P' D')
  | nobody {S : KS} {o : Ow} (ho : S.O p = some o) (h : StR S.n (msJ S o.j) (othM S o.j) S.W a k v 12 (msJ S o.j) S.W) (hv : ¬ 0 < (vic (cands S)).1) : StoreK p a k v S [] 12 S
  | self {S : KS} {o : Ow} (ho : S.O p = some o) (h : StR S.n (msJ S o.j) (othM S o.j) S.W a k v 12 (msJ S o.j) S.W) (hv : 0 < (vic (cands S)).1) (he : (vic (cands S)).2 = p) : StoreK p a k v S [p] 10 (endKS S p o 108)
  | goes {S : KS} {o : Ow} {x : Int} {ox : Ow} {went : List Int} {er : Int} {S' : KS} (ho : S.O p = some o) (h : StR S.n (msJ S o.j) (othM S o.j) S.W a k v 12 (msJ S o.j) S.W) (hv : 0 < (vic (cands S)).1) (he : (vic (cands S)).2 = x) (hx : S.O x = some ox) (h1 : x ≠ 1) (hne : x ≠ p) (r : StoreK p a k v (endKS S x ox 108) went er S') : StoreK p a k v S (x :: went) er S'
section
variable {w w' V : World} {m : Int} {H : KH} {S : KS} {U : Nat → Nat → Int} {q : Nat} {A A' : Nat → Prop} {p : Int} {o : Ow}
theorem tell_err (c : Int) (w : World) (hg : w.cell? ⟨0, 0, none⟩ = some errT) : Calls Tryz.prog 17 #[uev c] w fun e w' => e = .returned (.int .i64 c) ∧ Below w.heap.size w w' := by
  by_cases h : c = 0
  · subst h
    refine (tell_nil w).mono ?_
    rintro e w' ⟨he, rfl⟩
    exact ⟨he, Below.refl _ _⟩
  · rw [uev_ne h]; exact tell_eno c w hg
theorem cand_mem {S : KS} {c : Cd} (h : c ∈ cands S) : c.pid ≠ 1 ∧ ∃ o, S.O c.pid = some o ∧ c = ⟨c.pid, ((resP (msJ S o.j) : Nat) : Int), o.adj⟩ := by
  unfold cands at h
  obtain ⟨x, hx, e⟩ := List.mem_filterMap.1 h
  unfold candOf at e
  split at e
  · cases e
  · rename_i hne
    cases hO : S.O x with
    | none => rw [hO] at e; cases e
    | some o =>
      rw [hO] at e
      obtain rfl := Option.some.inj e
      exact ⟨hne, o, hO, rfl⟩
theorem vic_cand {S : KS} (h : 0 < (vic (cands S)).1) : (vic (cands S)).2 ≠ 1 ∧ ∃ o, S.O (vic (cands S)).2 = some o ∧ 0 < resP (msJ S o.j) := by
  obtain ⟨k, hk, e1, e2⟩ := vic_at h
  obtain ⟨h1, o, ho, ec⟩ := cand_mem (List.getElem_mem hk)
  rw [e1] at h1 ho
  refine ⟨h1, o, ho, ?_⟩
  have hw : 0 < wgt (cands S)[k] := by rw [e2]; exact h
  have := (wgt_pos.1 hw).1
  rw [ec] at this
  simp only at this
  omega
theorem filterMap_less {f f' : Int → Option Cd} {x : Int} (hx' : f' x = none) (hx : (f x).isSome = true) : ∀ (l : List Int), (∀ y ∈ l, f' y = none ∨ f' y = f y) → (l.filterMap f').length ≤ (l.filterMap f).length ∧ (x ∈ l → (l.filterMap f').length + 1 ≤ (l.filterMap f).length)
  | [], _ => ⟨Nat.le_refl _, fun h => by cases h⟩
  | y :: r, hl => by
    obtain ⟨i1, i2⟩ := filterMap_less hx' hx r (fun z hz => hl z (List.mem_cons_of_mem _ hz))
    have hy := hl y List.mem_cons_self
    have c1 : ((y :: r).filterMap f').length = (r.filterMap f').length + if (f' y).isSome = true then 1 else 0 := by
      rw [List.filterMap_cons]; cases f' y <;> simp
    have c2 : ((y :: r).filterMap f).length = (r.filterMap f).length + if (f y).isSome = true then 1 else 0 := by
      rw [List.filterMap_cons]; cases f y <;> simp
    rw [c1, c2]
    have hle : (if (f' y).isSome = true then 1 else 0) ≤ (if (f y).isSome = true then 1 else 0) := by
      rcases hy with e | e
      · rw [e]; simp
      · rw [e]; exact Nat.le_refl _
    refine ⟨by omega, fun hm => ?_⟩
    rcases List.mem_cons.1 hm with e | e
    · subst e
      rw [hx', hx]
      simp; omega
    · have := i2 e; omega
theorem pids_exit (P : Ps) (x c : Int) : pidsJ (exitP P x c) = pidsJ P := by
  unfold pidsJ
  refine List.filter_congr (fun n _ => ?_)
  unfold exitP
  rw [Option.isSome_map]
theorem cands_end (h : KN w m H S q A) {x : Int} {ox : Ow} (hx : S.O x = some ox) (h1 : x ≠ 1) (c : Int) : (cands (endKS S x ox c)).length + 1 ≤ (cands S).length := by
  unfold cands
  have e : (endKS S x ox c).P = exitP S.P x c := rfl
  rw [e, pids_exit]
  have hml := h.1.mlt hx
  have f0 : candOf (endKS S x ox c) x = none := by
    unfold candOf
    rw [if_neg h1]
    have : (endKS S x ox c).O x = none := by show delO S.O x x = none; unfold delO; rw [if_pos rfl]
    rw [this]; rfl
  refine (filterMap_less f0 ?_ _ (fun y hy => ?_)).2 ?_
  · unfold candOf; rw [if_neg h1, hx]; rfl
  · by_cases e : y = x
    · left; rw [e]; exact f0
    · right
      unfold candOf
      have e1 : (endKS S x ox c).O y = S.O y := by show delO S.O x y = _; unfold delO; rw [if_neg e]
      rw [e1]
      by_cases hy1 : y = 1
      · rw [if_pos hy1, if_pos hy1]
      · rw [if_neg hy1, if_neg hy1]
        cases hO : S.O y with
        | none => rw [Option.map_none, Option.map_none]
        | some o' =>
          have hne : o'.j ≠ ox.j := fun z => e (h.1.inj hO hx z)
          have e2 : msJ (endKS S x ox c) o'.j = msJ S o'.j := by
            have : msJ (endKS S x ox c) o'.j = if o'.j = ox.j then noP else msJ S o'.j := ms_space (S := S.procs (exitP S.P x c)) hml noP S.W o'.j
            rw [this, if_neg hne]
          rw [Option.map_some, Option.map_some, e2]
  · have hr : runsJ S.P x = true := by rw [← h.2.run x, hx]; rfl
    obtain ⟨z, hz, _⟩ := runsJ_iff.1 hr
    exact h.1.jok.pids.2 (by rw [hz]; rfl)
/-- A block that is nobody's turned. -/
theorem KX.grownOut (h : KX w m H S U q A) {r : Option Nat} (g : w.grownBy w' r) (hr : ∀ x, r = some x → ¬ A x ∧ x ≠ 4 ∧ x ≠ 0 ∧ x ≠ 2) : KX w' m H S U q A := by
  obtain ⟨G, k, e⟩ := h
  have hk : ∀ i, i < w.heap.size → r ≠ some i → w'.heap[i]? = w.heap[i]? := fun i hi hn => g.block i hi (fun z => hn z.symm)
  exact ⟨G, k.same g.size (fun i hi => hk i (k.klt i hi) (fun z => (hr i z).1 ((e i).2 hi))) (hk _ k.ml_lt (fun z => (hr _ z).2.1 rfl)) (hk _ k.er_lt (fun z => (hr _ z).2.2.1 rfl)) (hk _ k.zero_lt (fun z => (hr _ z).2.2.2 rfl)), e⟩
theorem Stp.grownOut (st : Stp w V A A') {r : Option Nat} (g : V.grownBy w' r) (hr : ∀ x, r = some x → w.heap.size ≤ x) : Stp w w' A A' :=
  ⟨⟨g.os.trans st.wt.os, g.tape.trans st.wt.tape, g.output.trans st.wt.output, Nat.le_trans st.wt.size g.size, fun i hi hn => by
    rw [g.block i (Nat.lt_of_lt_of_le hi st.wt.size) (fun z => by have := hr i z.symm; omega)]
    exact st.wt.block i hi hn⟩, st.own⟩
/-- Those that went, in a row of the call's own. -/
structure Wn (w0 w : World) (A : Nat → Prop) (v : Value) (l : List Int) : Prop where
  row : w.ownsRow w0.heap.size 3 1 v l.length (l.map fun x => .int .i64 x)
  off : ∀ g, v.ownBlock = some g → ¬ A g
theorem Wn.nil (w : World) (A : Nat → Prop) : Wn w w A (.slice none 0 0) [] := ⟨⟨rfl, .inl ⟨rfl, rfl⟩⟩, fun g e => by cases e⟩
theorem Wn.stp {w0 : World} {v : Value} {l : List Int} (h : Wn w0 w A v l) (st : Stp w w' A A') : Wn w0 w' A' v l := by
  refine ⟨⟨h.row.1, ?_⟩, fun g e => ?_⟩
  · rcases h.row.2 with z | ⟨g, cap, cur, e, a1, a2, rest⟩
    · exact .inl z
    · refine .inr ⟨g, cap, cur, e, a1, ?_, rest⟩
      rw [st.wt.block g (h.row.lt g (by rw [e]; rfl)).2 (h.off g (by rw [e]; rfl))]
      exact a2
  · intro z
    rcases st.own g z with y | y
    · exact h.off g e y
    · have := (h.row.lt g e).2; omega
theorem int_info : ∃ i, Tryz.prog.info? 3 = some i ∧ i.zero = some (.int .i64 0) ∧ i.size = 1 ∧ i.bytes = 8 := info_parts (P := Tryz.prog) (e := 3) (z := .int .i64 0) (size := 1) (bytes := 8) (by kernel_rfl)
/-- One more went. -/
theorem Wn.more {w0 : World} {v : Value} {l : List Int} (h : Wn w0 w A v l) (hl : l.length ≤ 100) (h0 : w0.heap.size ≤ w.heap.size) (hA : ∀ i, A i → i < w.heap.size) (x : Int) : ∃ v' w', (∀ ty, ty = 23 → (Builtin.append_ #[23, 23] ty #[v, .slice (some ⟨w.heap.size, 0, none⟩) 1 1]).run Tryz.prog (w.alloc (.cells #[.int .i64 x] 3)) = .ok v' w') ∧ Wn w0 w' A v' (l ++ [x]) ∧ w.grownBy w' v.ownBlock := by
  obtain ⟨i0, hi0, hz0, hz1, hz2⟩ := int_info
  obtain ⟨b1, s1, c1, _⟩ := box1 w (.int .i64 x) 3
  have row2 := h.row.alloc (.cells #[.int .i64 x] 3)
  obtain ⟨v', w', hr, ho, hg, _, hv⟩ := run_append_own_at (P := Tryz.prog) (w.alloc (.cells #[.int .i64 x] 3)) w0.heap.size 23 23 3 i0 (.int .i64 0) 1 8 Tryz.underlying23 hi0 hz0 hz1 hz2 rfl (by decide) v l.length _ row2 ⟨w.heap.size, 0, none⟩ 1 1 [.int .i64 x] rfl (fun j u hu => by
    match j with
    | 0 =>
      simp only [List.getElem?_cons_zero, Option.some.injEq] at hu
      rw [← hu]; exact c1
    | j + 1 => simp at hu) (fun u hu => by simp at hu; rw [hu]; rfl) (by unfold maxLen; omega) (by omega) (by omega)
  refine ⟨v', w', fun ty e => by rw [e]; exact hr, ⟨?_, fun g e => ?_⟩, ?_⟩
  · rw [List.length_append, List.map_append]; exact ho
  · rcases hv with z | z
    · exact h.off g (by rw [← z]; exact e)
    · rw [z, s1] at e
      cases e
      intro y
      have := hA _ y; omega
  · exact ⟨hg.os, hg.tape, hg.output, by have := hg.size; omega, fun i hi hn => (hg.block i (by omega) hn).trans (b1.block i hi)⟩
end
end Go.Proofs.YtcfhanoekniaaaaGreatDoor

namespace Go.Proofs.YtcfhanoekniaaaaGreatDoor
open Go.RowKit Go.Maps

section
variable {w w' V : World} {m : Int} {H : KH} {S : KS} {U : Nat → Nat → Int} {q : Nat} {A A' : Nat → Prop} {p : Int} {o : Ow}
theorem StR.len {n : Nat} {P P' : PM} {f : Int → Nat} {D D' : Nat → Nat → Int} {a k v er : Int} (h : StR n P f D a k v er P' D') : lenP P' = lenP P := by
  rcases h with ⟨_, _, rfl, _⟩ | ⟨_, _, _, _, rfl, _⟩ | ⟨_, _, _, _, rfl, _⟩ | ⟨hu, _, x, _, _, _, rfl, _⟩
  · rfl
  · rfl
  · rfl
  · refine lenP_put_old ?_
    cases hP : P a with
    | none => unfold useE at hu; rw [hP] at hu; simp at hu
    | some y => rfl
/-- append, by its own equation. -/
theorem wpList_app_run {P : Program} {ops : Array Oper} {rest : List Oper} {o : Oper} {a : Act} {w : World} {Q : Exit → Act → World → Prop} (hgd : o.guard = none) (s x : Operand) (t : TypeId)
    (ho : o.op = .call { callee := .builtin .append, args := #[s, x], argTypes := #[t, t] }) (v y v' : Value) (w' : World) (hs : a.eval s = v) (hx : a.eval x = y)
    (hr : (Builtin.append_ #[t, t] o.type #[v, y]).run P w = .ok v' w') (h : wpList P ops Q rest (a.put o.dst v') w') : wpList P ops Q (o :: rest) a w := by
  refine wpList_plain hgd fun K hK => ?_
  unfold Oper.wp execOp
  simp only [ho, resolve, invoke, builtin, Sem.run_bind, Sem.run_pure, Result.andThen_ok, List.map_toArray, List.map_cons, List.map_nil, hs, hx, hr]
  exact hK _ _ h
/-- What Store leaves. -/
def StoreD (w : World) (m : Int) (H : KH) (S : KS) (q : Nat) (A : Nat → Prop) (p a k v : Int) (vw : Value) (er : Int) (w' : World) : Prop := ∃ went S' A', StoreK p a k v S went er S' ∧ Wn w w' A' vw went ∧ KN w' m H S' q A' ∧ Stp w w' A A'
/-- On the way. -/
def StoreW (w : World) (m : Int) (H : KH) (S : KS) (q : Nat) (A : Nat → Prop) (p a k v : Int) (o : Ow) (mm : Nat) (vw : Value) (wr : World) : Prop := ∃ l Sk Ak, (cands Sk).length ≤ mm ∧ l.length + (cands Sk).length ≤ 24 ∧ Sk.O p = some o ∧ (∀ rest er S', StoreK p a k v Sk rest er S' → StoreK p a k v S (l ++ rest) er S') ∧ Wn w wr Ak vw l ∧ KN wr m H Sk q Ak ∧ Stp w wr A Ak
theorem Wn.lt {w0 : World} {v : Value} {l : List Int} (h : Wn w0 w A v l) : ∀ g, v.ownBlock = some g → w0.heap.size ≤ g ∧ g < w.heap.size := h.row.lt
set_option maxHeartbeats 1000000 in
theorem StoreW.step (hg : 4 < w.heap.size ∧ 0 < w.heap.size ∧ 2 < w.heap.size) {a k v : Int} {mm : Nat} {vw : Value} {wr : World} (h : StoreW w m H S q A p a k v o mm vw wr) (hq : q ≤ 200) (ha : (Lit.int .i64 a).wf = true) :
    wr.cell? ⟨H.hs o.j, 0, none⟩ = some (wp (H.sp o.j)) ∧ Calls Tryz.prog 121 #[wp (H.sp o.j), .int .i64 a, .int .i64 k, .int .i64 v] wr fun y w1 => ∃ er, y = .returned (uev er) ∧ Calls Tryz.prog 17 #[uev er] w1 fun y w2 => y = .returned (.int .i64 er) ∧ (er ≠ 12 → StoreD w m H S q A p a k v vw er w2) ∧
      (er = 12 → Calls Tryz.prog 123 #[wp H.kb] w2 fun y w3 => ∃ z, y = .returned z ∧ Calls Tryz.prog 122 #[z] w3 fun y w4 => ∃ X ok, y = .returned (.tuple #[.int .i64 X, .bool ok]) ∧ (ok = false → StoreD w m H S q A p a k v vw 12 w4) ∧
        (ok = true → Calls Tryz.prog 64 #[wp H.kb, .int .i64 X, .int .i64 108] w4 fun y w5 => y = .returned .nilIface ∧ ∃ v9 w9, (Builtin.append_ #[23, 23] 23 #[vw, .slice (some ⟨w5.heap.size, 0, none⟩) 1 1]).run Tryz.prog (w5.alloc (.cells #[.int .i64 X] 3)) = .ok v9 w9 ∧ (X = p → StoreD w m H S q A p a k v v9 10 w9) ∧ (X ≠ p → StoreW w m H S q A p a k v o (mm - 1) v9 w9 ∧ 1 ≤ mm))) := by
  obtain ⟨l, Sk, Ak, h1, h2, ho, hacc, hw, hk, st⟩ := h
  refine ⟨(hk.1.hd ho).at 0, (hk.1.storeS (hk.1.jlt ho) a k v ha).mono ?_⟩
  rintro y w1 ⟨P', D', er, hS, rfl, A1, k1, st1⟩
  have kn1 : KN w1 m H (Sk.space o.j P' D') q A1 := k1.spaceN hk.2 ho hk.1.len (hk.1.jlt ho) hS.len
  refine ⟨er, rfl, (tell_err er w1 k1.er).mono ?_⟩
  rintro y w2 ⟨rfl, b2⟩
  have hw1 := hw.stp st1
  have st2 : Stp w w2 A A1 := (st.trans st1).trans (.below b2)
  have hw2 := hw1.stp (.below b2)
  have kn2 := kn1.below b2
  refine ⟨rfl, fun hne => ⟨l, _, A1, by have := hacc _ _ _ (.done ho hS hne); rwa [List.append_nil] at this, hw2, kn2, st2⟩, fun h12 => ?_⟩
  subst h12
  obtain ⟨rfl, rfl⟩ := hS.refused (by omega)
  rw [space_self (hk.1.mlt ho)] at kn2
  refine kn2.1.candidates.mono ?_
  rintro y w3 ⟨ad, cap, rfl, hcd, b3⟩
  refine ⟨_, rfl, (vicC_ok w3 ad (cands Sk) cap (by have := cands_len Sk; omega) hcd).mono ?_⟩
  rintro y w4 ⟨rfl, b4⟩
  have b24 : Below w2.heap.size w2 w4 := b3.trans (b4.mono b3.size)
  have kn4 := kn2.below b24
  have st4 : Stp w w4 A A1 := st2.trans (.below b24)
  have hw4 := hw2.stp (.below b24)
  refine ⟨_, _, rfl, fun hok => ?_, fun hok => ?_⟩
  · have hv : ¬ 0 < (vic (cands Sk)).1 := by simpa using hok
    exact ⟨l, Sk, A1, by have := hacc _ _ _ (.nobody ho hS hv); rwa [List.append_nil] at this, hw4, kn4, st4⟩
  · have hv : 0 < (vic (cands Sk)).1 := by simpa using hok
    obtain ⟨hx1, ox, hxo, hxr⟩ := vic_cand hv
    refine (kn4.end_yes hxo hq hx1 108).mono ?_
    rintro y w5 ⟨rfl, A5, k5, st5⟩
    have hw5 := hw4.stp st5
    have st05 := st4.trans st5
    obtain ⟨v9, w9, hr, hw9, hg9⟩ := hw5.more (by omega) st05.wt.size k5.1.lt (vic (cands Sk)).2
    have hout : ∀ x, vw.ownBlock = some x → ¬ A5 x ∧ x ≠ 4 ∧ x ≠ 0 ∧ x ≠ 2 := fun x e => by
      have := (hw5.lt x e).1
      exact ⟨hw5.off x e, by omega, by omega, by omega⟩
    have k9 : KN w9 m H (endKS Sk (vic (cands Sk)).2 ox 108) q A5 := ⟨k5.1.grownOut hg9 hout, k5.2⟩
    have st9 : Stp w w9 A A5 := st05.grownOut hg9 (fun x e => (hw5.lt x e).1)
    refine ⟨rfl, v9, w9, hr _ rfl, fun he => ?_, fun hne => ?_⟩
    · subst he
      have : ox = o := by rw [ho] at hxo; exact (Option.some.inj hxo).symm
      subst this
      exact ⟨_, _, A5, hacc _ _ _ (.self ho hS hv rfl), hw9, k9, st9⟩
    · have hlt := cands_end hk hxo hx1 108
      refine ⟨⟨_, _, A5, by omega, ?_, ?_, fun rest er S' r => ?_, hw9, k9, st9⟩, by omega⟩
      · rw [List.length_append]; simp only [List.length_cons, List.length_nil]; omega
      · show delO Sk.O (vic (cands Sk)).2 p = some o
        unfold delO
        rw [if_neg (Ne.symm hne)]; exact ho
      · rw [List.append_assoc]
        exact hacc _ _ _ (.goes ho hS hv rfl hxo hx1 hne r)
set_option maxRecDepth 100000 in
set_option maxHeartbeats 4000000 in
theorem KN.store_yes (h : KN w m H S q A) (ho : S.O p = some o) (hq : q ≤ 200) (a k v : Int) (ha : (Lit.int .i64 a).wf = true) :
    Calls Tryz.prog 42 #[wp H.kb, .int .i64 p, .int .i64 a, .int .i64 k, .int .i64 v] w fun y w' => ∃ vw er, y = .returned (.tuple #[vw, uev er]) ∧ StoreD w m H S q A p a k v vw er w' := by
  have hF := h.1.find_yes ho
  have hg : 4 < w.heap.size ∧ 0 < w.heap.size ∧ 2 < w.heap.size := by
    obtain ⟨G, k, e⟩ := h.1
    exact ⟨k.ml_lt, k.er_lt, k.zero_lt⟩
  have h0 : StoreW w m H S q A p a k v o (cands S).length (.slice none 0 0) w := ⟨[], S, A, Nat.le_refl _, by have := cands_len S; simpa using this, ho, fun _ _ _ r => r, Wn.nil w A, h, Stp.refl _ _⟩
  have hstep := fun mm vw wr (hh : StoreW w m H S q A p a k v o mm vw wr) => hh.step hg hq ha
  have HS : Aside _ := hstep
  have H0 : Aside _ := h0
  generalize (cands S).length = N at *
  clear h ho hg h0 hstep
  go_enter Tryz.func42, Tryz.ntmps42
  go_wp2_with (go_at_call 51; refine hF.mono ?_; rintro e w1 ⟨rfl, hw⟩; subst w1)
  clear hF
  go_loopg [14] N (fun mm s14 wr => StoreW w m H S q A p a k v o mm s14 wr)
  case atStart => exact H0.out
  case round =>
    clear H0
    obtain ⟨d0, hSt⟩ := HS.out gk u14 wr hrel
    clear hrel HS
    go_upto_region 6 with (go_at_call 121; refine hSt.mono ?_; rintro e w1 ⟨er, rfl, hT⟩)
    clear hSt d0
    by_cases h12 : er = 12
    · subst h12
      go_upto_region 9 with (first
        | (go_at_call 17; refine hT.mono ?_; rintro e w2 ⟨rfl, hx, hc⟩; have hc9 := hc rfl; clear hx hc)
        | (go_at_call 123; refine hc9.mono ?_; rintro e w3 ⟨z, rfl, hV⟩)
        | (go_at_call 122; refine hV.mono ?_; rintro e w4 ⟨X, ok, rfl, hf, ht⟩))
      have HF : Aside _ := hf
      have HT : Aside _ := ht
      clear hf ht hT hc9 hV
      cases ok with
      | false =>
        have hR := HF.out rfl
        have HR : Aside _ := hR
        clear HF HT hR
        go_wp2_with fail
        go_ret2
        exact ⟨_, 12, rfl, HR.out⟩
      | true =>
        have hE := HT.out rfl
        clear HF HT
        go_upto_region 14 with (go_at_call 64; refine hE.mono ?_; rintro e w5 ⟨rfl, v9, w9, hrun, hp, hn⟩)
        have HP : Aside _ := hp
        have HN : Aside _ := hn
        clear hp hn hE
        by_cases hX : X = p
        · have hR := HP.out hX
          have HR : Aside _ := hR
          clear HP HN hR
          subst hX
          go_wp2_with (at_builtin; refine wpList_app_run rfl _ _ 23 rfl _ _ v9 w9 rfl rfl hrun ?_)
          go_ret2
          exact ⟨_, 10, rfl, HR.out⟩
        · have hR := HN.out hX
          have HR : Aside _ := hR
          have hX' : (X == p) = false := by simpa using hX
          clear HP HN hR
          go_wp2_with (at_builtin; refine wpList_app_run rfl _ _ 23 rfl _ _ v9 w9 rfl rfl hrun ?_)
          go_roundg (gk - 1)
          case measure => have := HR.out.2; omega
          case rel => exact HR.out.1
    · have h12' : (er != 12) = true := by simpa using h12
      have HN : Aside (er ≠ 12) := h12
      clear h12
      go_wp2_with (go_at_call 17; refine hT.mono ?_; rintro e w2 ⟨rfl, hx, hc⟩; have HX : Aside _ := hx; clear hx hc)
      go_ret2
      exact ⟨_, er, rfl, HX.out HN.out⟩
end
end Go.Proofs.YtcfhanoekniaaaaGreatDoor

namespace Go.Proofs.YtcfhanoekniaaaaGreatDoor
open Go.RowKit Go.Maps

section
variable {w w' V : World} {m : Int} {H : KH} {S : KS} {U : Nat → Nat → Int} {q : Nat} {A A' : Nat → Prop} {p : Int} {o : Ow}
/-- What Write comes to. -/
noncomputable def wrO (S : KS) (o : Ow) (x : Int) (s : List UInt8) : Int × Int × DS := writeO S.D (tsJ S o.j) x s (o.m 2)
noncomputable def writeKS (S : KS) (p : Int) (o : Ow) (x : Int) (s : List UInt8) : KS :=
  if (wrO S o x s).2.1 = 14 then (S.files (wrO S o x s).2.2 o.j (tsJ S o.j)).procs (if killE S.P p 5 = 0 then killP S.P p 5 else S.P) else S.files (wrO S o x s).2.2 o.j (tsJ S o.j)
set_option maxRecDepth 100000 in
set_option maxHeartbeats 4000000 in
theorem KN.write_yes (h : KN w m H S q A) (ho : S.O p = some o) (x : Int) (s : List UInt8) (hs : s.length < 100000) :
    Calls Tryz.prog 16 #[wp H.kb, .int .i64 p, .int .i64 x, tx s] w fun y w' => y = .returned (.tuple #[.int .i64 (wrO S o x s).1, uev (wrO S o x s).2.1]) ∧ ∃ A', KN w' m H (writeKS S p o x s) (q + 1) A' ∧ Stp w w' A A' := by
  have hF := h.1.find_yes ho
  have hj := h.1.jlt ho
  have c0 := h.1.cells2 ho
  have hm : Calls Tryz.prog 60 #[lq (H.hs o.j), .int .i64 2] w.drew fun e w' => e = .returned (.int .i64 (o.m 2)) ∧ w' = w.drew := ((h.1.below (bel_drew w)).hd ho).most 2 (by omega) (by omega)
  have hU : Calls Tryz.prog 59 #[wp H.f, wp (H.tb o.j), .int .i64 x, tx s, .int .i64 (o.m 2)] w.drew fun y w' => y = .returned (.tuple #[.int .i64 (wrO S o x s).1, uev (wrO S o x s).2.1]) ∧ (w'.cell? ⟨H.kb, 2, none⟩ = some (wp H.f) ∧ w'.cell? ⟨H.hs o.j, 1, none⟩ = some (wp (H.tb o.j))) ∧ Calls Tryz.prog 17 #[uev (wrO S o x s).2.1] w' fun y w2 => y = .returned (.int .i64 (wrO S o x s).2.1) ∧ w2.cell? ⟨H.kb, 3, none⟩ = some (wp H.t) ∧ ((wrO S o x s).2.1 ≠ 14 → ∃ A', KN w2 m H (writeKS S p o x s) (q + 1) A' ∧ Stp w w2 A A') ∧ ((wrO S o x s).2.1 = 14 → Calls Tryz.prog 61 #[wp H.t, .int .i64 p, .int .i64 5] w2 fun y w3 => ∃ z, y = .returned z ∧ ∃ A', KN w3 m H (writeKS S p o x s) (q + 1) A' ∧ Stp w w3 A A') := by
    refine ((h.1.below (bel_drew w)).writeT hj x s hs (o.m 2)).mono ?_
    rintro y w1 ⟨rfl, A1, h1, st1⟩
    have st1' : Stp w w1 A A1 := Stp.base (V := w.drew) rfl rfl rfl rfl st1
    refine ⟨rfl, h1.cells2 (p := p) (o := o) ho, (tell_err _ w1 h1.er).mono ?_⟩
    rintro y w2 ⟨rfl, b2⟩
    have kn1 : KN w1 m H (S.files (wrO S o x s).2.2 o.j (tsJ S o.j)) (q + 1) A1 := h1.filesN h.2 ho hj rfl
    have kn2 := kn1.below b2
    have st2 : Stp w w2 A A1 := st1'.trans (.below b2)
    refine ⟨rfl, kn2.1.c3, fun hne => ⟨A1, ?_, st2⟩, fun he => ?_⟩
    · unfold writeKS; rw [if_neg hne]; exact kn2
    · refine (kn2.1.killK p 5 (h.1.wfp ho)).mono ?_
      rintro y w3 ⟨rfl, A3, k3, st3⟩
      refine ⟨_, rfl, A3, ?_, st2.trans st3⟩
      unfold writeKS
      rw [if_pos he]
      exact k3.procsN kn2.2 (fun x => runs_kill _ _ _ _)
  generalize writeKS S p o x s = S2 at *
  generalize (wrO S o x s).1 = K at *
  generalize (wrO S o x s).2.1 = E at *
  generalize o.m 2 = M2 at *
  clear h ho hj hs
  go_enter Tryz.func16, Tryz.ntmps16
  go_upto_region 4 with (go_at_call 51; refine hF.mono ?_; rintro e w1 ⟨rfl, hw⟩; subst w1)
  go_region_held3 (fun w' => w'.cell? ⟨H.kb, 2, none⟩ = some (wp H.f) ∧ w'.cell? ⟨H.hs o.j, 1, none⟩ = some (wp (H.tb o.j))) (first | exact c0 | exact c1) (first
    | (go_at_call 60; refine hm.mono ?_; rintro e w9 ⟨rfl, hw9⟩; subst w9)
    | (go_at_call 59; refine hU.mono ?_; rintro e w1 ⟨rfl, c1, hT⟩))
  all_goals
    clear hU hF c0 c1 hm
    by_cases hE : E = 14
    · subst hE
      go_upto_region 6 with (go_at_call 17; refine hT.mono ?_; rintro e w2 ⟨rfl, c3, hn, hy⟩)
      have hy9 := hy trivial
      clear hn hy hT
      go_wp2_with (go_at_call 61; refine hy9.mono ?_; rintro e w3 ⟨z, rfl, hR⟩)
      go_ret2
      exact ⟨rfl, hR⟩
    · have hE' : (E == 14) = false := by simpa using hE
      have HE : Aside (E ≠ 14) := hE
      clear hE
      go_wp2_with (go_at_call 17; refine hT.mono ?_; rintro e w2 ⟨rfl, c3, hn, hy⟩; have HN : Aside _ := hn; clear hn hy)
      go_ret2
      exact ⟨rfl, HN.out HE.out⟩
end
end Go.Proofs.YtcfhanoekniaaaaGreatDoor
