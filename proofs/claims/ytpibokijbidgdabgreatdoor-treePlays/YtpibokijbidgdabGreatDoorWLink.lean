/- The document's own tree: Link, by its Go text. -/
import Derived.Test.YtpibokijbidgdabGreatDoorWRef2
import Derived.Test.YtpibokijbidgdabGreatDoorWRead
namespace Go.Proofs.YtpibokijbidgdabGreatDoor
open Go.RowKit Go.Maps

section
variable {w w' : World} {r gN s : Nat} {T : Wd} {G : Int → Nat}

/-- A name put. -/
theorem RTr.add (h : RTr w r gN s T G) {d n : Int} {nm : Nm} {C : List (Nm × Int)} (hd : T d = some (.dir C)) (hno : C.lookup nm = none) (hg : w.grownBy w' (some (G d)))
    (sm : SMap w' (G d) (if ((C.lookup nm).map (Value.int .i64 ·)).isSome then C.length else C.length + 1) (fun i => if i = nm then some (.int .i64 n) else (C.lookup i).map (.int .i64 ·))) : RTr w' r gN s (addT T d nm n) G := by
  have hk : ∀ i, i < w.heap.size → i ≠ G d → w'.heap[i]? = w.heap[i]? := fun i hi hne => hg.block i hi (fun e => hne (Option.some.inj e))
  have hrG : r ≠ G d := by
    intro e
    obtain ⟨es, cl, hm⟩ := (h.dirs d C hd).isMap
    rw [← e, h.head] at hm; cases hm
  rw [addT_eq hd]
  have hold : ∀ k D, setT T d (.dir ((nm, n) :: C)) k = some (.dir D) → (k = d ∧ D = (nm, n) :: C) ∨ (k ≠ d ∧ T k = some (.dir D)) := fun k D e => by
    by_cases e1 : k = d
    · subst e1; rw [setT_same] at e; cases e; exact .inl ⟨rfl, rfl⟩
    · rw [setT_other _ e1] at e; exact .inr ⟨e1, e⟩
  have hsome : ∀ k D, setT T d (.dir ((nm, n) :: C)) k = some (.dir D) → ∃ D', T k = some (.dir D') := fun k D e => by
    rcases hold k D e with ⟨rfl, _⟩ | ⟨_, e⟩
    · exact ⟨C, hd⟩
    · exact ⟨D, e⟩
  refine ⟨(hk r (h.lt (.inl rfl)) hrG).trans h.head, ?_, ?_, fun k D e => ?_, fun k k' D D' e e' hG => ?_⟩
  · have e : (fun k => (setT T d (.dir ((nm, n) :: C)) k).map (ndv G k)) = fun k => (T k).map (ndv G k) := by
      funext k; unfold setT; by_cases e1 : k = d
      · subst e1; simp [hd, ndv]
      · simp [e1]
    rw [e]
    exact h.map.keep (hk gN h.map.lt (fun e => h.sep d C hd e.symm))
  · intro k D e
    rcases hold k D e with ⟨rfl, rfl⟩ | ⟨e1, e⟩
    · rw [hno] at sm
      have e2 : (fun i => if i = nm then some (.int .i64 n) else (C.lookup i).map (.int .i64 ·)) = fun i => (((nm, n) :: C).lookup i).map (Value.int .i64 ·) := by
        funext i
        by_cases ei : i = nm
        · subst ei; simp [List.lookup]
        · have : (i == nm) = false := by simp [ei]
          simp [List.lookup, this, ei]
      rw [e2] at sm
      exact sm
    · exact (h.dirs k D e).keep (hk _ (h.dirs k D e).lt (fun e2 => e1 (h.inj k d D C e hd e2)))
  · obtain ⟨D', e'⟩ := hsome k D e
    exact h.sep k D' e'
  · obtain ⟨D1, e1⟩ := hsome k D e
    obtain ⟨D2, e2⟩ := hsome k' D' e'
    exact h.inj k k' D1 D2 e1 e2 hG

set_option maxRecDepth 100000 in
set_option maxHeartbeats 4000000 in
theorem RTr.link_ok (h : RTr w r gN s T G) (hT : TrOk T) (p q : List UInt8) (hp : p.length < 100000) (hq : q.length < 100000) (m : Int) (hm : w.cell? ⟨2, 0, none⟩ = some (.int .i64 m)) (hC : ∀ k C, T k = some (.dir C) → C.length < maxLen) :
    Calls Tryz.prog 27 #[wp r, tx p, tx q] w fun e w' => e = .returned (.int .i64 (linkE T p q)) ∧ RTr w' r gN s (linkN T p q) G ∧ Wt (town r gN T G) w w' := by
  have hF := h.find_ok hT p hp m hm
  have hsome := findT_some hT (p := p)
  obtain ⟨E, hE⟩ : ∃ E, linkE T p q = E := ⟨_, rfl⟩
  obtain ⟨N, hN⟩ : ∃ N, linkN T p q = N := ⟨_, rfl⟩
  have hE0 := hE
  unfold linkN at hN
  rw [hE] at hN
  rw [hE, show linkN T p q = N from by unfold linkN; rw [hE]; exact hN]
  unfold linkE at hE
  generalize findT T p = F at *
  obtain ⟨n, f⟩ := F
  simp only at hF hE hN hsome
  by_cases hf : f = 0
  · subst hf
    rw [if_neg (fun e => e rfl)] at hE
    have hs := hsome rfl
    have hkey := hT.key n hs
    have hwf : (Lit.int .i64 n).wf = true := wf_few hkey.1 (by omega)
    have c0 := h.c0
    cases hn : T n with
    | none => rw [hn] at hs; cases hs
    | some nd =>
      cases nd with
      | dir C =>
        have hE' : E = 6 := by rw [← hE, if_pos (by unfold isDirT; rw [hn])]
        subst hE'
        rw [if_pos (by omega)] at hN
        subst hN
        go_enter Tryz.func27, Tryz.ntmps27
        go_wp2_with fail
        refine hF.mono ?_
        rintro e w1 ⟨rfl, b1⟩
        have h1 := h.below b1
        have c1 := h1.c0
        have hlk : (Instr.lookup 33 (.map (some gN)) (.int .i64 n) false).run Tryz.prog w1 = .ok (.agg #[.map (some (G n)), .bool true, tx [], .int .i64 0]) w1 := by
          rw [h1.map.look Tryz.underlying33 (zero_node _) n hwf, node_dir (G := G) hn]
        have f1 := node_f1 (some (G n)) true [] 0
        clear hF
        go_wp2_with fail
        go_ret
        exact ⟨rfl, h1, .below _ b1⟩
      | file b x =>
        rw [if_neg (by unfold isDirT; rw [hn]; simp)] at hE
        have hpl := placeT_dir hT (p := q)
        go_enter Tryz.func27, Tryz.ntmps27
        go_wp2_with fail
        refine hF.mono ?_
        rintro e w1 ⟨rfl, b1⟩
        have h1 := h.below b1
        have c1 := h1.c0
        have hlk : (Instr.lookup 33 (.map (some gN)) (.int .i64 n) false).run Tryz.prog w1 = .ok (.agg #[.map none, .bool false, tx b, .int .i64 (x : Int)]) w1 := by
          rw [h1.map.look Tryz.underlying33 (zero_node _) n hwf, node_file (G := G) hn]
        have f1 := node_f1 none false b (x : Int)
        have hP := h1.place_ok hT q hq m (maxLen_kept hm b1)
        clear hF
        generalize placeT T q = P at *
        obtain ⟨d, nm, z⟩ := P
        simp only at hE hN hpl hP
        by_cases hz : z = 0
        · subst hz
          rw [if_neg (fun e => e rfl)] at hE
          rw [if_pos rfl] at hP
          obtain ⟨⟨C, hd⟩, hnm⟩ := hpl rfl
          have hnl := isName_len hnm
          have hnx : nm.length ≤ maxLen := by unfold maxLen; omega
          rw [hasT_eq hd] at hE
          go_wp2_with fail
          refine hP.mono ?_
          rintro e w2 ⟨rfl, b2⟩
          have h2 := h1.below b2
          have b12 : Below w.heap.size w w2 := b1.trans (b2.mono b1.size)
          have hSm := h2.dirs d C hd
          have hCl := hC d C hd
          clear hP h1 h hC hlk c1 hpl
          cases hlu : C.lookup nm with
          | some n' =>
            rw [hlu] at hE
            simp only [Option.isSome_some, if_true] at hE
            subst hE
            rw [if_pos (by omega)] at hN
            subst hN
            go_wp2_with (at_lookup; refine wpList_sask rfl _ _ 62 rfl 3 Tryz.underlying62 _ (zero_num _) (G d) _ _ rfl hSm nm rfl hnx ?_; simp only [hlu, Option.map_some, Option.getD_some, Option.isSome_some])
            go_ret
            exact ⟨rfl, h2, .below _ b12⟩
          | none =>
            rw [hlu] at hE
            simp only [Option.isSome_none, Bool.false_eq_true, if_false] at hE
            subst hE
            rw [if_neg (fun e => e rfl)] at hN
            subst hN
            go_wp2_with (first
              | (at_lookup; refine wpList_sask rfl _ _ 62 rfl 3 Tryz.underlying62 _ (zero_num _) (G d) _ _ rfl hSm nm rfl hnx ?_; simp only [hlu, Option.map_none, Option.getD_none, Option.isSome_none])
              | (refine wpList_sput rfl _ _ _ 62 rfl 3 Tryz.underlying62 (G d) _ _ rfl hSm hCl nm rfl hnx _ rfl ?_; intro w3 sm g3))
            have h3 := h2.add hd hlu g3 sm
            clear hSm h2 sm
            go_wp2_with fail
            go_ret
            exact ⟨rfl, h3, (Wt.below _ b12).trans (.grown g3 (.inr (.inr ⟨d, C, hd, rfl⟩)))⟩
        · rw [if_pos hz] at hE
          subst hE
          rw [if_pos hz] at hN
          subst hN
          rw [if_neg hz] at hP
          have hq : (z == 0) = false := by simp [hz]
          go_wp2_with fail
          refine hP.mono ?_
          rintro e w2 ⟨rfl, b2⟩
          clear hP
          go_wp2_with fail
          go_ret
          exact ⟨rfl, h1.below b2, .below _ (b1.trans (b2.mono b1.size))⟩
  · rw [if_pos hf] at hE
    subst hE
    rw [if_pos hf] at hN
    subst hN
    have hq : (f == 0) = false := by simp [hf]
    go_enter Tryz.func27, Tryz.ntmps27
    go_wp2_with fail
    refine hF.mono ?_
    rintro e w1 ⟨rfl, b1⟩
    clear hF
    go_wp2_with fail
    go_ret
    exact ⟨rfl, h.below b1, .below _ b1⟩
end
end Go.Proofs.YtpibokijbidgdabGreatDoor
