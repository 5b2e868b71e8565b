/- takeOut of package buddy, by its Go text. -/
import Derived.Test.YtcllfedpdcjbcaaDoorTake
namespace Go.Proofs.YtcllfedpdcjbcaaDoor
open Go.RowKit Go.Shelf Go.Lib Go.Sort

theorem filt_len (l : List Int) (z : Int) : ((l.filter fun x => !(x == z)).length < l.length) ↔ z ∈ l := by
  induction l with
  | nil => simp
  | cons a l ih =>
    have := List.length_filter_le (fun x => !(x == z)) l
    by_cases e : a = z
    · subst e; simp; omega
    · have e' : (a == z) = false := by simpa using e
      have e2 : ¬ z = a := fun h => e h.symm
      simp [e', e2, ih]

set_option maxRecDepth 100000 in
set_option maxHeartbeats 4000000 in
theorem takeOut_ok {w : World} {b g : Nat} {O : Nat → Option Nat} {V : Nat → Value} {F : Nat → List Int} (p : Pl w b g O V F) (z : Int) (k : Nat) (hk : k < 7) :
    Calls Tryd.prog 87 #[pp b, .int .i64 z, .int .i64 k] w fun e w' => ∃ V', e = .returned (.bool (decide (z ∈ F k))) ∧ Pl w' b g O V' (putF F k ((F k).filter fun x => !(x == z))) ∧ Fr (own b O) w w' := by
  have hbl := lt_of_heap p.head
  have hc := p.cell hk
  have hr := p.row k hk
  obtain ⟨a0, c0, hv, hl, hm⟩ := hr.isSlice
  rw [hv] at hc hr
  have hOk : O k ≠ some w.heap.size := by
    intro e; obtain ⟨c', h'⟩ := p.row_block hk e; have := lt_of_heap h'; omega
  have hk' : (k : Int) < 7 := by omega
  have hne : b ≠ w.heap.size := by omega
  -- the world with the number that the closure holds
  have key : ∀ W : World, W.heap = (w.alloc (.cells #[.int .i64 z] 3)).heap → Calls Tryd.prog 119 #[.slice a0 (F k).length c0, .func (.func 120) #[] #[.pointer (some ⟨w.heap.size, 0, none⟩)]] W fun e w' => ∃ a c, e = .returned (.slice a ((F k).filter fun x => !(x == z)).length c) ∧ RowAt w' (O k) (.slice a ((F k).filter fun x => !(x == z)).length c) ((F k).filter fun x => !(x == z)) ∧ Fr (fun i => O k = some i) W w' ∧ w'.cell? ⟨b, k, none⟩ = some (.slice a0 (F k).length c0) ∧ w'.frozen? ⟨b, k, none⟩ = false := by
    intro W hW
    have hbW : W.heap[b]? = w.heap[b]? := by rw [hW]; exact Below.heap_alloc _ _ _ hbl
    refine (del_row (xs := F k) ?_ w.heap.size z ?_ hOk).mono ?_
    rotate_left 2
    · rintro e w' ⟨a, c, he, hr', hf⟩
      have e1 : w'.heap[b]? = w.heap[b]? := (hf.block b (by rw [hW]; simp; omega) (fun e => p.ne_b hk e rfl)).trans hbW
      exact ⟨a, c, he, hr', hf, by rw [World.cell?_of_block (w := w) (a := ⟨b, k, none⟩) e1]; exact hc, by rw [World.frozen?_of_block (w := w) (a := ⟨b, k, none⟩) e1]; exact p.free k⟩
    · exact hr.keep (fun s hs => by rw [hW]; exact Below.heap_alloc _ _ _ (by obtain ⟨c', h'⟩ := p.row_block hk hs; exact lt_of_heap h'))
    · rw [World.cell?_of_block (w := w.alloc (.cells #[.int .i64 z] 3)) (by rw [hW])]; simp
  have hcw : (w.alloc (.cells #[.int .i64 z] 3)).cell? ⟨b, k, none⟩ = some (.slice a0 (F k).length c0) := by
    rw [World.cell?_of_block (w := w) (a := ⟨b, k, none⟩) (Below.heap_alloc _ _ _ hbl)]; exact hc
  -- what the store makes of it
  have fin : ∀ (W w' : World) (a' : Option Addr) (c' : Nat), W.heap = (w.alloc (.cells #[.int .i64 z] 3)).heap → W.os = w.os → W.tape = w.tape → W.output = w.output → RowAt w' (O k) (.slice a' ((F k).filter fun x => !(x == z)).length c') ((F k).filter fun x => !(x == z)) → Fr (fun i => O k = some i) W w' →
      (∃ V' a2 c2, Pl (w'.setCell ⟨b, k, none⟩ (.slice a' ((F k).filter fun x => !(x == z)).length c')) b g O V' (putF F k ((F k).filter fun x => !(x == z))) ∧ Fr (own b O) w (w'.setCell ⟨b, k, none⟩ (.slice a' ((F k).filter fun x => !(x == z)).length c')) ∧ V' k = .slice a2 ((F k).filter fun x => !(x == z)).length c2) := by
    intro W w' a' c' hW h1 h2 h3 hr' hf
    have hf' : Fr (fun i => O k = some i) w w' := (show Fr (fun i => O k = some i) w W from ⟨h1, h2, h3, by rw [hW]; simp, fun i hi _ => by rw [hW]; exact Below.heap_alloc _ _ _ hi⟩).trans hf (fun _ _ h => h)
    obtain ⟨t1, t2, t3⟩ := p.turn hk (O k) _ _ hf' (.inl rfl) hr'
    have e : (fun j => if j = k then O k else O j) = O := by funext j; split <;> simp_all
    rw [e] at t1
    exact ⟨_, a', c', t1, t2, by simp [putV]⟩
  clear hr
  go_enter Tryd.func87, Tryd.ntmps87
  go_upto_region 2 with fail
  go_cut [] (fun wx => ∃ V' a' c', Pl wx b g O V' (putF F k ((F k).filter fun x => !(x == z))) ∧ Fr (own b O) w wx ∧ V' k = .slice a' ((F k).filter fun x => !(x == z)).length c')
  case first =>
    go_region_with (go_at_call 119; refine (key _ (by rfl)).mono ?_; rintro e w1 ⟨a1, c1, rfl, hr1, hf1, hc1, hz1⟩)
    all_goals
      go_wp2_with fail
      go_meet
      case rel => exact fin _ _ _ _ (by rfl) (by rfl) (by rfl) (by rfl) hr1 hf1
  case rest =>
    obtain ⟨V', a', c', p', f', hV⟩ := hcut
    have hc' := p'.cell hk
    rw [hV] at hc'
    clear key fin hcw hc
    go_wp2_with fail
    go_ret
    exact ⟨V', by simp only [← filt_len (F k) z]; simp, p', f'⟩
end Go.Proofs.YtcllfedpdcjbcaaDoor
