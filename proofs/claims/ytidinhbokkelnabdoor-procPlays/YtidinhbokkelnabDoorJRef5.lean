/- The document's own Pids, by its Go text. -/
import Derived.Test.YtidinhbokkelnabDoorJRef4
import Derived.Test.YtidinhbokkelnabDoorShelf7
import Derived.Lib.SlKeysI
import Derived.Maps.AppendAt
namespace Go.Proofs.YtidinhbokkelnabDoor
open Go.RowKit Go.Maps Go.Sort Go.Shelf Go.Lib

/-- Between two rounds. -/
def PdR (w : World) (G : JG) (P : Ps) (c cnt : Nat) (v : Value) (wr : World) : Prop :=
  ∃ (todo : Int → Bool) (L : List Int), PRng wr G.g w.heap.size c (fun n => (P n).map (fun p => prv p (G.W n) (G.I n))) todo cnt ∧ wr.ownsRow (w.heap.size + 1) 3 1 v L.length (L.map encZ) ∧ L.Nodup ∧ (∀ x, x ∈ L ↔ (P x).isSome = true ∧ todo x = false) ∧ Below w.heap.size w wr
section
variable {w w' : World} {t c : Nat} {P : Ps} {G : JG}
theorem PdR.len {L : List Int} {todo : Int → Bool} (ok : JOk P) (h : L.Nodup) (hm : ∀ x, x ∈ L ↔ (P x).isSome = true ∧ todo x = false) : L.length ≤ 24 := by
  have := int_sub h (b := pidsJ P) (fun x hx => ok.pids.2 ((hm x).1 hx).1)
  have := pidsJ_len P
  omega
set_option maxRecDepth 100000 in
set_option maxHeartbeats 4000000 in
theorem RJ.pids (h : RJ w t P G c) : Calls Tryd.prog 64 #[wp t] w fun e w' => ∃ b cap, e = .returned (.slice (some ⟨b, 0, none⟩) (pidsJ P).length cap) ∧ (pidsJ P).length ≤ cap ∧ w.heap.size ≤ b ∧ b < w'.heap.size ∧ (∀ j (hj : j < (pidsJ P).length), w'.cell? ⟨b, j, none⟩ = some (.int .i64 (pidsJ P)[j])) ∧ Below w.heap.size w w' := by
  have c0 := h.c0
  have hm := h.map
  obtain ⟨i0, hi, hz0, hz1, hz2⟩ := info_parts (P := Tryd.prog) (e := 3) (z := .int .i64 0) (size := 1) (bytes := 8) (by kernel_rfl)
  have hC : ∀ w0, PRng w0 G.g w.heap.size c (fun n => (P n).map (fun p => prv p (G.W n) (G.I n))) (fun x => ((P x).map (fun p => prv p (G.W x) (G.I x))).isSome) c → w.grownBy w0 none → PdR w G P c c (.slice none 0 0) w0 := fun w0 hr hg =>
    ⟨_, [], hr, ⟨rfl, .inl ⟨rfl, rfl⟩⟩, List.nodup_nil, fun x => by
      cases P x <;> simp, ⟨hg.os, hg.tape, hg.output, hg.size, fun i hi => hg.block i hi (by simp)⟩⟩
  go_enter Tryd.func64, Tryd.ntmps64
  go_wp2_with (at_range; refine wpList_krange rfl _ 115 rfl 114 Tryd.underlying115 G.g _ _ rfl hm ?_; intro w0 hr0 hg0 hs0)
  have hC0 := hC w0 hr0 hg0
  go_frame
  clear hC hr0 hg0 hs0 hm c0
  go_loopg [3] c (fun mm s3 wr => PdR w G P c mm s3 wr)
  case atStart => exact hC0
  case round =>
    clear hC0
    obtain ⟨todo, L, hrg, row, nd, hmem, bel⟩ := hrel
    have hlen := PdR.len h.ok nd hmem
    have hgG : G.g < w.heap.size := h.map.lt
    go_wp2_with (at_next; refine wpList_knext rfl _ rfl G.g w.heap.size _ _ _ _ rfl hrg ?_ ?_)
    · intro hl
      have hall : L.mergeSort (fun x y => decide (x ≤ y)) = pidsJ P := risingJ (sortedJ nd) (pidsJ_rising P) (fun x => by rw [(List.mergeSort_perm L _).mem_iff, h.ok.pids, hmem x]; simp [hl x])
      have hlp : L.length = (pidsJ P).length := by rw [← hall, List.length_mergeSort]
      have h1 : 0 < L.length := by
        obtain ⟨p1, e1, _⟩ := h.ok.one
        exact List.length_pos_of_mem ((hmem 1).2 ⟨by rw [e1]; rfl, hl 1⟩)
      rcases row.2 with ⟨_, hz⟩ | ⟨g7, cap7, cur, rfl, hN, hg, r1, r2, r3, r4⟩
      · omega
      have hH : Holds (Value.int .i64) wr g7 0 L.toArray := holds_of_block_i hg (by simpa using r4)
      have hS := Any.sort_Ints Tryd.intsL g7 0 cap7 L wr hH (lt_of_block hg) (by omega)
      rw [hall] at hS
      have hfin : ∀ nn os, (∀ j (hj : j < (pidsJ P).length), (Sort.grow (putRow encZ (Sort.ahead wr nn) g7 0 (pidsJ P).toArray) os).cell? ⟨g7, j, none⟩ = some (.int .i64 (pidsJ P)[j])) ∧ Below w.heap.size w (Sort.grow (putRow encZ (Sort.ahead wr nn) g7 0 (pidsJ P).toArray) os) ∧ g7 < (Sort.grow (putRow encZ (Sort.ahead wr nn) g7 0 (pidsJ P).toArray) os).heap.size := fun nn os => by
        have g9 := grownBy_sorted_i (w := wr) (g := g7) (n := nn) (os := os) (pidsJ P).toArray
        have hs := bel.size
        refine ⟨fun j hj => ?_, ⟨g9.os.trans bel.os, g9.tape.trans bel.tape, g9.output.trans bel.output, Nat.le_trans hs g9.size, fun i hi => (g9.block i (by omega) (fun e => by have := Option.some.inj e; omega)).trans (bel.block i hi)⟩, Nat.lt_of_lt_of_le (lt_of_block hg) g9.size⟩
        have ho := ownsRow_sorted_i (n := nn) (os := os) (ts := pidsJ P) hlp.symm hN hg r1 r2 r3
        have := ho.cells (g := g7) rfl j (.int .i64 (pidsJ P)[j]) (by rw [List.getElem?_map, List.getElem?_eq_getElem hj]; rfl)
        rw [Addr.add_lit, Nat.zero_add] at this
        exact this
      have HLP : Aside (L.length = (pidsJ P).length) := hlp
      clear hrg row hmem hl hH hall r4 hlp
      go_wp2_with fail
      refine hS.mono ?_
      rintro e w9 ⟨rfl, nn, os, rfl⟩
      go_wp2_with fail
      go_ret
      obtain ⟨f1, f2, f3⟩ := hfin nn os
      have hlp := HLP.out
      exact ⟨g7, cap7, by rw [← hlp]; rfl, by omega, by omega, f3, f1, f2⟩
    · intro x v w1 cnt1 hwx htx p hPx hv hrg1 hlt hg1 hs1 hen
      have row1 : w1.ownsRow (w.heap.size + 1) 3 1 u3 L.length (L.map encZ) := row.kept hg1 (by
        cases e : u3.ownBlock with
        | none => exact .inl rfl
        | some g => refine .inr (fun z => ?_)
                    have := (row.lt g e).1
                    have := Option.some.inj z; omega)
      have hz := bel.size
      have hrl := hrg.rlt
      have hstep : ∀ v3 w3, w3.ownsRow (w.heap.size + 1) 3 1 v3 (L.length + 1) (L.map encZ ++ [.int .i64 x]) → (w1.alloc (.cells #[.int .i64 x] 3)).grownBy w3 u3.ownBlock → PdR w G P c cnt1 v3 w3 := fun v3 w3 ho3 hg3 => by
        have hgr : ∀ i, i < w1.heap.size → u3.ownBlock ≠ some i → w3.heap[i]? = w1.heap[i]? := fun i hi hne => (hg3.block i (by simp; omega) (fun e => hne e.symm)).trans (Below.heap_alloc _ _ _ hi)
        have hub : ∀ i, u3.ownBlock = some i → w.heap.size + 1 ≤ i := fun i hi => (row.lt i hi).1
        refine ⟨_, L ++ [x], hrg1.keep (hgr _ (by have := hrg1.map.lt; omega) (fun e => ?_)) (hgr _ (by omega) (fun e => by have := hub _ e; omega)), by rw [List.length_append, List.map_append]; exact ho3, ?_, fun y => ?_, ?_⟩
        · have := hub _ e; have := hgG; omega
        · exact List.nodup_append.2 ⟨nd, by simp, fun a ha b hb => by
            rw [List.mem_singleton] at hb; subst hb
            intro e; subst e
            have := ((hmem a).1 ha).2; rw [htx] at this; cases this⟩
        · rw [List.mem_append, List.mem_singleton, hmem y]
          by_cases e : y = x
          · subst e; simp [hPx]
          · simp [e]
        · refine ⟨hg3.os.trans (hg1.os.trans bel.os), hg3.tape.trans (hg1.tape.trans bel.tape), hg3.output.trans (hg1.output.trans bel.output), ?_, fun i hi => ?_⟩
          · have := hg3.size; simp at this; omega
          · rw [hgr i (by omega) (fun e => by have := hub _ e; omega), hg1.block i (by omega) (fun e => by have := Option.some.inj e; omega)]
            exact bel.block i hi
      have hb1 : w.heap.size + 1 ≤ (w1.alloc (.cells #[.int .i64 x] 3)).heap.size := by simp; omega
      clear hmem hs1 hg1 hrg1
      go_wp2_with (at_builtin; refine wpList_append_own_at _ rfl _ _ 23 rfl (w.heap.size + 1) 3 i0 (.int .i64 0) 1 8 Tryd.underlying23 hi hz0 hz1 hz2 rfl (by decide) _ _ _ rfl (World.ownsRow.alloc row1 _) ⟨w1.heap.size, 0, none⟩ 1 1 [.int .i64 x] rfl rfl (cell_one_new _ _ _) (by simp [Value.oneCell']) (by unfold maxLen; omega) (by omega) hb1 ?_; intro v3 w3 ho3 hg3 hnil3 hv3)
      go_roundg cnt1
      case measure => exact hlt
      case rel => exact hstep v3 w3 ho3 hg3
end
end Go.Proofs.YtidinhbokkelnabDoor
