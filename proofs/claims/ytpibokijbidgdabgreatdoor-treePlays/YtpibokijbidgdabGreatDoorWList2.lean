/- The document's own tree: List, by its Go text. -/
import Derived.Test.YtpibokijbidgdabGreatDoorWRename
import Derived.Test.YtpibokijbidgdabGreatDoorShelfS
import Derived.Sort.OwnSorted
namespace Go.Proofs.YtpibokijbidgdabGreatDoor
open Go.RowKit Go.Maps Go.Sort

/-- Texts in an array of the call's own. -/
def TxL (w : World) (B : Nat) (v : Value) (L : List Nm) : Prop := w.ownsRow B 9 1 v L.length (L.map encStr)
theorem strings_ok {w : World} {B : Nat} {v : Value} {L : List Nm} (h : TxL w B v L) (hl : L.length ≤ 100000) :
    Calls Tryz.prog 61 #[v] w fun e w' => e = .returned (.tuple #[]) ∧ TxL w' B v (inOrder L) ∧ Below B w w' := by
  have hh := h
  unfold TxL at hh
  have hml : (inOrder L).length = L.length := List.length_mergeSort L
  rcases hh.2 with ⟨rfl, h0⟩ | ⟨g, cap, cur, rfl, hbase, hb, h1, h2, h3, h4⟩
  · have e : L = [] := List.length_eq_zero_iff.1 h0
    subst e
    refine (Any.sort_Strings_none Tryz.sortStrL none 0 w).mono ?_
    rintro e w' ⟨rfl, rfl⟩
    exact ⟨rfl, by simpa using h, Below.refl _ _⟩
  · have hg := (Array.getElem?_eq_some_iff.1 hb).1
    refine (Any.sort_Strings Tryz.sortStrL g 0 cap L w (holds_of_block hb (by simpa using h4)) hg (by omega)).mono ?_
    rintro e w' ⟨rfl, n, os, rfl⟩
    refine ⟨rfl, ?_, ?_⟩
    · unfold TxL
      have := ownsRow_sorted (w := w) (n := n) (os := os) (ts := inOrder L) hml hbase hb h1 h2 h3
      rw [hml]; exact this
    · have hgr := grownBy_sorted (w := w) (g := g) (n := n) (os := os) (inOrder L).toArray
      exact ⟨hgr.os, hgr.tape, hgr.output, hgr.size, fun k hk => hgr.block k (by omega) (fun e => by have := Option.some.inj e; omega)⟩

section
variable {w w' : World} {r gN s : Nat} {T : Wd} {G : Int → Nat}

set_option maxRecDepth 100000 in
set_option maxHeartbeats 4000000 in
theorem RTr.list_no (h : RTr w r gN s T G) (hT : TrOk T) (p : List UInt8) (hp : p.length < 100000) (m : Int) (hm : w.cell? ⟨2, 0, none⟩ = some (.int .i64 m)) (hE : listE T p ≠ 0) :
    Calls Tryz.prog 32 #[wp r, tx p] w fun e w' => e = .returned (.tuple #[.slice none 0 0, .int .i64 (listE T p)]) ∧ Below w.heap.size w w' := by
  have hF := h.find_ok hT p hp m hm
  have hsome := findT_some hT (p := p)
  obtain ⟨E, hEE⟩ : ∃ E, listE T p = E := ⟨_, rfl⟩
  rw [hEE] at hE ⊢
  unfold listE at hEE
  generalize findT T p = F at *
  obtain ⟨n, f⟩ := F
  simp only at hF hEE hsome
  by_cases hf : f = 0
  · subst hf
    rw [if_neg (fun e => e rfl)] at hEE
    have hs := hsome rfl
    have hkey := hT.key n hs
    have hwf : (Lit.int .i64 n).wf = true := wf_few hkey.1 (by omega)
    cases hn : T n with
    | none => rw [hn] at hs; cases hs
    | some nd => cases nd with
      | dir C => rw [if_pos (by unfold isDirT; rw [hn])] at hEE; exact absurd hEE.symm hE
      | file b x =>
        rw [if_neg (by unfold isDirT; rw [hn]; simp)] at hEE
        subst hEE
        go_enter Tryz.func32, Tryz.ntmps32
        go_wp2_with fail
        refine hF.mono ?_
        rintro e w1 ⟨rfl, b1⟩
        have h1 := h.below b1
        have c1 := h1.c0
        have hlk : (Instr.lookup 33 (.map (some gN)) (.int .i64 n) false).run Tryz.prog w1 = .ok (.agg #[.map none, .bool false, tx b, .int .i64 (x : Int)]) w1 := by
          rw [h1.map.look Tryz.underlying33 (zero_node _) n hwf, node_file (G := G) hn]
        have f1 := node_f1 none false b (x : Int)
        clear hF
        go_wp2_with fail
        go_ret2
        exact ⟨rfl, b1⟩
  · rw [if_pos hf] at hEE
    subst hEE
    have hq : (f == 0) = false := by simp [hf]
    go_enter Tryz.func32, Tryz.ntmps32
    go_wp2_with fail
    refine hF.mono ?_
    rintro e w1 ⟨rfl, b1⟩
    clear hF
    go_wp2_with fail
    go_ret2
    exact ⟨rfl, b1⟩
end
end Go.Proofs.YtpibokijbidgdabGreatDoor

namespace Go.Proofs.YtpibokijbidgdabGreatDoor
open Go.RowKit Go.Maps Go.Sort

section
variable {w w' : World} {r gN s : Nat} {T : Wd} {G : Int → Nat}

set_option maxRecDepth 100000 in
set_option maxHeartbeats 4000000 in
theorem RTr.list_ok (h : RTr w r gN s T G) (hT : TrOk T) (p : List UInt8) (hp : p.length < 100000) (m : Int) (hm : w.cell? ⟨2, 0, none⟩ = some (.int .i64 m)) {C : List (Nm × Int)} (hE : (findT T p).2 = 0) (hn : T (findT T p).1 = some (.dir C)) (hCl : C.length ≤ 1000) :
    Calls Tryz.prog 32 #[wp r, tx p] w fun e w' => ∃ v, e = .returned (.tuple #[v, .int .i64 0]) ∧ ∃ L : List Nm, TxL w' w.heap.size v (inOrder L) ∧ L.Nodup ∧ (∀ x, x ∈ L ↔ (C.lookup x).isSome = true) ∧ Below w.heap.size w w' := by
  have hF := h.find_ok hT p hp m hm
  generalize findT T p = F at *
  obtain ⟨n, f⟩ := F
  simp only at hF hE hn
  subst hE
  have hkey := hT.key n (by rw [hn]; rfl)
  have hwf : (Lit.int .i64 n).wf = true := wf_few hkey.1 (by omega)
  obtain ⟨i0, hi, hz0, hz1, hz2⟩ := info_parts (P := Tryz.prog) (e := 9) (z := tx []) (size := 1) (bytes := 16) (by kernel_rfl)
  go_enter Tryz.func32, Tryz.ntmps32
  go_wp2_with fail
  refine hF.mono ?_
  rintro e w1 ⟨rfl, b1⟩
  have h1 := h.below b1
  have c1 := h1.c0
  have hSm := h1.dirs n C hn
  have hlk : (Instr.lookup 33 (.map (some gN)) (.int .i64 n) false).run Tryz.prog w1 = .ok (.agg #[.map (some (G n)), .bool true, tx [], .int .i64 0]) w1 := by
    rw [h1.map.look Tryz.underlying33 (zero_node _) n hwf, node_dir (G := G) hn]
  have f1 := node_f1 (some (G n)) true [] 0
  have f0 := node_f0 (some (G n)) true [] 0
  clear hF
  go_wp2_with (at_range; refine wpList_srange rfl _ 62 rfl 3 Tryz.underlying62 (G n) _ _ rfl hSm ?_; intro w2 hr2 hg2 hs2)
  go_frame
  have b2 : Below w.heap.size w w2 := b1.grown hg2 b1.size (fun k e => by cases e)
  obtain ⟨it, hit⟩ : ∃ it, w1.heap.size = it := ⟨_, rfl⟩
  have hiB : w.heap.size ≤ it := by rw [← hit]; exact b1.size
  have hGl : G n < w.heap.size := (h.dirs n C hn).lt
  rw [hit] at hr2 ⊢
  clear hg2 hs2 hSm hlk c1 h1 b1 hit
  go_loopg [8] C.length (fun mm s8 wr => ∃ left L, SRng wr (G n) it C.length (fun nm => (C.lookup nm).map (.int .i64 ·)) left mm ∧ TxL wr w.heap.size s8 L ∧ L.Nodup ∧ (∀ x, x ∈ L ↔ (C.lookup x).isSome = true ∧ left x = false) ∧ L.length + mm ≤ C.length ∧ Below w.heap.size w wr)
  case atStart => exact ⟨_, [], hr2, World.ownsRow_nil _ _ _ _, List.nodup_nil, fun x => by cases C.lookup x <;> simp, by simp, b2⟩
  case round =>
    clear hr2 b2
    obtain ⟨left, L, hrg, hL, hnd, hmem, hlen, b3⟩ := hrel
    go_wp2_with (at_next; refine wpList_snext rfl _ rfl (G n) it _ _ _ _ rfl hrg ?_ ?_)
    · intro hl
      have hst := strings_ok hL (by omega)
      clear hrg
      go_wp2_with fail
      refine hst.mono ?_
      rintro e w4 ⟨rfl, hL4, b4⟩
      clear hst
      go_wp2_with fail
      go_ret2
      exact ⟨_, rfl, L, hL4, hnd, fun x => by rw [hmem x]; simp [hl x], b3.trans b4⟩
    · intro y v w4 cnt4 hwy hty k hk hv hrg4 hlt hg4 hs4 hen
      subst hv
      have hitl := hrg.rlt
      have hne : some it ≠ u8.ownBlock := by
        obtain ⟨D, lf, hrr, _⟩ := hrg
        exact row_ne_iter hL hrr
      have hlow : some (G n) ≠ u8.ownBlock := row_ne_low hL hGl
      have b4 : Below w.heap.size w w4 := below_grown b3 b3.size hg4 hiB
      have hL4 : TxL w4 w.heap.size u8 L := World.ownsRow.kept hL hg4 (.inr (fun e => hne e.symm))
      have hLA := World.ownsRow.alloc hL4 (.cells #[tx y] 9)
      have bA : Below w.heap.size w (w4.alloc (.cells #[tx y] 9)) := b4.alloc b4.size _
      have hsA : (w4.alloc (.cells #[tx y] 9)).heap.size = w4.heap.size + 1 := by show (w4.heap.push _).size = _; rw [Array.size_push]
      have hnews : ∀ j u, [tx y][j]? = some u → (w4.alloc (.cells #[tx y] 9)).cell? ((⟨w4.heap.size, 0, none⟩ : Addr).add j) = some u := fun j u e => by
        have hnw : (w4.alloc (.cells #[tx y] 9)).heap[w4.heap.size]? = some (.cells #[tx y] 9) := by
          show (w4.heap.push _)[w4.heap.size]? = _
          rw [Array.getElem?_push, if_pos rfl]
        cases j with
        | zero => rw [List.getElem?_cons_zero] at e; cases e; rw [Addr.add_lit, cell_of_row _ _ _ _ _ _ hnw]; rfl
        | succ j => simp at e
      have h1c : ∀ u ∈ [tx y], u.oneCell' = true := fun u hu => by rw [List.mem_singleton] at hu; subst hu; rfl
      have h63 : L.length + 1 ≤ maxLen := by unfold maxLen; omega
      have hby : (L.length + 1) * 16 ≤ 140737488355328 := by omega
      have hbase : w.heap.size ≤ (w4.alloc (.cells #[tx y] 9)).heap.size := by rw [hsA]; have := b4.size; omega
      have hrgA := hrg4.keep (w' := w4.alloc (.cells #[tx y] 9)) (Below.heap_alloc _ _ _ hrg4.map.lt) (Below.heap_alloc _ _ _ hrg4.rlt)
      rw [hs4] at hnews
      clear hrg hL b3 hg4 hL4 b4 hrg4 hsA
      go_wp2_with (at_builtin; refine wpList_append_own _ rfl _ _ 45 rfl w.heap.size 9 i0 (tx []) 1 16 Tryz.underlying45 hi hz0 hz1 hz2 rfl (by decide) _ _ _ rfl hLA ⟨wr.heap.size, 0, none⟩ 1 1 [tx y] rfl rfl hnews h1c h63 hby hbase ?_; intro v5 w5 ho5 hg5 hnil5)
      have hrg5 := hrgA.keep (w' := w5) (hg5.block _ hrgA.map.lt hlow) (hg5.block _ hrgA.rlt hne)
      have b5 : Below w.heap.size w w5 := bA.grown hg5 bA.size (fun k e => (World.ownsRow.lt hLA k e).1)
      have hL5 : TxL w5 w.heap.size v5 (L ++ [y]) := by
        unfold TxL; rw [List.length_append, List.map_append]; exact ho5
      have hny : y ∉ L := fun e => by have := (hmem y).1 e; rw [hty] at this; cases this.2
      go_roundg cnt4
      case measure => exact hlt
      case rel => exact ⟨_, L ++ [y], hrg5, hL5, by
        rw [List.nodup_append]
        exact ⟨hnd, by simp, fun a ha b hb => by rw [List.mem_singleton] at hb; subst hb; exact fun e => hny (e ▸ ha)⟩, fun x => by
        rw [List.mem_append, List.mem_singleton, hmem x]
        by_cases e : x = y
        · subst e; simp [hk]
        · simp [e], by rw [List.length_append, List.length_singleton]; omega, b5⟩
end
end Go.Proofs.YtpibokijbidgdabGreatDoor
