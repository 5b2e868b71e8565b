/- A tree plainly: how many names lead to a node; what no name leads to, and nobody holds, goes. -/
import Derived.Test.YtcfhanoekniaaaaGreatDoorQTab
import Derived.Test.YtcfhanoekniaaaaGreatDoorVLen
import Derived.Test.YtcfhanoekniaaaaGreatDoorUPath
import Derived.ArgAppend
import Derived.Lib.ConvBytes
import Derived.Lib.LazyBuf
import Derived.Laws.IdiomStrings
import Derived.BigQuiet
import Derived.Deep.QuietTactic
namespace Go.Proofs.YtcfhanoekniaaaaGreatDoor
open Go.RowKit Go.Maps

/-- How many names of one node lead to k. -/
def cnt1 : Option Nd → Int → Nat
  | some (.dir C), k => (C.filter (fun x => decide (x.2 = k))).length
  | _, _ => 0
def cntTo (T : Wd) (k : Int) : Nat → Nat
  | 0 => 0
  | m + 1 => cntTo T k m + cnt1 (T m) k
/-- How many names lead to k. -/
def cntT (T : Wd) (k : Int) : Nat := cntTo T k 64

theorem cntTo_same {T T' : Wd} {k : Int} : ∀ m : Nat, (∀ i : Nat, i < m → cnt1 (T' i) k = cnt1 (T i) k) → cntTo T' k m = cntTo T k m
  | 0, _ => rfl
  | m + 1, h => by rw [cntTo, cntTo, cntTo_same m (fun i hi => h i (by omega)), h m (by omega)]
theorem cntTo_one {T T' : Wd} {k : Int} {d : Nat} (hd : ∀ i : Nat, i ≠ d → cnt1 (T' i) k = cnt1 (T i) k) : ∀ m : Nat, d < m → cntTo T' k m + cnt1 (T d) k = cntTo T k m + cnt1 (T' d) k
  | 0, h => by omega
  | m + 1, h => by
    rw [cntTo, cntTo]
    by_cases e : m = d
    · subst e
      rw [cntTo_same m (fun i hi => hd i (by omega))]; omega
    · have := cntTo_one hd m (by omega)
      rw [hd m e]; omega
theorem cntT_same {T T' : Wd} {k : Int} (h : ∀ i, cnt1 (T' i) k = cnt1 (T i) k) : cntT T' k = cntT T k := cntTo_same 64 (fun i _ => h i)

theorem cntTo_pos {T : Wd} {k : Int} : ∀ m : Nat, cntTo T k m ≠ 0 → ∃ i : Nat, i < m ∧ cnt1 (T i) k ≠ 0
  | 0, h => absurd rfl h
  | m + 1, h => by
    rw [cntTo] at h
    by_cases e : cnt1 (T m) k = 0
    · obtain ⟨i, hi, h2⟩ := cntTo_pos (T := T) (k := k) m (fun e0 => h (by rw [e0, e]))
      exact ⟨i, by omega, h2⟩
    · exact ⟨m, by omega, e⟩
theorem cntTo_ge {T : Wd} {k : Int} {i : Nat} : ∀ m : Nat, i < m → cnt1 (T i) k ≤ cntTo T k m
  | 0, h => by omega
  | m + 1, h => by
    rw [cntTo]
    by_cases e : i = m
    · subst e; omega
    · have := cntTo_ge (T := T) (k := k) m (show i < m by omega); omega

theorem cnt1_pos {C : List (Nm × Int)} {k : Int} (h : cnt1 (some (.dir C)) k ≠ 0) : ∃ s, (s, k) ∈ C := by
  unfold cnt1 at h
  obtain ⟨⟨s, n⟩, hx⟩ := List.exists_mem_of_length_pos (Nat.pos_of_ne_zero h)
  rw [List.mem_filter] at hx
  have e : n = k := by simpa using hx.2
  exact ⟨s, by rw [← e]; exact hx.1⟩
theorem cnt1_mem {C : List (Nm × Int)} {s : Nm} {k : Int} (h : (s, k) ∈ C) : cnt1 (some (.dir C)) k ≠ 0 := by
  unfold cnt1
  exact Nat.ne_of_gt (List.length_pos_of_mem (List.mem_filter.2 ⟨h, by simp⟩))
theorem mem_lookup : ∀ {C : List (Nm × Int)} {s : Nm} {n : Int}, (C.map (·.1)).Nodup → (s, n) ∈ C → C.lookup s = some n
  | (a, b) :: C, s, n, hn, h => by
    rw [List.map_cons, List.nodup_cons] at hn
    rcases List.mem_cons.1 h with e | h
    · cases e; simp [List.lookup]
    · have hne : s ≠ a := fun e => hn.1 (by rw [← e]; exact List.mem_map.2 ⟨(s, n), h, rfl⟩)
      have : (s == a) = false := by simp [hne]
      rw [List.lookup, this]
      exact mem_lookup hn.2 h
/-- Led, by its count. -/
theorem led_cnt {T : Wd} (hT : TrOk T) (n : Int) : Led T n ↔ n = 0 ∨ cntT T n ≠ 0 := by
  unfold Led
  constructor
  · rintro (h | ⟨k, C, s, hk, hl⟩)
    · exact .inl h
    · right
      have hkey := hT.key k (by rw [hk]; rfl)
      obtain ⟨e, rfl⟩ : ∃ e : Nat, k = e := ⟨k.toNat, by omega⟩
      have h1 := cnt1_mem (lookup_mem hl)
      have h2 := cntTo_ge (T := T) (k := n) (i := e) 64 (by omega)
      rw [hk] at h2
      unfold cntT; omega
  · rintro (h | h)
    · exact .inl h
    · right
      obtain ⟨i, _, hi⟩ := cntTo_pos 64 h
      cases hd : T (i : Int) with
      | none => rw [hd] at hi; exact absurd rfl hi
      | some nd => cases nd with
        | file b x => rw [hd] at hi; exact absurd rfl hi
        | dir C =>
          rw [hd] at hi
          obtain ⟨s, hs⟩ := cnt1_pos hi
          exact ⟨i, C, s, hd, mem_lookup (hT.nodup _ _ hd) hs⟩

/-- What holds of every tree besides: nothing leads to the first node, and all are led to, or held. -/
structure TrLv (T : Wd) : Prop extends TrOk T where
  nr : cntT T 0 = 0
  lv : ∀ k nd, T k = some nd → k = 0 ∨ cntT T k ≠ 0 ∨ heldT nd ≠ 0

/-- One node gone. -/
def eraT (T : Wd) (n : Int) : Wd := fun k => if k = n then none else T k
theorem eraT_other {T : Wd} {n k : Int} (h : k ≠ n) : eraT T n k = T k := if_neg h
theorem eraT_same (T : Wd) (n : Int) : eraT T n n = none := if_pos rfl

theorem cnt_setF {T : Wd} {n : Int} {b b' : List UInt8} {x x' : Nat} (h : T n = some (.file b x)) (k : Int) : cntT (setT T n (.file b' x')) k = cntT T k := cntT_same (fun i => by
  by_cases e : i = n
  · subst e; rw [setT_same, h]; rfl
  · rw [setT_other _ e])
theorem cnt_era {T : Wd} {n : Int} (h : ∀ k, cnt1 (T n) k = 0) (k : Int) : cntT (eraT T n) k = cntT T k := cntT_same (fun i => by
  by_cases e : i = n
  · subst e; rw [eraT_same, h]; rfl
  · rw [eraT_other e])
/-- What goes when all but n are led to, or held. -/
theorem sweep_one {T : Wd} (hT : TrOk T) (n : Int) (hl : ∀ k nd, k ≠ n → T k = some nd → k = 0 ∨ cntT T k ≠ 0 ∨ heldT nd ≠ 0) (nd : Nd) (hn : T n = some nd) (h0 : n ≠ 0) :
    sweepT T = if cntT T n = 0 ∧ heldT nd = 0 then eraT T n else T := by
  have hk : ∀ k, k ≠ n → sweepT T k = T k := fun k hk => sweepT_stay (fun nd h => by
    rcases hl k nd hk h with e | e | e
    · exact .inl ((led_cnt hT k).2 (.inl e))
    · exact .inl ((led_cnt hT k).2 (.inr e))
    · exact .inr e)
  funext k
  by_cases e : k = n
  · subst e
    by_cases hz : cntT T k = 0 ∧ heldT nd = 0
    · rw [if_pos hz, eraT_same]
      exact sweepT_go hn (fun h => by
        rcases h with h | h
        · rcases (led_cnt hT k).1 h with e | e
          · exact h0 e
          · exact e hz.1
        · exact h hz.2)
    · rw [if_neg hz]
      refine sweepT_stay (fun nd' h' => ?_)
      rw [hn] at h'; cases h'
      by_cases e1 : cntT T k = 0
      · exact .inr (fun e2 => hz ⟨e1, e2⟩)
      · exact .inl ((led_cnt hT k).2 (.inr e1))
  · rw [hk k e]
    split
    · rw [eraT_other e]
    · rfl
/-- And where all are led to, or held, nothing goes. -/
theorem sweep_none {T : Wd} (hT : TrOk T) (hl : ∀ k nd, T k = some nd → k = 0 ∨ cntT T k ≠ 0 ∨ heldT nd ≠ 0) : sweepT T = T := by
  funext k
  exact sweepT_stay (fun nd h => by
    rcases hl k nd h with e | e | e
    · exact .inl ((led_cnt hT k).2 (.inl e))
    · exact .inl ((led_cnt hT k).2 (.inr e))
    · exact .inr e)
end Go.Proofs.YtcfhanoekniaaaaGreatDoor

namespace Go.Proofs.YtcfhanoekniaaaaGreatDoor
open Go.RowKit

def u8s (l : List UInt8) : List Value := l.map fun x => Value.int .u8 (x.toNat : Int)
/-- A list of bytes in memory of its own, from block B on. -/
def Bfr (w : World) (B : Nat) (v : Value) (l : List UInt8) : Prop :=
  ∃ g cap, v = .slice (some ⟨g, 0, none⟩) l.length cap ∧ B ≤ g ∧ g < w.heap.size ∧ l.length ≤ cap ∧ (∀ j (h : j < l.length), w.cell? ⟨g, j, none⟩ = some (.int .u8 (l[j].toNat : Int))) ∧ ∀ j, j < cap → (w.cell? ⟨g, j, none⟩).isSome = true ∧ w.frozen? ⟨g, j, none⟩ = false

theorem u8s_get {l : List UInt8} {j : Nat} {u : Value} (h : (u8s l)[j]? = some u) : ∃ hj : j < l.length, u = .int .u8 (l[j].toNat : Int) := by
  unfold u8s at h
  rw [List.getElem?_map] at h
  cases e : l[j]? with
  | none => rw [e] at h; cases h
  | some x =>
    rw [e] at h
    obtain ⟨hj, hx⟩ := List.getElem?_eq_some_iff.1 e
    exact ⟨hj, by rw [hx]; exact (Option.some.inj h).symm⟩

section
variable {w w' : World} {B : Nat} {v : Value} {l : List UInt8}

end
end Go.Proofs.YtcfhanoekniaaaaGreatDoor

namespace Go.Proofs.YtcfhanoekniaaaaGreatDoor
open Go.RowKit

theorem below_setCells' {B b : Nat} {a : World} (hb : B ≤ b) : ∀ (vs : List Value) (o : Nat) (w : World), Below B a w → Below B a (w.setCells b o vs)
  | [], _, _, h => h
  | v :: r, o, _, h => below_setCells' hb r (o + 1) _ (h.setCell (p := ⟨b, o, none⟩) hb v)

section
variable {w w' : World} {B : Nat} {v : Value} {l : List UInt8}

end
end Go.Proofs.YtcfhanoekniaaaaGreatDoor

namespace Go.Proofs.YtcfhanoekniaaaaGreatDoor
open Go.RowKit Go.Maps

section
variable {w w' : World} {B : Nat} {v : Value} {l : List UInt8}
/-- A text copied in. -/
theorem Bfr.copy {g cap : Nat} (hv : v = .slice (some ⟨g, 0, none⟩) l.length cap) (h : Bfr w B v l) (a : Nat) (x : List UInt8) (hx : a + x.length ≤ l.length) (ty : TypeId) :
    (Builtin.copy_ #[300, 9] ty #[.slice (some ⟨g, a, none⟩) (l.length - a) (cap - a), tx x]).run Tryz.prog w = .ok (.int .i64 (x.length : Int)) (w.setCells g a (u8s x)) ∧ Bfr (w.setCells g a (u8s x)) B v (l.take a ++ x ++ l.drop (a + x.length)) ∧ B ≤ g := by
  obtain ⟨g', cap', e, hB, hlt, hcap, h1, h2⟩ := h
  rw [hv] at e
  cases e
  have hs : (⟨x.toArray⟩ : ByteArray).size = x.length := by simp [ByteArray.size]
  have hu : (u8s x).length = x.length := by unfold u8s; rw [List.length_map]
  have hc : ∀ j, j < (u8s x).length → (w.cell? ⟨g, a + j, none⟩).isSome = true := fun j hj => (h2 _ (by omega)).1
  refine ⟨?_, ⟨g, cap, ?_, hB, Nat.lt_of_lt_of_le hlt (below_setCells' (B := 0) (a := w) (Nat.zero_le _) _ _ _ (Below.refl _ _)).size, ?_, fun j hj => ?_, fun j hj => ?_⟩, hB⟩
  · have := run_copy_string (P := Tryz.prog) w 300 9 ty 5 g a (l.length - a) (cap - a) ⟨x.toArray⟩ Tryz.underlying300 (fun w => by kernel_rfl) (by rw [hs]; omega) (fun j hj => (h2 _ (by rw [hs] at hj; omega)).1) (fun j hj => (h2 _ (by rw [hs] at hj; omega)).2)
    rw [hs] at this
    exact this
  · rw [hv, List.length_append, List.length_append, List.length_take, List.length_drop]
    congr 1; omega
  · rw [List.length_append, List.length_append, List.length_take, List.length_drop]; omega
  · rw [List.length_append, List.length_append, List.length_take, List.length_drop] at hj
    by_cases e1 : j < a
    · rw [World.cell?_setCells_out _ _ _ _ _ (fun _ _ => .inl e1), List.getElem_append_left (by rw [List.length_append, List.length_take]; omega), List.getElem_append_left (by rw [List.length_take]; omega), List.getElem_take]
      exact h1 j (by omega)
    · by_cases e2 : j < a + x.length
      · obtain ⟨k, rfl⟩ : ∃ k, j = a + k := ⟨j - a, by omega⟩
        have hk : k < x.length := by omega
        have e : (l.take a ++ x ++ l.drop (a + x.length))[a + k]? = some x[k] := by
          rw [List.append_assoc, List.getElem?_append_right (by rw [List.length_take]; omega), List.length_take, show a + k - min a l.length = k by omega, List.getElem?_append_left hk, List.getElem?_eq_getElem hk]
        obtain ⟨_, e'⟩ := List.getElem?_eq_some_iff.1 e
        rw [World.cell?_setCells_in g (u8s x) a w hc k (by rw [hu]; omega), e']
        simp only [u8s, List.getElem_map]
      · have hk : j < l.length := by omega
        have e : (l.take a ++ x ++ l.drop (a + x.length))[j]? = some l[j] := by
          rw [List.getElem?_append_right (by rw [List.length_append, List.length_take]; omega), List.length_append, List.length_take, List.getElem?_drop, show a + x.length + (j - (min a l.length + x.length)) = j by omega, List.getElem?_eq_getElem hk]
        obtain ⟨_, e'⟩ := List.getElem?_eq_some_iff.1 e
        rw [World.cell?_setCells_out _ _ _ _ _ (fun _ _ => .inr (by rw [hu]; show _ ≤ j; omega)), e']
        exact h1 j hk
  · rw [World.frozen?_setCells]
    refine ⟨?_, (h2 j hj).2⟩
    by_cases e1 : j < a ∨ a + x.length ≤ j
    · rw [World.cell?_setCells_out _ _ _ _ _ (fun _ _ => by rw [hu]; exact e1)]; exact (h2 j hj).1
    · obtain ⟨k, rfl⟩ : ∃ k, j = a + k := ⟨j - a, by omega⟩
      rw [World.cell?_setCells_in g (u8s x) a w hc k (by rw [hu]; omega)]; rfl
end
end Go.Proofs.YtcfhanoekniaaaaGreatDoor

namespace Go.Proofs.YtcfhanoekniaaaaGreatDoor
open Go.RowKit Go.Maps

/-- Bytes that nobody writes any more. -/
def Dat (w : World) (v : Value) (b : List UInt8) : Prop :=
  (b = [] ∧ v = .slice none 0 0) ∨ ∃ g c, v = .slice (some ⟨g, 0, none⟩) b.length c ∧ b.length ≤ c ∧ g < w.heap.size ∧ ∀ j (h : j < b.length), w.cell? ⟨g, j, none⟩ = some (.int .u8 (b[j].toNat : Int))
/-- The block of a list. -/
def blkOf : Value → Option Nat
  | .slice (some a) _ _ => some a.block
  | _ => none
theorem Dat.keep {w w' : World} {v : Value} {b : List UInt8} (h : Dat w v b) (hk : ∀ i, blkOf v = some i → w'.heap[i]? = w.heap[i]?) (hs : w.heap.size ≤ w'.heap.size) : Dat w' v b := by
  rcases h with h | ⟨g, c, rfl, hc, hg, hi⟩
  · exact .inl h
  · exact .inr ⟨g, c, rfl, hc, by omega, fun j hj => by rw [World.cell?_of_block (w := w) (a := ⟨g, j, none⟩) (hk g rfl)]; exact hi j hj⟩
theorem Dat.lt {w : World} {v : Value} {b : List UInt8} (h : Dat w v b) {i : Nat} (hi : blkOf v = some i) : i < w.heap.size := by
  rcases h with ⟨_, rfl⟩ | ⟨g, c, rfl, _, hg, _⟩
  · cases hi
  · cases hi; exact hg

/-- A node's four cells. -/
def ncells (G : Int → Nat) (V : Int → Value) (Z : Int → Nat) (k : Int) : Nd → Array Value
  | .dir _ => #[.map (some (G k)), .slice none 0 0, .int .i64 (Z k : Int), .int .i64 0]
  | .file _ h => #[.map none, V k, .int .i64 (Z k : Int), .int .i64 (h : Int)]

/-- A tree at block r: its map, how many nodes, which block each node has, each directory's map, each file's bytes; what is its own. -/
structure PTr (w : World) (r gN s : Nat) (T : Wd) (Z : Int → Nat) (B G : Int → Nat) (V : Int → Value) (O : Nat → Prop) : Prop where
  head : w.heap[r]? = some (.cells #[.map (some gN)] 206)
  map : PMap w gN s (fun k => (T k).map (fun _ => wp (B k)))
  node : ∀ k nd, T k = some nd → w.heap[B k]? = some (.cells (ncells G V Z k nd) 337)
  dirs : ∀ k C, T k = some (.dir C) → SMap w (G k) C.length (fun nm => (C.lookup nm).map (.int .i64 ·))
  data : ∀ k b h, T k = some (.file b h) → Dat w (V k) b
  sep : ∀ k C, T k = some (.dir C) → G k ≠ gN
  inj : ∀ k k' C C', T k = some (.dir C) → T k' = some (.dir C') → G k = G k' → k = k'
  binj : ∀ k k', (T k).isSome = true → (T k').isSome = true → B k = B k' → k = k'
  ownR : O r
  ownN : O gN
  ownB : ∀ k, (T k).isSome = true → O (B k)
  ownG : ∀ k C, T k = some (.dir C) → O (G k)
  ownD : ∀ k b h i, T k = some (.file b h) → blkOf (V k) = some i → O i
  lt : ∀ i, O i → i < w.heap.size

section
variable {w w' : World} {r gN s : Nat} {T : Wd} {Z : Int → Nat} {B G : Int → Nat} {V : Int → Value} {O : Nat → Prop}

theorem PTr.keep (h : PTr w r gN s T Z B G V O) (hk : ∀ i, O i → w'.heap[i]? = w.heap[i]?) (hs : w.heap.size ≤ w'.heap.size) : PTr w' r gN s T Z B G V O :=
  ⟨(hk r h.ownR).trans h.head, h.map.keep (hk gN h.ownN), fun k nd e => (hk _ (h.ownB k (by rw [e]; rfl))).trans (h.node k nd e), fun k C e => (h.dirs k C e).keep (hk _ (h.ownG k C e)), fun k b x e => (h.data k b x e).keep (fun i hi => hk i (h.ownD k b x i e hi)) hs, h.sep, h.inj, h.binj, h.ownR, h.ownN, h.ownB, h.ownG, h.ownD, fun i hi => Nat.lt_of_lt_of_le (h.lt i hi) hs⟩
theorem PTr.below (h : PTr w r gN s T Z B G V O) (hb : Below w.heap.size w w') : PTr w' r gN s T Z B G V O := h.keep (fun i ht => hb.block i (h.lt i ht)) hb.size
theorem PTr.c0 (h : PTr w r gN s T Z B G V O) : w.cell? ⟨r, 0, none⟩ = some (.map (some gN)) := by rw [cell_of_row w r 0 _ _ _ h.head]; rfl
/-- A node's cells. -/
theorem PTr.dcell (h : PTr w r gN s T Z B G V O) {k : Int} {C : List (Nm × Int)} (e : T k = some (.dir C)) : w.cell? ⟨B k, 0, none⟩ = some (.map (some (G k))) ∧ w.cell? ⟨B k, 1, none⟩ = some (.slice none 0 0) ∧ w.cell? ⟨B k, 2, none⟩ = some (.int .i64 (Z k : Int)) ∧ w.cell? ⟨B k, 3, none⟩ = some (.int .i64 0) := by
  refine ⟨?_, ?_, ?_, ?_⟩ <;> (rw [cell_of_row w (B k) _ _ _ _ (h.node k _ e)]; rfl)
theorem PTr.fcell (h : PTr w r gN s T Z B G V O) {k : Int} {b : List UInt8} {x : Nat} (e : T k = some (.file b x)) : w.cell? ⟨B k, 0, none⟩ = some (.map none) ∧ w.cell? ⟨B k, 1, none⟩ = some (V k) ∧ w.cell? ⟨B k, 2, none⟩ = some (.int .i64 (Z k : Int)) ∧ w.cell? ⟨B k, 3, none⟩ = some (.int .i64 (x : Int)) := by
  refine ⟨?_, ?_, ?_, ?_⟩ <;> (rw [cell_of_row w (B k) _ _ _ _ (h.node k _ e)]; rfl)
theorem PTr.nfrozen (h : PTr w r gN s T Z B G V O) {k : Int} {nd : Nd} (e : T k = some nd) (j : Nat) : w.frozen? ⟨B k, j, none⟩ = false := by simp [World.frozen?, h.node k nd e]

theorem zero_nodeP (w : World) : (zeroValue 202).run Tryz.prog w = .ok (.pointer none) w := by kernel_rfl
theorem PTr.look (h : PTr w r gN s T Z B G V O) (n : Int) (hw : (Lit.int .i64 n).wf = true) : (Instr.lookup 204 (.map (some gN)) (.int .i64 n) false).run Tryz.prog w = .ok (if (T n).isSome then wp (B n) else .pointer none) w := by
  rw [h.map.look Tryz.underlying204 (zero_nodeP _) n hw]
  cases T n <;> rfl

theorem dir_ne (g : Nat) (w : World) : (binOp BinOp.neq 262 (.map (some g)) (.map none)).run Tryz.prog w = .ok (.bool true) w := by kernel_rfl
theorem file_ne (w : World) : (binOp BinOp.neq 262 (.map none) (.map none)).run Tryz.prog w = .ok (.bool false) w := by kernel_rfl
set_option maxRecDepth 100000 in
set_option maxHeartbeats 400000 in
theorem isDir_yes {b : Nat} {g : Nat} (h : w.cell? ⟨b, 0, none⟩ = some (.map (some g))) : Calls Tryz.prog 298 #[wp b] w fun e w' => e = .returned (.bool true) ∧ w' = w := by
  have hne := dir_ne g w
  go_enter Tryz.func298, Tryz.ntmps298
  go_wp2_with fail
  go_ret
  exact ⟨rfl, rfl⟩
set_option maxRecDepth 100000 in
set_option maxHeartbeats 400000 in
theorem isDir_no {b : Nat} (h : w.cell? ⟨b, 0, none⟩ = some (.map none)) : Calls Tryz.prog 298 #[wp b] w fun e w' => e = .returned (.bool false) ∧ w' = w := by
  have hne := file_ne w
  go_enter Tryz.func298, Tryz.ntmps298
  go_wp2_with fail
  go_ret
  exact ⟨rfl, rfl⟩
end
end Go.Proofs.YtcfhanoekniaaaaGreatDoor
