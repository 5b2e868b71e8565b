/- Blocks of frames, plainly: which are free as great as can be, and what becomes of them when one is taken or given back. -/
import Derived.WalkKit
namespace Go.Proofs.YtemomohijidmpaaGreatDoor

/-- All frames of the q-th block of order j are free. -/
def blk (U : Nat → Bool) (j q : Nat) : Prop := ∀ f, f / 2 ^ j = q → U f = true
/-- .. and no greater block has them. -/
def mxb (U : Nat → Bool) (j q : Nat) : Prop := j ≤ 6 ∧ blk U j q ∧ (j < 6 → ¬ blk U (j + 1) (q / 2))
/-- The frames without a block's. -/
def cut (U : Nat → Bool) (j q : Nat) : Nat → Bool := fun f => U f && !(f / 2 ^ j == q)
/-- The frames with a block's. -/
def join (U : Nat → Bool) (j q : Nat) : Nat → Bool := fun f => U f || (f / 2 ^ j == q)
/-- The other half. -/
def bud (q : Nat) : Nat := if q % 2 = 0 then q + 1 else q - 1

theorem div_up {f j q k : Nat} (h : f / 2 ^ j = q) (hk : j ≤ k) : f / 2 ^ k = q / 2 ^ (k - j) := by
  rw [← h, Nat.div_div_eq_div_mul, ← Nat.pow_add, Nat.add_sub_cancel' hk]

theorem div_succ (f j : Nat) : f / 2 ^ (j + 1) = f / 2 ^ j / 2 := by
  rw [Nat.pow_succ, Nat.div_div_eq_div_mul]

theorem first_in (j q : Nat) : q * 2 ^ j / 2 ^ j = q := Nat.mul_div_cancel q (Nat.two_pow_pos j)

theorem in_iff (f j q : Nat) : f / 2 ^ j = q ↔ q * 2 ^ j ≤ f ∧ f < q * 2 ^ j + 2 ^ j := by
  rw [Nat.div_eq_iff (Nat.two_pow_pos j)]
  have := Nat.two_pow_pos j
  omega

theorem mx_lt {U : Nat → Bool} {j q k m f : Nat} (h : mxb U j q) (hb : blk U k m) (hk : k ≤ 6) (h1 : f / 2 ^ j = q) (h2 : f / 2 ^ k = m) : ¬ j < k := by
  intro hlt
  refine h.2.2 (by omega) (fun g hg => hb g ?_)
  rw [div_up hg hlt, ← h2, div_up (f := f) (j := j + 1) (by rw [div_succ, h1]) hlt]

theorem mx_one {U : Nat → Bool} {j q k m f : Nat} (h : mxb U j q) (h' : mxb U k m) (h1 : f / 2 ^ j = q) (h2 : f / 2 ^ k = m) : j = k ∧ q = m := by
  have a := mx_lt h h'.2.1 h'.1 h1 h2
  have b := mx_lt h' h.2.1 h.1 h2 h1
  have e : j = k := by omega
  subst e
  exact ⟨rfl, h1.symm.trans h2⟩

theorem cut_true {U : Nat → Bool} {k m f : Nat} : cut U k m f = true ↔ U f = true ∧ f / 2 ^ k ≠ m := by simp [cut]
theorem join_true {U : Nat → Bool} {k m f : Nat} : join U k m f = true ↔ U f = true ∨ f / 2 ^ k = m := by simp [join]

theorem mxb_cut {U : Nat → Bool} {k m : Nat} (h : mxb U k m) (j q : Nat) : mxb (cut U k m) j q ↔ mxb U j q ∧ ¬ (j = k ∧ q = m) := by
  constructor
  · rintro ⟨hj, hb, hmax⟩
    have f0 := first_in j q
    have ht := cut_true.1 (hb _ f0)
    refine ⟨⟨hj, fun f hf => (cut_true.1 (hb f hf)).1, fun hj6 hP => hmax hj6 (fun g hg => cut_true.2 ⟨hP g hg, fun hm => ?_⟩)⟩, ?_⟩
    · by_cases hk : k < j + 1
      · exact mx_lt h hP (by omega) hm hg hk
      · refine ht.2 ?_
        rw [div_up f0 (by omega : j ≤ k), ← hm, div_up hg (by omega : j + 1 ≤ k), ← Nat.pow_one 2, Nat.div_div_eq_div_mul, ← Nat.pow_add, Nat.pow_one]
        congr 2; omega
    · rintro ⟨rfl, rfl⟩; exact ht.2 f0
  · rintro ⟨⟨hj, hb, hmax⟩, hne⟩
    exact ⟨hj, fun f hf => cut_true.2 ⟨hb f hf, fun hm => hne (mx_one ⟨hj, hb, hmax⟩ h hf hm)⟩, fun hj6 hP => hmax hj6 (fun g hg => (cut_true.1 (hP g hg)).1)⟩

theorem bud_half (q : Nat) : bud q / 2 = q / 2 := by unfold bud; split <;> omega
theorem bud_ne (q : Nat) : bud q ≠ q := by unfold bud; split <;> omega
theorem half_or {x q : Nat} (h : x / 2 = q / 2) : x = q ∨ x = bud q := by unfold bud; split <;> omega

theorem cut_two (U : Nat → Bool) (k q : Nat) : cut (cut U k q) k (bud q) = cut U (k + 1) (q / 2) := by
  funext f
  rw [Bool.eq_iff_iff, cut_true, cut_true, cut_true, div_succ]
  constructor
  · rintro ⟨⟨h, a⟩, b⟩
    exact ⟨h, fun e => (half_or e).elim a b⟩
  · rintro ⟨h, a⟩
    exact ⟨⟨h, fun e => a (by rw [e])⟩, fun e => a (by rw [e, bud_half])⟩

theorem cut_join {U : Nat → Bool} {k q : Nat} (h : ∀ f, f / 2 ^ k = q → U f = false) : cut (join U k q) k q = U := by
  funext f
  rw [Bool.eq_iff_iff, cut_true, join_true]
  constructor
  · rintro ⟨a | a, b⟩
    · exact a
    · exact absurd a b
  · intro a
    exact ⟨.inl a, fun e => by rw [h f e] at a; cases a⟩

theorem join_cut {U : Nat → Bool} {k q : Nat} (h : blk U k q) : join (cut U k q) k q = U := by
  funext f
  rw [Bool.eq_iff_iff, join_true, cut_true]
  constructor
  · rintro (⟨a, _⟩ | a)
    · exact a
    · exact h f a
  · intro a
    by_cases e : f / 2 ^ k = q
    · exact .inr e
    · exact .inl ⟨a, e⟩

/-- Where the other half is not free the block is as great as can be. -/
theorem mxb_alone {U : Nat → Bool} {k q : Nat} (hk : k ≤ 6) (hb : blk U k q) (h : k < 6 → ¬ mxb (cut U k q) k (bud q)) : mxb U k q := by
  refine ⟨hk, hb, fun hk6 hP => h hk6 ⟨hk, fun f hf => cut_true.2 ⟨hP f (by rw [div_succ, hf, bud_half]), by rw [hf]; exact bud_ne q⟩, fun _ hQ => ?_⟩⟩
  rw [bud_half] at hQ
  exact (cut_true.1 (hQ (q * 2 ^ k) (by rw [div_succ, first_in]))).2 (first_in k q)

theorem blk_up {U : Nat → Bool} {k q : Nat} (hb : blk U k q) (h : mxb (cut U k q) k (bud q)) : blk U (k + 1) (q / 2) := by
  intro f hf
  rw [div_succ] at hf
  rcases half_or hf with e | e
  · exact hb f e
  · exact (cut_true.1 (h.2.1 f e)).1

/-- Free blocks, by their orders. -/
def Can (F : Nat → List Int) (U : Nat → Bool) : Prop :=
  ∀ k, k < 7 → (F k).Pairwise (· < ·) ∧ ∀ z, z ∈ F k ↔ ∃ q : Nat, z = ((q * 2 ^ k : Nat) : Int) ∧ mxb U k q

def putF (F : Nat → List Int) (k : Nat) (l : List Int) : Nat → List Int := fun j => if j = k then l else F j

theorem putF_same (F : Nat → List Int) (k : Nat) (l : List Int) : putF F k l k = l := by simp [putF]
theorem putF_self (F : Nat → List Int) (k : Nat) : putF F k (F k) = F := by funext j; simp only [putF]; split <;> simp_all

theorem at_order {k q m : Nat} (h : ((q * 2 ^ k : Nat) : Int) = ((m * 2 ^ k : Nat) : Int)) : q = m :=
  Nat.eq_of_mul_eq_mul_right (Nat.two_pow_pos k) (Int.ofNat.inj h)

theorem can_cut {F : Nat → List Int} {U : Nat → Bool} (c : Can F U) {k m : Nat} (hk : k < 7) (h : mxb U k m) :
    Can (putF F k ((F k).filter fun x => !(x == ((m * 2 ^ k : Nat) : Int)))) (cut U k m) := by
  intro j hj
  by_cases e : j = k
  · subst e
    rw [putF_same]
    refine ⟨(c j hj).1.filter _, fun z => ?_⟩
    rw [List.mem_filter, (c j hj).2 z]
    constructor
    · rintro ⟨⟨q, rfl, hq⟩, hne⟩
      refine ⟨q, rfl, (mxb_cut h j q).2 ⟨hq, fun hh => ?_⟩⟩
      rw [hh.2] at hne; simp at hne
    · rintro ⟨q, rfl, hq⟩
      have := (mxb_cut h j q).1 hq
      refine ⟨⟨q, rfl, this.1⟩, ?_⟩
      simp only [Bool.not_eq_true', beq_eq_false_iff_ne, ne_eq]
      exact fun hh => this.2 ⟨rfl, at_order hh⟩
  · rw [show putF F k ((F k).filter fun x => !(x == ((m * 2 ^ k : Nat) : Int))) j = F j by simp [putF, e]]
    refine ⟨(c j hj).1, fun z => ?_⟩
    rw [(c j hj).2 z]
    constructor
    · rintro ⟨q, rfl, hq⟩; exact ⟨q, rfl, (mxb_cut h j q).2 ⟨hq, fun hh => e hh.1⟩⟩
    · rintro ⟨q, rfl, hq⟩; exact ⟨q, rfl, ((mxb_cut h j q).1 hq).1⟩

/-- What a sorted list is with one more. -/
def ins (l : List Int) (x : Int) : List Int := l.take (l.countP (· < x)) ++ x :: l.drop (l.countP (· < x))

theorem count_none {l : List Int} {x : Int} (h : ∀ y ∈ l, ¬ y < x) : l.countP (· < x) = 0 := by
  rw [List.countP_eq_zero]; intro y hy; simpa using h y hy

theorem ins_cons (a : Int) (l : List Int) (x : Int) (h : a < x) : ins (a :: l) x = a :: ins l x := by
  unfold ins; rw [List.countP_cons_of_pos (by simpa using h)]; simp

theorem ins_sorted : ∀ (l : List Int) (x : Int), l.Pairwise (· < ·) → x ∉ l → (ins l x).Pairwise (· < ·) ∧ ∀ z, z ∈ ins l x ↔ z ∈ l ∨ z = x
  | [], x, _, _ => by simp [ins]
  | a :: l, x, hs, hx => by
    rw [List.pairwise_cons] at hs
    by_cases h : a < x
    · rw [ins_cons a l x h]
      have ih := ins_sorted l x hs.2 (fun hh => hx (List.mem_cons_of_mem _ hh))
      refine ⟨List.pairwise_cons.2 ⟨fun z hz => ?_, ih.1⟩, fun z => ?_⟩
      · rcases (ih.2 z).1 hz with hz | rfl
        · exact hs.1 z hz
        · exact h
      · rw [List.mem_cons, ih.2 z, List.mem_cons, or_assoc]
    · have hlt : x < a := by
        have : x ≠ a := fun e => hx (by rw [e]; exact List.mem_cons_self)
        omega
      have e : ins (a :: l) x = x :: a :: l := by
        unfold ins
        rw [count_none (by intro y hy; rcases List.mem_cons.1 hy with rfl | hy; exact h; have := hs.1 y hy; omega)]; rfl
      rw [e]
      refine ⟨List.pairwise_cons.2 ⟨fun z hz => ?_, List.pairwise_cons.2 hs⟩, fun z => ?_⟩
      · rcases List.mem_cons.1 hz with rfl | hz
        · exact hlt
        · have := hs.1 z hz; omega
      · rw [List.mem_cons]; exact or_comm

theorem can_ins {F : Nat → List Int} {U : Nat → Bool} {k q : Nat} (c : Can F (cut U k q)) (hk : k < 7) (h : mxb U k q) :
    Can (putF F k (ins (F k) ((q * 2 ^ k : Nat) : Int))) U := by
  intro j hj
  by_cases e : j = k
  · subst e
    rw [putF_same]
    have hn : ((q * 2 ^ j : Nat) : Int) ∉ F j := by
      intro hm
      obtain ⟨m, hm, hx⟩ := ((c j hj).2 _).1 hm
      exact ((mxb_cut h j m).1 hx).2 ⟨rfl, (at_order hm).symm⟩
    have hi := ins_sorted (F j) _ (c j hj).1 hn
    refine ⟨hi.1, fun z => ?_⟩
    rw [hi.2 z, (c j hj).2 z]
    constructor
    · rintro (⟨m, rfl, hx⟩ | rfl)
      · exact ⟨m, rfl, ((mxb_cut h j m).1 hx).1⟩
      · exact ⟨q, rfl, h⟩
    · rintro ⟨m, rfl, hx⟩
      by_cases e : m = q
      · subst e; exact .inr rfl
      · exact .inl ⟨m, rfl, (mxb_cut h j m).2 ⟨hx, fun hh => e hh.2⟩⟩
  · rw [show putF F k (ins (F k) ((q * 2 ^ k : Nat) : Int)) j = F j by simp [putF, e]]
    refine ⟨(c j hj).1, fun z => ?_⟩
    rw [(c j hj).2 z]
    constructor
    · rintro ⟨m, rfl, hx⟩; exact ⟨m, rfl, ((mxb_cut h j m).1 hx).1⟩
    · rintro ⟨m, rfl, hx⟩; exact ⟨m, rfl, (mxb_cut h j m).2 ⟨hx, fun hh => e hh.1⟩⟩

end Go.Proofs.YtemomohijidmpaaGreatDoor
