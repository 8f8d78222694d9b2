import Derived.Lib.TrailingZeros
import Derived.Lib.ItoaMem
import Derived.Lib.IndexMore
import Derived.Lib.AtoiAll
namespace Nds
open Go Go.Lib

/-! ### Words -/

/-- The number with the bits q below k. -/
def mk (q : Nat → Bool) : Nat → Nat
  | 0 => 0
  | k + 1 => mk q k + (if q k then 2 ^ k else 0)

theorem mk_lt (q : Nat → Bool) : ∀ k, mk q k < 2 ^ k
  | 0 => by simp [mk]
  | k + 1 => by
    have := mk_lt q k
    rw [mk, Nat.pow_succ]; split <;> omega

theorem testBit_mk (q : Nat → Bool) : ∀ k j, (mk q k).testBit j = (decide (j < k) && q j)
  | 0, j => by simp [mk]
  | k + 1, j => by
    have h := mk_lt q k
    have e : mk q (k + 1) = 2 ^ k * (if q k then 1 else 0) + mk q k := by rw [mk]; split <;> omega
    rw [e, Nat.testBit_two_pow_mul_add _ h]
    by_cases hj : j < k
    · rw [if_pos hj, testBit_mk q k j]; simp [hj, Nat.lt_succ_of_lt hj]
    · rw [if_neg hj]
      by_cases hk : j = k
      · subst hk; cases q j <;> simp
      · have h2 : ¬ j < k + 1 := by omega
        rw [decide_eq_false h2]
        obtain ⟨m, hm⟩ : ∃ m, j - k = m + 1 := ⟨j - k - 1, by omega⟩
        rw [hm]
        cases q k <;> simp [Nat.testBit_succ]

/-- The word number i of the set p. -/
def word (p : Nat → Bool) (i : Nat) : Nat := mk (fun j => p (64 * i + j)) 64
theorem word_lt (p : Nat → Bool) (i : Nat) : word p i < 18446744073709551616 := mk_lt _ 64
theorem testBit_word (p : Nat → Bool) (i j : Nat) : (word p i).testBit j = (decide (j < 64) && p (64 * i + j)) := testBit_mk _ _ _

theorem eq_word {x : Nat} {p : Nat → Bool} {i : Nat} (h : ∀ j, x.testBit j = (decide (j < 64) && p (64 * i + j))) : x = word p i :=
  Nat.eq_of_testBit_eq fun j => by rw [h, testBit_word]

theorem word_congr {p q : Nat → Bool} {i : Nat} (h : ∀ j, j < 64 → p (64 * i + j) = q (64 * i + j)) : word p i = word q i :=
  eq_word fun j => by
    rw [testBit_word]
    by_cases hj : j < 64
    · simp [hj, h j hj]
    · simp [hj]

theorem word_or (p q : Nat → Bool) (i : Nat) : word p i ||| word q i = word (fun n => p n || q n) i :=
  eq_word fun j => by rw [Nat.testBit_or, testBit_word, testBit_word]; cases decide (j < 64) <;> simp
theorem word_and (p q : Nat → Bool) (i : Nat) : word p i &&& word q i = word (fun n => p n && q n) i :=
  eq_word fun j => by rw [Nat.testBit_and, testBit_word, testBit_word]; cases decide (j < 64) <;> simp
theorem word_diff (p q : Nat → Bool) (i : Nat) : word p i &&& (18446744073709551615 - word q i) = word (fun n => p n && !q n) i :=
  eq_word fun j => by
    have e : 18446744073709551615 - word q i = 2 ^ 64 - (word q i + 1) := by omega
    rw [e, Nat.testBit_and, Nat.testBit_two_pow_sub_succ (word_lt q i), testBit_word, testBit_word]
    cases h : decide (j < 64) <;> simp
theorem word_add (p : Nat → Bool) (n : Nat) : word p (n / 64) ||| 2 ^ (n % 64) = word (fun m => p m || m == n) (n / 64) :=
  eq_word fun j => by
    rw [Nat.testBit_or, testBit_word, Nat.testBit_two_pow]
    by_cases hj : j < 64
    · by_cases e : n % 64 = j
      · have : 64 * (n / 64) + j = n := by omega
        simp [hj, e, this]
      · have : ¬ 64 * (n / 64) + j = n := by omega
        simp [hj, e, this]
    · have : ¬ n % 64 = j := by omega
      simp [hj, this]
theorem word_add_other (p : Nat → Bool) (n i : Nat) (h : i ≠ n / 64) : word (fun m => p m || m == n) i = word p i :=
  word_congr fun j hj => by
    have : ¬ 64 * i + j = n := by omega
    simp [this]
theorem word_zero (i : Nat) : word (fun _ => false) i = 0 := (eq_word (x := 0) (p := fun _ => false) fun j => by simp).symm
theorem word_bit (p : Nat → Bool) (n : Nat) : (word p (n / 64) / 2 ^ (n % 64)) % 2 = (if p n then 1 else 0) := by
  have h := testBit_word p (n / 64) (n % 64)
  rw [Nat.testBit_eq_decide_div_mod_eq] at h
  have e : 64 * (n / 64) + n % 64 = n := by omega
  rw [e] at h
  have hj : n % 64 < 64 := by omega
  simp only [hj, decide_true, Bool.true_and] at h
  cases hp : p n
  · rw [hp, decide_eq_false_iff_not] at h; simp; omega
  · rw [hp, decide_eq_true_iff] at h; simp; omega

/-! ### The bits of a number, from the lowest on -/

def bitsOf (x : Nat) : List Nat := (List.range 64).filter fun j => x.testBit j

theorem lane_and (w a b c d : Nat) (ha : a < 2 ^ w) (hc : c < 2 ^ w) : (2 ^ w * b + a) &&& (2 ^ w * d + c) = 2 ^ w * (b &&& d) + (a &&& c) := by
  apply Nat.eq_of_testBit_eq
  intro j
  have hac : a &&& c < 2 ^ w := Nat.and_lt_two_pow _ hc
  rw [Nat.testBit_and, Nat.testBit_two_pow_mul_add _ ha, Nat.testBit_two_pow_mul_add _ hc, Nat.testBit_two_pow_mul_add _ hac]
  split <;> simp

theorem ctz_facts (x : Nat) (h0 : x ≠ 0) (h : x < 18446744073709551616) :
    ctz 64 x < 64 ∧ x.testBit (ctz 64 x) = true ∧ (∀ j, j < ctz 64 x → x.testBit j = false) ∧ x &&& (x - 1) < 18446744073709551616 ∧ ∀ j, (x &&& (x - 1)).testBit j = (x.testBit j && decide (j ≠ ctz 64 x)) := by
  obtain ⟨m, hm, ht⟩ := ctzFrom_spec 64 x (by omega) (by simpa using h)
  have e : ctz 64 x = ctzFrom 64 x := by unfold ctz; rw [if_neg h0]
  rw [e]
  generalize ctzFrom 64 x = t at *
  have hx : x = 2 ^ t * (2 * m + 1) + 0 := by omega
  have h2 : 0 < 2 ^ t := Nat.two_pow_pos t
  have hx1 : x - 1 = 2 ^ t * (2 * m) + (2 ^ t - 1) := by rw [hx, Nat.mul_add]; omega
  have hand : x &&& (x - 1) = 2 ^ t * (2 * m) + 0 := by
    rw [hx1]
    conv => lhs; lhs; rw [hx]
    rw [lane_and t 0 _ _ _ h2 (by omega)]
    have : (2 * m + 1) &&& (2 * m) = 2 * m := by
      apply Nat.eq_of_testBit_eq
      intro j
      rw [Nat.testBit_and]
      cases j with
      | zero => simp
      | succ j => rw [Nat.testBit_succ, Nat.testBit_succ]; have : (2 * m + 1) / 2 = m := by omega
                  rw [this]; simp
    rw [this]; simp
  have tb : ∀ j, x.testBit j = if j < t then false else (2 * m + 1).testBit (j - t) := fun j => by rw [hx, Nat.testBit_two_pow_mul_add _ h2]; simp
  refine ⟨ht, ?_, ?_, ?_, ?_⟩
  · rw [tb]; simp
  · intro j hj; rw [tb]; simp [hj]
  · have : x &&& (x - 1) ≤ x := Nat.and_le_left
    omega
  · intro j
    rw [hand, tb, Nat.testBit_two_pow_mul_add _ h2]
    by_cases hj : j < t
    · simp [hj]
    · simp only [hj, if_false]
      by_cases hjt : j = t
      · subst hjt; simp
      · obtain ⟨i, hi⟩ : ∃ i, j - t = i + 1 := ⟨j - t - 1, by omega⟩
        rw [hi, Nat.testBit_succ, Nat.testBit_succ]
        have : (2 * m + 1) / 2 = m := by omega
        rw [this]; simp [hjt]

theorem range_split (n t : Nat) (h : t < n) : List.range n = List.range t ++ t :: (List.range (n - t - 1)).map (t + 1 + ·) := by
  obtain ⟨k, rfl⟩ : ∃ k, n = t + (k + 1) := ⟨n - t - 1, by omega⟩
  rw [List.range_add, List.range_succ_eq_map]
  simp only [List.map_cons, List.map_map, Nat.add_zero]
  congr 2
  rw [show t + (k + 1) - t - 1 = k by omega]
  exact List.map_congr_left fun a _ => by simp [Function.comp]; omega

theorem bitsOf_zero : bitsOf 0 = [] := by unfold bitsOf; simp

theorem bitsOf_step (x : Nat) (h0 : x ≠ 0) (h : x < 18446744073709551616) : bitsOf x = ctz 64 x :: bitsOf (x &&& (x - 1)) := by
  obtain ⟨ht, h1, h2, _, h4⟩ := ctz_facts x h0 h
  generalize ctz 64 x = t at *
  unfold bitsOf
  rw [range_split 64 t ht, List.filter_append, List.filter_cons, List.filter_append, List.filter_cons]
  have e1 : (List.range t).filter (fun j => x.testBit j) = [] := by
    rw [List.filter_eq_nil_iff]; intro j hj; rw [List.mem_range] at hj; rw [h2 j hj]; simp
  have e2 : (List.range t).filter (fun j => (x &&& (x - 1)).testBit j) = [] := by
    rw [List.filter_eq_nil_iff]; intro j hj; rw [List.mem_range] at hj; rw [h4, h2 j hj]; simp
  rw [e1, e2, if_pos h1, if_neg (by rw [h4]; simp)]
  simp only [List.nil_append, List.cons.injEq, true_and]
  apply List.filter_congr
  intro j hj
  rw [List.mem_map] at hj
  obtain ⟨i, _, rfl⟩ := hj
  rw [h4]
  have : t + 1 + i ≠ t := by omega
  simp [this]

theorem bitsOf_lt (x : Nat) : ∀ j ∈ bitsOf x, j < 64 := by
  intro j hj; unfold bitsOf at hj; simp at hj; exact hj.1

theorem bitsOf_length (x : Nat) : (bitsOf x).length ≤ 64 := by
  unfold bitsOf; have := List.length_filter_le (fun j => x.testBit j) (List.range 64); simpa using this

theorem bitsOf_ne (x : Nat) (h0 : x ≠ 0) (h : x < 18446744073709551616) : bitsOf x ≠ [] := by rw [bitsOf_step x h0 h]; simp

/-! ### The elements of a set -/

def els (p : Nat → Bool) : List Nat := (List.range 4096).filter p
/-- The elements of the words below i. -/
def elsTo (p : Nat → Bool) (i : Nat) : List Nat := (List.range (64 * i)).filter p

theorem elsTo_zero (p : Nat → Bool) : elsTo p 0 = [] := by simp [elsTo]
theorem elsTo_all (p : Nat → Bool) : elsTo p 64 = els p := rfl

theorem elsTo_succ (p : Nat → Bool) (i : Nat) : elsTo p (i + 1) = elsTo p i ++ (bitsOf (word p i)).map (64 * i + ·) := by
  unfold elsTo bitsOf
  rw [show 64 * (i + 1) = 64 * i + 64 by omega, List.range_add, List.filter_append, List.filter_map]
  congr 2
  apply List.filter_congr
  intro j hj
  rw [List.mem_range] at hj
  rw [testBit_word]; simp [hj]

theorem mem_els (p : Nat → Bool) (n : Nat) : n ∈ els p ↔ n < 4096 ∧ p n = true := by unfold els; simp
theorem els_lt (p : Nat → Bool) : ∀ n ∈ els p, n < 4096 := fun n h => ((mem_els p n).1 h).1
theorem els_length (p : Nat → Bool) : (els p).length ≤ 4096 := by
  unfold els; have := List.length_filter_le p (List.range 4096); simpa using this
theorem elsTo_length (p : Nat → Bool) (i : Nat) : (elsTo p i).length ≤ 64 * i := by
  unfold elsTo; have := List.length_filter_le p (List.range (64 * i)); simpa using this
theorem els_sorted (p : Nat → Bool) : (els p).Pairwise (· < ·) := List.Pairwise.filter _ List.pairwise_lt_range

theorem sorted_ext : ∀ {a b : List Nat}, a.Pairwise (· < ·) → b.Pairwise (· < ·) → (∀ n, n ∈ a ↔ n ∈ b) → a = b
  | [], [], _, _, _ => rfl
  | [], y :: b, _, _, h => absurd ((h y).2 (by simp)) (by simp)
  | x :: a, [], _, _, h => absurd ((h x).1 (by simp)) (by simp)
  | x :: a, y :: b, ha, hb, h => by
    rw [List.pairwise_cons] at ha hb
    have e : x = y := by
      have h1 := (h x).1 (by simp)
      have h2 := (h y).2 (by simp)
      rw [List.mem_cons] at h1 h2
      rcases h1 with h1 | h1
      · exact h1
      · rcases h2 with h2 | h2
        · exact h2.symm
        · have := ha.1 _ h2; have := hb.1 _ h1; omega
    subst e
    rw [sorted_ext ha.2 hb.2 fun n => ?_]
    have h3 := h n
    rw [List.mem_cons, List.mem_cons] at h3
    constructor
    · intro hn
      have := ha.1 _ hn
      rcases h3.1 (Or.inr hn) with h4 | h4
      · omega
      · exact h4
    · intro hn
      have := hb.1 _ hn
      rcases h3.2 (Or.inr hn) with h4 | h4
      · omega
      · exact h4

theorem eq_els {a : List Nat} {p : Nat → Bool} (ha : a.Pairwise (· < ·)) (h : ∀ n, n ∈ a ↔ n < 4096 ∧ p n = true) : a = els p :=
  sorted_ext ha (els_sorted p) fun n => by rw [h, mem_els]

theorem els_congr {p q : Nat → Bool} (h : ∀ n, n < 4096 → p n = q n) : els p = els q :=
  eq_els (els_sorted p) fun n => by
    rw [mem_els]
    constructor
    · rintro ⟨h1, h2⟩; exact ⟨h1, by rw [← h n h1]; exact h2⟩
    · rintro ⟨h1, h2⟩; exact ⟨h1, by rw [h n h1]; exact h2⟩

theorem els_inj {p q : Nat → Bool} (h : els p = els q) (n : Nat) (hn : n < 4096) : p n = q n := by
  have h1 := mem_els p n
  have h2 := mem_els q n
  rw [h] at h1
  have := h1.symm.trans h2
  cases a : p n <;> cases b : q n <;> simp_all

theorem words_of_els {p q : Nat → Bool} (h : els p = els q) (i : Nat) (hi : i < 64) : word p i = word q i :=
  word_congr fun j hj => els_inj h _ (by omega)

theorem els_of_words {p q : Nat → Bool} (h : ∀ i, i < 64 → word p i = word q i) : els p = els q :=
  els_congr fun n hn => by
    have h1 := word_bit p n
    have h2 := word_bit q n
    rw [h (n / 64) (by omega)] at h1
    rw [h1] at h2
    cases a : p n <;> cases b : q n <;> simp_all

end Nds
