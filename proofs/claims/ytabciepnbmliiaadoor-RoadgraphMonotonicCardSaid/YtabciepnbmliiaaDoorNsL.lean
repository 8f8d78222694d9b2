/- The reference's lists: plain facts. -/
import Derived.Test.YtabciepnbmliiaaDoorNsB
namespace Nds
open Go Go.Lib

/-- The elements of p as numbers. -/
def ei (p : Nat → Bool) : List Int := (els p).map fun (n : Nat) => (n : Int)

theorem ei_length (p : Nat → Bool) : (ei p).length = (els p).length := by simp [ei]
theorem mem_ei (p : Nat → Bool) (x : Int) : x ∈ ei p ↔ 0 ≤ x ∧ x < 4096 ∧ p x.toNat = true := by
  unfold ei
  rw [List.mem_map]
  constructor
  · rintro ⟨n, hn, rfl⟩
    rw [mem_els] at hn
    exact ⟨by omega, by omega, by simpa using hn.2⟩
  · rintro ⟨h0, h1, h2⟩
    refine ⟨x.toNat, (mem_els _ _).2 ⟨by omega, h2⟩, by omega⟩
theorem ei_sorted (p : Nat → Bool) : (ei p).Pairwise (· < ·) := by
  unfold ei
  rw [List.pairwise_map]
  exact (els_sorted p).imp fun h => by omega

theorem sorted_ext_i : ∀ {a b : List Int}, a.Pairwise (· < ·) → b.Pairwise (· < ·) → (∀ n, n ∈ a ↔ n ∈ b) → a = b
  | [], [], _, _, _ => rfl
  | [], y :: b, _, _, h => absurd ((h y).2 (by simp)) (by simp)
  | x :: a, [], _, _, h => absurd ((h x).1 (by simp)) (by simp)
  | x :: a, y :: b, ha, hb, h => by
    rw [List.pairwise_cons] at ha hb
    have e : x = y := by
      have h1 := (h x).1 (by simp)
      have h2 := (h y).2 (by simp)
      rw [List.mem_cons] at h1 h2
      rcases h1 with h1 | h1
      · exact h1
      · rcases h2 with h2 | h2
        · exact h2.symm
        · have := ha.1 _ h2; have := hb.1 _ h1; omega
    subst e
    rw [sorted_ext_i ha.2 hb.2 fun n => ?_]
    have h3 := h n
    rw [List.mem_cons, List.mem_cons] at h3
    constructor
    · intro hn
      have := ha.1 _ hn
      rcases h3.1 (Or.inr hn) with h4 | h4
      · omega
      · exact h4
    · intro hn
      have := hb.1 _ hn
      rcases h3.2 (Or.inr hn) with h4 | h4
      · omega
      · exact h4

theorem eq_ei {a : List Int} {p : Nat → Bool} (ha : a.Pairwise (· < ·)) (h : ∀ x, x ∈ a ↔ 0 ≤ x ∧ x < 4096 ∧ p x.toNat = true) : a = ei p :=
  sorted_ext_i ha (ei_sorted p) fun n => by rw [h, mem_ei]
theorem ei_congr {p q : Nat → Bool} (h : ∀ n, n < 4096 → p n = q n) : ei p = ei q := by unfold ei; rw [els_congr h]
theorem ei_inj {p q : Nat → Bool} : ei p = ei q ↔ els p = els q := by
  constructor
  · intro h
    unfold ei at h
    exact (List.map_inj_right (f := fun (n : Nat) => (n : Int)) (fun a b e => by omega)).1 h
  · intro h; unfold ei; rw [h]

theorem ei_and (p q : Nat → Bool) : (ei p).filter (fun x => decide (x ∈ ei q)) = ei (fun n => p n && q n) :=
  eq_ei (List.Pairwise.filter _ (ei_sorted p)) fun x => by
    rw [List.mem_filter, mem_ei, decide_eq_true_iff, mem_ei, Bool.and_eq_true]
    constructor
    · rintro ⟨⟨a, b, c⟩, _, _, d⟩; exact ⟨a, b, c, d⟩
    · rintro ⟨a, b, c, d⟩; exact ⟨⟨a, b, c⟩, a, b, d⟩
theorem ei_diff (p q : Nat → Bool) : (ei p).filter (fun x => !decide (x ∈ ei q)) = ei (fun n => p n && !q n) :=
  eq_ei (List.Pairwise.filter _ (ei_sorted p)) fun x => by
    rw [List.mem_filter, mem_ei, Bool.not_eq_true', decide_eq_false_iff_not, mem_ei, Bool.and_eq_true, Bool.not_eq_true']
    constructor
    · rintro ⟨⟨a, b, c⟩, d⟩
      refine ⟨a, b, c, ?_⟩
      cases h : q x.toNat
      · rfl
      · exact absurd ⟨a, b, h⟩ d
    · rintro ⟨a, b, c, d⟩; exact ⟨⟨a, b, c⟩, fun h => by rw [h.2.2] at d; cases d⟩

/-- Two ascending lists as one. -/
def mrg : List Int → List Int → List Int
  | [], ys => ys
  | x :: xs, [] => x :: xs
  | x :: xs, y :: ys => if x < y then x :: mrg xs (y :: ys) else if y < x then y :: mrg (x :: xs) ys else x :: mrg xs ys
termination_by xs ys => xs.length + ys.length

theorem mrg_nil (xs : List Int) : mrg xs [] = xs := by cases xs <;> simp [mrg]
theorem nil_mrg (ys : List Int) : mrg [] ys = ys := by simp [mrg]
theorem mem_mrg : ∀ (xs ys : List Int) (z : Int), z ∈ mrg xs ys ↔ z ∈ xs ∨ z ∈ ys
  | [], ys, z => by simp [mrg]
  | x :: xs, [], z => by simp [mrg]
  | x :: xs, y :: ys, z => by
    rw [mrg]
    split
    · rw [List.mem_cons, mem_mrg xs (y :: ys)]; simp only [List.mem_cons]; exact ⟨by rintro (h | h | h | h) <;> simp [h], by rintro ((h | h) | h | h) <;> simp [h]⟩
    · split
      · rw [List.mem_cons, mem_mrg (x :: xs) ys]; simp only [List.mem_cons]
        constructor
        · rintro (h | (h | h) | h) <;> simp_all
        · rintro ((h | h) | h | h) <;> simp_all
      · have e : x = y := by omega
        subst e
        rw [List.mem_cons, mem_mrg xs ys]; simp only [List.mem_cons]
        constructor
        · rintro (h | h | h) <;> simp_all
        · rintro ((h | h) | h | h) <;> simp_all
termination_by xs ys => xs.length + ys.length
theorem mrg_sorted : ∀ (xs ys : List Int), xs.Pairwise (· < ·) → ys.Pairwise (· < ·) → (mrg xs ys).Pairwise (· < ·)
  | [], ys, _, h => by rw [nil_mrg]; exact h
  | x :: xs, [], h, _ => by rw [mrg_nil]; exact h
  | x :: xs, y :: ys, hx, hy => by
    have hx' := hx
    have hy' := hy
    rw [List.pairwise_cons] at hx' hy'
    rw [mrg]
    split
    · rename_i hlt
      rw [List.pairwise_cons]
      refine ⟨fun z hz => ?_, mrg_sorted _ _ hx'.2 hy⟩
      rw [mem_mrg, List.mem_cons] at hz
      rcases hz with hz | hz | hz
      · exact hx'.1 z hz
      · omega
      · have := hy'.1 z hz; omega
    · split
      · rename_i hlt
        rw [List.pairwise_cons]
        refine ⟨fun z hz => ?_, mrg_sorted _ _ hx hy'.2⟩
        rw [mem_mrg, List.mem_cons] at hz
        rcases hz with (hz | hz) | hz
        · omega
        · have := hx'.1 z hz; omega
        · exact hy'.1 z hz
      · rw [List.pairwise_cons]
        refine ⟨fun z hz => ?_, mrg_sorted _ _ hx'.2 hy'.2⟩
        rw [mem_mrg] at hz
        rcases hz with hz | hz
        · exact hx'.1 z hz
        · have := hy'.1 z hz; omega
termination_by xs ys => xs.length + ys.length
theorem mrg_length : ∀ (xs ys : List Int), (mrg xs ys).length ≤ xs.length + ys.length
  | [], ys => by simp [mrg]
  | x :: xs, [] => by simp [mrg]
  | x :: xs, y :: ys => by
    rw [mrg]
    split
    · have := mrg_length xs (y :: ys); simp at *; omega
    · split
      · have := mrg_length (x :: xs) ys; simp at *; omega
      · have := mrg_length xs ys; simp at *; omega
termination_by xs ys => xs.length + ys.length

theorem ei_or (p q : Nat → Bool) : mrg (ei p) (ei q) = ei (fun n => p n || q n) :=
  eq_ei (mrg_sorted _ _ (ei_sorted p) (ei_sorted q)) fun x => by
    rw [mem_mrg, mem_ei, mem_ei, Bool.or_eq_true]
    constructor
    · rintro (⟨a, b, c⟩ | ⟨a, b, c⟩)
      · exact ⟨a, b, Or.inl c⟩
      · exact ⟨a, b, Or.inr c⟩
    · rintro ⟨a, b, c | c⟩
      · exact Or.inl ⟨a, b, c⟩
      · exact Or.inr ⟨a, b, c⟩

theorem drop_getD (xs : List Int) (k : Nat) (hk : k < xs.length) : xs.drop k = xs.getD k 0 :: xs.drop (k + 1) := by
  rw [List.getD_eq_getElem?_getD, List.getElem?_eq_getElem hk, List.drop_eq_getElem_cons hk]; rfl

/-- The next value of the merge, and where it came from. -/
theorem mrg_left {xs ys : List Int} {i k : Nat} (hi : i < xs.length) (h : ys.length ≤ k ∨ xs.getD i 0 < ys.getD k 0 ∧ k < ys.length) : mrg (xs.drop i) (ys.drop k) = xs.getD i 0 :: mrg (xs.drop (i + 1)) (ys.drop k) := by
  rw [drop_getD xs i hi]
  rcases h with h | ⟨h, h2⟩
  · rw [List.drop_eq_nil_of_le h, mrg_nil, mrg_nil]
  · rw [drop_getD ys k h2, mrg, if_pos h]
theorem mrg_right {xs ys : List Int} {i k : Nat} (hk : k < ys.length) (h : xs.length ≤ i ∨ ys.getD k 0 < xs.getD i 0 ∧ i < xs.length) : mrg (xs.drop i) (ys.drop k) = ys.getD k 0 :: mrg (xs.drop i) (ys.drop (k + 1)) := by
  rw [drop_getD ys k hk]
  rcases h with h | ⟨h, h2⟩
  · rw [List.drop_eq_nil_of_le h, nil_mrg, nil_mrg]
  · rw [drop_getD xs i h2, mrg, if_neg (by omega), if_pos h]
theorem mrg_both {xs ys : List Int} {i k : Nat} (hi : i < xs.length) (hk : k < ys.length) (h : xs.getD i 0 = ys.getD k 0) : mrg (xs.drop i) (ys.drop k) = xs.getD i 0 :: mrg (xs.drop (i + 1)) (ys.drop (k + 1)) := by
  rw [drop_getD xs i hi, drop_getD ys k hk, mrg, if_neg (by omega), if_neg (by omega)]

theorem ei_all (n : Int) : ei (fun m => decide ((m : Int) < n)) = (List.range (min n 4096).toNat).map (fun (m : Nat) => (m : Int)) := by
  symm
  refine eq_ei ?_ fun x => ?_
  · rw [List.pairwise_map]
    exact List.pairwise_lt_range.imp fun h => by omega
  · rw [List.mem_map, decide_eq_true_iff]
    constructor
    · rintro ⟨m, hm, rfl⟩
      rw [List.mem_range] at hm
      omega
    · rintro ⟨a, b, c⟩
      exact ⟨x.toNat, by rw [List.mem_range]; omega, by omega⟩

/-- An ascending list without m, in two parts. -/
theorem split_at (m : Int) : ∀ (l : List Int), l.Pairwise (· < ·) → m ∉ l → ∃ A B, l = A ++ B ∧ (∀ x ∈ A, x < m) ∧ (∀ x ∈ B, m < x)
  | [], _, _ => ⟨[], [], rfl, by simp, by simp⟩
  | x :: l, h, hm => by
    rw [List.pairwise_cons] at h
    rw [List.mem_cons, not_or] at hm
    by_cases hx : x < m
    · obtain ⟨A, B, rfl, hA, hB⟩ := split_at m l h.2 hm.2
      exact ⟨x :: A, B, rfl, by intro y hy; rw [List.mem_cons] at hy; rcases hy with rfl | hy; exact hx; exact hA y hy, hB⟩
    · refine ⟨[], x :: l, rfl, by simp, fun y hy => ?_⟩
      rw [List.mem_cons] at hy
      rcases hy with rfl | hy
      · have := hm.1; omega
      · have := h.1 y hy; have := hm.1; omega

theorem insert_sorted {m : Int} {A B : List Int} (h : (A ++ B).Pairwise (· < ·)) (hA : ∀ x ∈ A, x < m) (hB : ∀ x ∈ B, m < x) : (A ++ m :: B).Pairwise (· < ·) := by
  rw [List.pairwise_append] at h ⊢
  refine ⟨h.1, ?_, ?_⟩
  · rw [List.pairwise_cons]; exact ⟨hB, h.2.1⟩
  · intro x hx y hy
    rw [List.mem_cons] at hy
    rcases hy with rfl | hy
    · exact hA x hx
    · exact h.2.2 x hx y hy

/-- What the inner loop has built after j elements. -/
def built (m : Int) (A B : List Int) (j : Nat) : List Int := if j ≤ A.length then A.take j else A ++ m :: B.take (j - A.length)
theorem built_low {m : Int} {A B : List Int} {j : Nat} (h : j < A.length) : built m A B (j + 1) = built m A B j ++ [(A ++ B).getD j 0] := by
  unfold built
  rw [if_pos (by omega), if_pos (by omega), List.take_succ_eq_append_getElem h, List.getD_eq_getElem?_getD, List.getElem?_append_left h, List.getElem?_eq_getElem h]; rfl
theorem built_turn {m : Int} {A B : List Int} {j : Nat} (h : j = A.length) (hB : j < (A ++ B).length) : built m A B (j + 1) = built m A B j ++ [m] ++ [(A ++ B).getD j 0] := by
  subst h
  rw [List.length_append] at hB
  unfold built
  rw [if_neg (by omega), if_pos (by omega), List.take_length, List.getD_eq_getElem?_getD, List.getElem?_append_right (by omega)]
  cases B with
  | nil => simp at hB
  | cons b B => simp
theorem built_high {m : Int} {A B : List Int} {j : Nat} (h : A.length < j) (hB : j < (A ++ B).length) : built m A B (j + 1) = built m A B j ++ [(A ++ B).getD j 0] := by
  rw [List.length_append] at hB
  unfold built
  rw [if_neg (by omega), if_neg (by omega), List.getD_eq_getElem?_getD, List.getElem?_append_right (by omega), List.getElem?_eq_getElem (by omega), show j + 1 - A.length = (j - A.length) + 1 by omega, List.take_succ_eq_append_getElem (by omega)]
  simp
theorem built_zero (m : Int) (A B : List Int) : built m A B 0 = [] := by simp [built]
theorem built_length (m : Int) (A B : List Int) (j : Nat) : (built m A B j).length ≤ (A ++ B).length + 1 := by
  unfold built; split <;> simp <;> omega
theorem at_low {A B : List Int} {j : Nat} (h : j < A.length) : (A ++ B).getD j 0 ∈ A := by
  rw [List.getD_eq_getElem?_getD, List.getElem?_append_left h, List.getElem?_eq_getElem h]; simp
theorem at_high {A B : List Int} {j : Nat} (h : A.length ≤ j) (h2 : j < (A ++ B).length) : (A ++ B).getD j 0 ∈ B := by
  rw [List.length_append] at h2
  rw [List.getD_eq_getElem?_getD, List.getElem?_append_right h, List.getElem?_eq_getElem (by omega)]; simp

end Nds
