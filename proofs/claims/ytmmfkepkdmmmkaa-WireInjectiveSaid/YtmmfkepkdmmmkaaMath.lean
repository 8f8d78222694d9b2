/- Plain mathematics of layer 5: encodings, and a reader on lists of bytes. -/
import Derived.Lib.Hide
set_option linter.unusedSectionVars false
set_option linter.unusedVariables false
namespace Wr

/-! ### Numbers -/

def zig (n : Int) : Nat := if 0 ≤ n then (2 * n).toNat else (-2 * n - 1).toNat
def unzig (u : Nat) : Int := if u % 2 = 1 then -((u / 2 : Nat) : Int) - 1 else ((u / 2 : Nat) : Int)
theorem unzig_zig (n : Int) : unzig (zig n) = n := by unfold unzig zig; split <;> split <;> omega
theorem zig_unzig (u : Nat) : zig (unzig u) = u := by unfold unzig zig; split <;> split <;> omega
/-- The numbers of 64 bits. -/
def I64 (n : Int) : Prop := -9223372036854775808 ≤ n ∧ n ≤ 9223372036854775807
theorem zig_lt {n : Int} (h : I64 n) : zig n < 2 ^ 64 := by unfold zig; obtain ⟨h1, h2⟩ := h; split <;> omega
theorem unzig_i64 {u : Nat} (h : u < 2 ^ 64) : I64 (unzig u) := by unfold unzig I64; split <;> omega

def byt (u : Nat) : UInt8 := UInt8.ofNat u
theorem byt_toNat {u : Nat} (h : u < 256) : (byt u).toNat = u := by simp [byt, Nat.mod_eq_of_lt h]
theorem byt_of (c : UInt8) : byt c.toNat = c := by simp [byt]

/-- The digits of a number, the smallest first. -/
def enc (u : Nat) : List UInt8 := if u < 128 then [byt u] else byt (u % 128 + 128) :: enc (u / 128)
termination_by u
decreasing_by omega
theorem enc_small {u : Nat} (h : u < 128) : enc u = [byt u] := by rw [enc]; simp [h]
theorem enc_big {u : Nat} (h : ¬ u < 128) : enc u = byt (u % 128 + 128) :: enc (u / 128) := by rw [enc]; simp [h]
theorem enc_ne (u : Nat) : enc u ≠ [] := by rw [enc]; split <;> simp
theorem enc_pos (u : Nat) : 0 < (enc u).length := List.length_pos_iff.2 (enc_ne u)
theorem enc_length : ∀ (i u : Nat), u < 2 ^ (7 * i) → (enc u).length ≤ max i 1 := by
  intro i
  induction i with
  | zero => intro u h; rw [enc_small (by simp at h; omega)]; exact Nat.le_refl _
  | succ i ih =>
    intro u h
    by_cases hs : u < 128
    · rw [enc_small hs, List.length_singleton]; omega
    · rw [enc_big hs]
      have h2 : u / 128 < 2 ^ (7 * i) := by
        rw [show 7 * (i + 1) = 7 * i + 7 from by omega, Nat.pow_add] at h
        exact Nat.div_lt_of_lt_mul (by omega)
      have := ih _ h2
      have hi : i ≠ 0 := by rintro rfl; simp at h; omega
      simp; omega
theorem enc_len10 {u : Nat} (h : u < 2 ^ 64) : (enc u).length ≤ 10 := by
  have := enc_length 10 u (Nat.lt_of_lt_of_le h (by decide)); omega

/-- What reading the digits gives. -/
inductive Rd where
  | ok (u : Nat) (r : List UInt8)
  | err (e : Nat)

def dec : Nat → List UInt8 → Rd
  | _, [] => .err 11
  | i, c :: r =>
    if (i = 9 ∧ c.toNat ≠ 1) ∨ (c.toNat = 0 ∧ 0 < i) then .err 2
    else if c.toNat < 128 then .ok c.toNat r
    else match dec (i + 1) r with
      | .ok u r' => .ok (c.toNat % 128 + 128 * u) r'
      | .err e => .err e

theorem pow_step {i : Nat} (h : i < 9) : 2 ^ (64 - 7 * i) = 128 * 2 ^ (64 - 7 * (i + 1)) := by
  rw [show 64 - 7 * i = (64 - 7 * (i + 1)) + 7 from by omega, Nat.pow_add]; omega

theorem dec_enc (u : Nat) : ∀ (i : Nat) (r : List UInt8), i ≤ 9 → u < 2 ^ (64 - 7 * i) → (u ≠ 0 ∨ i = 0) → dec i (enc u ++ r) = .ok u r := by
  induction u using Nat.strongRecOn with
  | _ u ih =>
    intro i r hi hu h0
    by_cases hs : u < 128
    · rw [enc_small hs, List.singleton_append, dec, byt_toNat (by omega)]
      rw [if_neg, if_pos hs]
      rintro (⟨rfl, h1⟩ | ⟨h1, h2⟩)
      · have : (2 : Nat) ^ (64 - 7 * 9) = 2 := by decide
        omega
      · omega
    · have hi9 : i < 9 := by
        rcases Nat.lt_or_ge i 9 with h | h
        · exact h
        · obtain rfl : i = 9 := by omega
          have : (2 : Nat) ^ (64 - 7 * 9) = 2 := by decide
          omega
      rw [enc_big hs, List.cons_append, dec, byt_toNat (by omega)]
      rw [if_neg (by omega), if_neg (by omega)]
      rw [ih (u / 128) (by omega) (i + 1) r (by omega) (by rw [pow_step hi9] at hu; exact Nat.div_lt_of_lt_mul hu) (by left; omega)]
      simp; omega

theorem dec_cut (u : Nat) : ∀ (i c : Nat), i ≤ 9 → u < 2 ^ (64 - 7 * i) → (u ≠ 0 ∨ i = 0) → c < (enc u).length → dec i ((enc u).take c) = .err 11 := by
  induction u using Nat.strongRecOn with
  | _ u ih =>
    intro i c hi hu h0 hc
    cases c with
    | zero => rw [List.take_zero, dec]
    | succ c =>
      by_cases hs : u < 128
      · rw [enc_small hs] at hc; simp at hc
      · have hi9 : i < 9 := by
          rcases Nat.lt_or_ge i 9 with h | h
          · exact h
          · obtain rfl : i = 9 := by omega
            have : (2 : Nat) ^ (64 - 7 * 9) = 2 := by decide
            omega
        rw [enc_big hs] at hc ⊢
        rw [List.take_succ_cons, dec, byt_toNat (by omega)]
        rw [if_neg (by omega), if_neg (by omega)]
        rw [ih (u / 128) (by omega) (i + 1) c (by omega) (by rw [pow_step hi9] at hu; exact Nat.div_lt_of_lt_mul hu) (by left; omega) (by simpa using hc)]

theorem dec_ok : ∀ (b : List UInt8) (i u : Nat) (r : List UInt8), i ≤ 9 → dec i b = .ok u r → b = enc u ++ r ∧ u < 2 ^ (64 - 7 * i) ∧ (0 < i → u ≠ 0) := by
  intro b
  induction b with
  | nil => intro i u r _ h; rw [dec] at h; cases h
  | cons c b ih =>
    intro i u r hi h
    rw [dec] at h
    split at h
    · cases h
    · rename_i hn
      have hc := c.toNat_lt
      split at h
      · rename_i hs
        injection h with h1 h2
        subst h1 h2
        refine ⟨by rw [enc_small hs, byt_of]; rfl, ?_, by omega⟩
        rcases Nat.lt_or_ge i 9 with h9 | h9
        · rw [pow_step h9]
          have : 0 < 2 ^ (64 - 7 * (i + 1)) := Nat.pow_pos (by omega)
          omega
        · obtain rfl : i = 9 := by omega
          have : (2 : Nat) ^ (64 - 7 * 9) = 2 := by decide
          omega
      · rename_i hs
        have hi9 : i < 9 := by
          rcases Nat.lt_or_ge i 9 with h9 | h9
          · exact h9
          · obtain rfl : i = 9 := by omega
            omega
        split at h
        · rename_i v r' hv
          injection h with h1 h2
          subst h1 h2
          obtain ⟨e1, e2, e3⟩ := ih (i + 1) v r' (by omega) hv
          have hv0 := e3 (by omega)
          refine ⟨?_, ?_, by omega⟩
          · rw [enc_big (by omega), e1, List.cons_append]
            congr 1
            · rw [show (c.toNat % 128 + 128 * v) % 128 + 128 = c.toNat from by omega, byt_of]
            · congr 2; omega
          · rw [pow_step hi9]; omega
        · cases h

theorem dec_err : ∀ (b : List UInt8) (i e : Nat), dec i b = .err e → e = 2 ∨ e = 11 := by
  intro b
  induction b with
  | nil => intro i e h; rw [dec] at h; injection h with h; exact .inr h.symm
  | cons c b ih =>
    intro i e h
    rw [dec] at h
    split at h
    · injection h with h; exact .inl h.symm
    · split at h
      · cases h
      · split at h
        · cases h
        · rename_i e' he
          injection h with h; subst h
          exact ih _ _ he

/-! ### Digit by digit -/

/-- Reading goes on: k digits have been read, they make U. -/
def decS (k U : Nat) (b : List UInt8) : Rd :=
  match dec k b with
  | .ok u r => .ok (U + 128 ^ k * u) r
  | .err e => .err e
theorem decS_zero (b : List UInt8) : decS 0 0 b = dec 0 b := by
  unfold decS; cases dec 0 b <;> simp
theorem decS_nil (k U : Nat) : decS k U [] = .err 11 := by unfold decS; rw [dec]
theorem decS_bad {k U : Nat} {c : UInt8} {r : List UInt8} (h : (k = 9 ∧ c.toNat ≠ 1) ∨ (c.toNat = 0 ∧ 0 < k)) : decS k U (c :: r) = .err 2 := by
  unfold decS; rw [dec, if_pos h]
theorem decS_small {k U : Nat} {c : UInt8} {r : List UInt8} (h : ¬ ((k = 9 ∧ c.toNat ≠ 1) ∨ (c.toNat = 0 ∧ 0 < k))) (hs : c.toNat < 128) : decS k U (c :: r) = .ok (U + 128 ^ k * c.toNat) r := by
  unfold decS; rw [dec, if_neg h, if_pos hs]
theorem decS_more {k U : Nat} {c : UInt8} {r : List UInt8} (h : ¬ ((k = 9 ∧ c.toNat ≠ 1) ∨ (c.toNat = 0 ∧ 0 < k))) (hs : ¬ c.toNat < 128) : decS k U (c :: r) = decS (k + 1) (U + 128 ^ k * (c.toNat % 128)) r := by
  unfold decS; rw [dec, if_neg h, if_neg hs]
  cases dec (k + 1) r with
  | err e => rfl
  | ok u r' =>
    simp only
    congr 1
    rw [Nat.pow_succ, Nat.mul_add, Nat.mul_assoc]; omega
theorem drop_at {b : List UInt8} {k : Nat} {c : UInt8} (h : b[k]? = some c) : b.drop k = c :: b.drop (k + 1) := by
  obtain ⟨hk, e⟩ := List.getElem?_eq_some_iff.1 h
  rw [List.drop_eq_getElem_cons hk, e]
theorem pow128 {k : Nat} (h : k ≤ 9) : 128 ^ k ≤ 9223372036854775808 := Nat.le_trans (Nat.pow_le_pow_right (by decide) h) (by decide)
theorem pow128_pos (k : Nat) : 0 < 128 ^ k := Nat.pow_pos (by decide)
theorem pow128_9 : 128 ^ 9 = 9223372036854775808 := by decide
theorem pow128_8 {k : Nat} (h : k ≤ 8) : 128 ^ k ≤ 72057594037927936 := Nat.le_trans (Nat.pow_le_pow_right (by decide) h) (by decide)

/-! ### Values -/

structure Th where
  k : Int
  n : Int
  b : Bool
  d : List UInt8
  l : List Int
deriving DecidableEq

def int (n : Int) : List UInt8 := enc (zig n)
def ints (l : List Int) : List UInt8 := l.flatMap int
def put (t : Th) : List UInt8 :=
  if t.k = 0 then int t.n else if t.k = 1 then [if t.b then 1 else 0]
  else if t.k = 2 ∨ t.k = 3 then int t.d.length ++ t.d
  else if t.k = 4 then int t.l.length ++ ints t.l else []
def all (l : List Th) : List UInt8 := l.flatMap put
def only (t : Th) : Th :=
  if t.k = 0 then ⟨0, t.n, false, [], []⟩ else if t.k = 1 then ⟨1, 0, t.b, [], []⟩
  else if t.k = 4 then ⟨4, 0, false, [], t.l⟩ else ⟨t.k, 0, false, t.d, []⟩
def zero (k : Int) : Th := ⟨k, 0, false, [], []⟩

/-- A reader: what is left, or its error. -/
inductive St where
  | live (b : List UInt8)
  | dead (e : Nat)

def St.errno : St → Nat
  | .live _ => 0
  | .dead e => e
def St.end : St → Nat
  | .live [] => 0
  | .live (_ :: _) => 2
  | .dead e => e
/-- The errors are those of the document. -/
def St.Ok : St → Prop
  | .live _ => True
  | .dead e => e = 2 ∨ e = 11
/-- At most so many bytes are left. -/
def St.Few (n : Nat) : St → Prop
  | .live b => b.length ≤ n
  | .dead _ => True

def rdInt : St → Int × St
  | .dead e => (0, .dead e)
  | .live b => match dec 0 b with
    | .ok u r => (unzig u, .live r)
    | .err e => (0, .dead e)
def rdMany (s : St) : Nat × St :=
  match rdInt s with
  | (_, .dead e) => (0, .dead e)
  | (n, .live r) => if n < 0 then (0, .dead 2) else if (r.length : Int) < n then (0, .dead 11) else (n.toNat, .live r)
def rdBool : St → Bool × St
  | .dead e => (false, .dead e)
  | .live [] => (false, .dead 11)
  | .live (c :: r) => if 1 < c.toNat then (false, .dead 2) else (c.toNat == 1, .live r)
def rdBytes (s : St) : List UInt8 × St :=
  match rdMany s with
  | (_, .dead e) => ([], .dead e)
  | (n, .live r) => (r.take n, .live (r.drop n))
def rdL : Nat → St → List Int × St
  | 0, s => ([], s)
  | k + 1, s => ((rdInt s).1 :: (rdL k (rdInt s).2).1, (rdL k (rdInt s).2).2)
def rdInts (s : St) : List Int × St :=
  match rdL (rdMany s).1 (rdMany s).2 with
  | (_, .dead e) => ([], .dead e)
  | (l, .live r) => (l, .live r)
/-- Reading a value of a kind. -/
def get (k : Int) (s : St) : Th × St :=
  if k = 0 then (⟨k, (rdInt s).1, false, [], []⟩, (rdInt s).2)
  else if k = 1 then (⟨k, 0, (rdBool s).1, [], []⟩, (rdBool s).2)
  else if k = 2 ∨ k = 3 then (⟨k, 0, false, (rdBytes s).1, []⟩, (rdBytes s).2)
  else if k = 4 then (⟨k, 0, false, [], (rdInts s).1⟩, (rdInts s).2)
  else (zero k, s)
/-- The state after reading values of these kinds. -/
def gets (ks : List Int) (s : St) : St := ks.foldl (fun s k => (get k s).2) s
/-- What is read. -/
def got : List Int → St → List Th
  | [], _ => []
  | k :: ks, s => (get k s).1 :: got ks (get k s).2

theorem rdL_snoc : ∀ (k : Nat) (s : St), rdL (k + 1) s = ((rdL k s).1 ++ [(rdInt (rdL k s).2).1], (rdInt (rdL k s).2).2) := by
  intro k
  induction k with
  | zero => intro s; simp [rdL]
  | succ k ih => intro s; rw [rdL, ih (rdInt s).2]; simp [rdL]
theorem rdL_dead (e : Nat) : ∀ k, (rdL k (.dead e)).2 = .dead e := by
  intro k
  induction k with
  | zero => rfl
  | succ k ih => rw [rdL]; exact ih
theorem rdL_stays {s : St} {k e : Nat} (h : (rdL k s).2 = .dead e) : ∀ m, (rdL (k + m) s).2 = .dead e := by
  intro m
  induction m with
  | zero => exact h
  | succ m ih => rw [← Nat.add_assoc, rdL_snoc]; simp only; rw [ih]; rfl
theorem rdL_length : ∀ (k : Nat) (s : St), (rdL k s).1.length = k := by
  intro k
  induction k with
  | zero => intro s; rfl
  | succ k ih => intro s; rw [rdL]; simp [ih]

theorem get_dead (k : Int) (e : Nat) : get k (.dead e) = (zero k, .dead e) := by
  unfold get zero
  split
  · rfl
  split
  · rfl
  split
  · rfl
  split
  · rfl
  · rfl

/-! ### The errors, and what is left -/

theorem rdInt_ok {s : St} (h : s.Ok) : (rdInt s).2.Ok := by
  cases s with
  | dead e => exact h
  | live b =>
    cases he : dec 0 b with
    | ok u r => simp [rdInt, he, St.Ok]
    | err e => simpa [rdInt, he, St.Ok] using dec_err _ _ _ he
theorem rdMany_ok {s : St} (h : s.Ok) : (rdMany s).2.Ok := by
  have := rdInt_ok h
  unfold rdMany
  split
  · rename_i e he; rw [he] at this; exact this
  · split
    · exact .inl rfl
    · split
      · exact .inr rfl
      · trivial
theorem rdBool_ok {s : St} (h : s.Ok) : (rdBool s).2.Ok := by
  unfold rdBool
  split
  · exact h
  · exact .inr rfl
  · split
    · exact .inl rfl
    · trivial
theorem rdBytes_ok {s : St} (h : s.Ok) : (rdBytes s).2.Ok := by
  have := rdMany_ok h
  unfold rdBytes
  split
  · rename_i e he; rw [he] at this; exact this
  · trivial
theorem rdL_ok : ∀ (k : Nat) {s : St}, s.Ok → (rdL k s).2.Ok := by
  intro k
  induction k with
  | zero => intro s h; exact h
  | succ k ih => intro s h; rw [rdL]; exact ih (rdInt_ok h)
theorem rdInts_ok {s : St} (h : s.Ok) : (rdInts s).2.Ok := by
  have := rdL_ok (rdMany s).1 (rdMany_ok h)
  unfold rdInts
  split
  · rename_i e he; rw [he] at this; exact this
  · trivial
theorem get_ok {s : St} (k : Int) (h : s.Ok) : (get k s).2.Ok := by
  unfold get
  split
  · exact rdInt_ok h
  split
  · exact rdBool_ok h
  split
  · exact rdBytes_ok h
  split
  · exact rdInts_ok h
  · exact h

theorem dec_length : ∀ (b : List UInt8) (i u : Nat) (r : List UInt8), dec i b = .ok u r → r.length < b.length := by
  intro b
  induction b with
  | nil => intro i u r h; rw [dec] at h; cases h
  | cons c b ih =>
    intro i u r h
    rw [dec] at h
    split at h
    · cases h
    · split at h
      · injection h with h1 h2; subst h2; simp
      · split at h
        · rename_i v r' hv
          injection h with h1 h2; subst h2
          have := ih _ _ _ hv
          simp; omega
        · cases h
theorem rdInt_few {s : St} {n : Nat} (h : s.Few n) : (rdInt s).2.Few n := by
  cases s with
  | dead e => exact h
  | live b =>
    cases he : dec 0 b with
    | ok u r =>
      have := dec_length _ _ _ _ he
      simp only [rdInt, he, St.Few] at *; omega
    | err e => simp [rdInt, he, St.Few]
theorem rdMany_few {s : St} {n : Nat} (h : s.Few n) : (rdMany s).2.Few n ∧ (rdMany s).1 ≤ n := by
  have := rdInt_few h
  unfold rdMany
  split
  · exact ⟨trivial, Nat.zero_le _⟩
  · rename_i m r he
    rw [he] at this
    simp only [St.Few] at this
    split
    · exact ⟨trivial, Nat.zero_le _⟩
    · split
      · exact ⟨trivial, Nat.zero_le _⟩
      · exact ⟨this, by simp; omega⟩
theorem rdL_few : ∀ (k : Nat) {s : St} {n : Nat}, s.Few n → (rdL k s).2.Few n := by
  intro k
  induction k with
  | zero => intro s n h; exact h
  | succ k ih => intro s n h; rw [rdL]; exact ih (rdInt_few h)
theorem rdBool_few {s : St} {n : Nat} (h : s.Few n) : (rdBool s).2.Few n := by
  unfold rdBool
  split
  · trivial
  · trivial
  · split
    · trivial
    · simp only [St.Few, List.length_cons] at *; omega
theorem rdBytes_few {s : St} {n : Nat} (h : s.Few n) : (rdBytes s).2.Few n ∧ (rdBytes s).1.length ≤ n := by
  have := rdMany_few h
  unfold rdBytes
  split
  · exact ⟨trivial, Nat.zero_le _⟩
  · rename_i m r he
    rw [he] at this
    simp only [St.Few] at this
    refine ⟨?_, ?_⟩
    · simp only [St.Few, List.length_drop]; omega
    · simp; omega
theorem rdInts_few {s : St} {n : Nat} (h : s.Few n) : (rdInts s).2.Few n ∧ (rdInts s).1.length ≤ n := by
  have h1 := rdMany_few h
  have h2 := rdL_few (rdMany s).1 h1.1
  have h3 := rdL_length (rdMany s).1 (rdMany s).2
  unfold rdInts
  split
  · exact ⟨trivial, Nat.zero_le _⟩
  · rename_i l r he
    rw [he] at h2 h3
    exact ⟨h2, by simp only at h3 ⊢; omega⟩
theorem get_few {s : St} {n : Nat} (k : Int) (h : s.Few n) : (get k s).2.Few n := by
  unfold get
  split
  · exact rdInt_few h
  split
  · exact rdBool_few h
  split
  · exact (rdBytes_few h).1
  split
  · exact (rdInts_few h).1
  · exact h

/-! ### What was written is read -/

/-- The numbers of a value. -/
structure WfT (t : Th) : Prop where
  k : 0 ≤ t.k ∧ t.k ≤ 4
  n : I64 t.n
  d : t.d.length < 2 ^ 62
  l : t.l.length < 2 ^ 62 ∧ ∀ x ∈ t.l, I64 x

theorem i64_len {n : Nat} (h : n < 2 ^ 62) : I64 n := ⟨by omega, by omega⟩
theorem rdInt_int {n : Int} (h : I64 n) (r : List UInt8) : rdInt (.live (int n ++ r)) = (n, .live r) := by
  unfold int
  simp only [rdInt, dec_enc _ 0 r (by omega) (by simpa using zig_lt h) (.inr rfl), unzig_zig]
theorem rdInt_cut {n : Int} (h : I64 n) {c : Nat} (hc : c < (int n).length) : rdInt (.live ((int n).take c)) = (0, .dead 11) := by
  unfold int at hc ⊢
  simp only [rdInt, dec_cut _ 0 c (by omega) (by simpa using zig_lt h) (.inr rfl) hc]
theorem rdInt_inv {b r : List UInt8} {n : Int} (h : rdInt (.live b) = (n, .live r)) : b = int n ++ r ∧ I64 n := by
  cases he : dec 0 b with
  | ok u r' =>
    simp only [rdInt, he] at h
    injection h with h1 h2
    injection h2 with h2
    subst h1 h2
    obtain ⟨e1, e2, _⟩ := dec_ok b 0 u r' (by omega) he
    exact ⟨by rw [int, zig_unzig]; exact e1, unzig_i64 (by simpa using e2)⟩
  | err e =>
    simp only [rdInt, he] at h
    injection h with h1 h2; cases h2
theorem int_ne (n : Int) : int n ≠ [] := enc_ne _
theorem int_pos (n : Int) : 0 < (int n).length := enc_pos _
theorem int_len10 {n : Int} (h : I64 n) : (int n).length ≤ 10 := enc_len10 (zig_lt h)

theorem rdMany_int {n : Nat} (h : n < 2 ^ 62) {r : List UInt8} (hr : n ≤ r.length) : rdMany (.live (int n ++ r)) = (n, .live r) := by
  unfold rdMany
  rw [rdInt_int (i64_len h)]
  simp only
  rw [if_neg (by omega), if_neg (by omega)]
  simp
theorem rdMany_short {n : Nat} (h : n < 2 ^ 62) {r : List UInt8} (hr : r.length < n) : rdMany (.live (int n ++ r)) = (0, .dead 11) := by
  unfold rdMany
  rw [rdInt_int (i64_len h)]
  simp only
  rw [if_neg (by omega), if_pos (by omega)]
theorem rdMany_cut {n : Nat} (h : n < 2 ^ 62) {c : Nat} (hc : c < (int n).length) : rdMany (.live ((int n).take c)) = (0, .dead 11) := by
  unfold rdMany
  rw [rdInt_cut (i64_len h) hc]
theorem rdMany_inv {b r : List UInt8} {n : Nat} (h : rdMany (.live b) = (n, .live r)) : b = int n ++ r ∧ n ≤ r.length := by
  unfold rdMany at h
  split at h
  · injection h with h1 h2; cases h2
  · rename_i m r' he
    split at h
    · injection h with h1 h2; cases h2
    · split at h
      · injection h with h1 h2; cases h2
      · injection h with h1 h2
        injection h2 with h2
        subst h1 h2
        obtain ⟨e1, _⟩ := rdInt_inv he
        refine ⟨?_, by omega⟩
        rw [show ((m.toNat : Nat) : Int) = m from by omega]; exact e1

theorem ints_cons (x : Int) (l : List Int) : ints (x :: l) = int x ++ ints l := rfl
theorem ints_length : ∀ (l : List Int), l.length ≤ (ints l).length := by
  intro l
  induction l with
  | nil => simp
  | cons x l ih =>
    rw [ints_cons]
    have := int_pos x
    simp; omega
theorem rdL_ints : ∀ (l : List Int) (r : List UInt8), (∀ x ∈ l, I64 x) → rdL l.length (.live (ints l ++ r)) = (l, .live r) := by
  intro l
  induction l with
  | nil => intro r _; rfl
  | cons x l ih =>
    intro r h
    rw [List.length_cons, rdL, ints_cons, List.append_assoc, rdInt_int (h x (by simp))]
    simp only
    rw [ih r fun y hy => h y (by simp [hy])]
theorem rdL_cut : ∀ (l : List Int) (c : Nat), (∀ x ∈ l, I64 x) → c < (ints l).length → (rdL l.length (.live ((ints l).take c))).2 = .dead 11 := by
  intro l
  induction l with
  | nil => intro c _ h; simp [ints] at h
  | cons x l ih =>
    intro c h hc
    rw [ints_cons] at hc ⊢
    rw [List.length_cons, rdL]
    simp only
    by_cases hx : c < (int x).length
    · rw [List.take_append_of_le_length (by omega), rdInt_cut (h x (by simp)) hx]
      exact rdL_dead _ _
    · rw [List.take_append, List.take_of_length_le (by omega), rdInt_int (h x (by simp))]
      exact ih _ (fun y hy => h y (by simp [hy])) (by simp at hc; omega)
theorem rdL_inv : ∀ (k : Nat) (b r : List UInt8) (l : List Int), rdL k (.live b) = (l, .live r) → b = ints l ++ r ∧ ∀ x ∈ l, I64 x := by
  intro k
  induction k with
  | zero => intro b r l h; injection h with h1 h2; injection h2 with h2; subst h1 h2; exact ⟨rfl, by simp⟩
  | succ k ih =>
    intro b r l h
    rw [rdL] at h
    cases hs : (rdInt (.live b)).2 with
    | dead e =>
      rw [hs] at h
      injection h with h1 h2
      rw [rdL_dead] at h2; cases h2
    | live b1 =>
      rw [hs] at h
      have he : rdInt (.live b) = ((rdInt (.live b)).1, .live b1) := by rw [← hs]
      obtain ⟨e1, e2⟩ := rdInt_inv he
      injection h with h1 h2
      obtain ⟨e3, e4⟩ := ih b1 r _ (show rdL k (.live b1) = ((rdL k (.live b1)).1, .live r) from by rw [← h2])
      subst h1
      refine ⟨?_, ?_⟩
      · rw [ints_cons, List.append_assoc, ← e3]; exact e1
      · intro y hy
        rcases List.mem_cons.1 hy with rfl | hy
        · exact e2
        · exact e4 y hy

theorem put_pos {t : Th} (h : 0 ≤ t.k ∧ t.k ≤ 4) : 0 < (put t).length := by
  unfold put
  split
  · exact int_pos _
  split
  · simp
  split
  · have := int_pos t.d.length; simp; omega
  split
  · have := int_pos t.l.length; simp; omega
  · omega

theorem get_put {t : Th} (h : WfT t) (r : List UInt8) : get t.k (.live (put t ++ r)) = (only t, .live r) := by
  unfold get put only
  by_cases h0 : t.k = 0
  · simp only [if_pos h0]
    rw [rdInt_int h.n]; simp [h0]
  by_cases h1 : t.k = 1
  · simp only [if_neg h0, if_pos h1]
    rw [h1]
    cases t.b <;> rfl
  by_cases h2 : t.k = 2 ∨ t.k = 3
  · simp only [if_neg h0, if_neg h1, if_pos h2]
    rw [if_neg (by omega)]
    have e : rdBytes (.live (int t.d.length ++ t.d ++ r)) = (t.d, .live r) := by
      unfold rdBytes
      rw [List.append_assoc, rdMany_int h.d (by simp)]
      simp
    rw [e]
  by_cases h4 : t.k = 4
  · simp only [if_neg h0, if_neg h1, if_neg h2, if_pos h4]
    have e : rdInts (.live (int t.l.length ++ ints t.l ++ r)) = (t.l, .live r) := by
      unfold rdInts
      rw [List.append_assoc, rdMany_int h.l.1 (by have := ints_length t.l; simp; omega)]
      simp only
      rw [rdL_ints t.l r h.l.2]
    rw [e]; simp [h4]
  · have := h.k; omega

theorem get_cut {t : Th} (h : WfT t) {c : Nat} (hc : c < (put t).length) : get t.k (.live ((put t).take c)) = (zero t.k, .dead 11) := by
  unfold put at hc ⊢
  unfold get zero
  by_cases h0 : t.k = 0
  · simp only [if_pos h0] at hc ⊢
    rw [rdInt_cut h.n hc]
  by_cases h1 : t.k = 1
  · simp only [if_neg h0, if_pos h1] at hc ⊢
    obtain rfl : c = 0 := by simpa using hc
    rfl
  by_cases h2 : t.k = 2 ∨ t.k = 3
  · simp only [if_neg h0, if_neg h1, if_pos h2] at hc ⊢
    have e : rdBytes (.live ((int t.d.length ++ t.d).take c)) = ([], .dead 11) := by
      unfold rdBytes
      by_cases hx : c < (int t.d.length).length
      · rw [List.take_append_of_le_length (by omega), rdMany_cut h.d hx]
      · rw [List.take_append, List.take_of_length_le (by omega), rdMany_short h.d (by simp at hc ⊢; omega)]
    rw [e]
  by_cases h4 : t.k = 4
  · simp only [if_neg h0, if_neg h1, if_neg h2, if_pos h4] at hc ⊢
    have e : rdInts (.live ((int t.l.length ++ ints t.l).take c)) = ([], .dead 11) := by
      unfold rdInts
      by_cases hx : c < (int t.l.length).length
      · rw [List.take_append_of_le_length (by omega), rdMany_cut h.l.1 hx]; rfl
      · rw [List.take_append, List.take_of_length_le (by omega)]
        by_cases hy : ((ints t.l).take (c - (int t.l.length).length)).length < t.l.length
        · rw [rdMany_short h.l.1 hy]; rfl
        · rw [rdMany_int h.l.1 (by omega)]
          simp only
          have e := rdL_cut t.l (c - (int t.l.length).length) h.l.2 (by simp at hc; omega)
          split
          · rename_i e' he; rw [he] at e; simp only at e; rw [e]
          · rename_i l r he; rw [he] at e; cases e
    rw [e]
  · have := h.k; omega

/-- What is read was written. -/
theorem get_inv {k : Int} (hk : 0 ≤ k ∧ k ≤ 4) {b r : List UInt8} {t : Th} (h : get k (.live b) = (t, .live r)) : t.k = k ∧ b = put t ++ r := by
  unfold get at h
  by_cases h0 : k = 0
  · rw [if_pos h0] at h
    injection h with h1 h2
    obtain ⟨e1, _⟩ := rdInt_inv (show rdInt (.live b) = ((rdInt (.live b)).1, .live r) from by rw [← h2])
    subst h1
    exact ⟨rfl, by unfold put; simp only [if_pos h0]; exact e1⟩
  rw [if_neg h0] at h
  by_cases h1 : k = 1
  · rw [if_pos h1] at h
    injection h with h2 h3
    subst h2
    refine ⟨rfl, ?_⟩
    unfold put
    simp only [if_neg h0, if_pos h1]
    cases b with
    | nil => cases h3
    | cons c b =>
      by_cases hc : 1 < c.toNat
      · simp only [rdBool, if_pos hc] at h3; cases h3
      · simp only [rdBool, if_neg hc] at h3 ⊢
        injection h3 with h3
        subst h3
        by_cases hc1 : c.toNat = 1
        · have : c = 1 := UInt8.toNat_inj.1 (by rw [hc1]; rfl)
          subst this; rfl
        · have : c = 0 := UInt8.toNat_inj.1 (by rw [show c.toNat = 0 from by omega]; rfl)
          subst this; rfl
  rw [if_neg h1] at h
  by_cases h2 : k = 2 ∨ k = 3
  · rw [if_pos h2] at h
    injection h with h3 h4
    subst h3
    refine ⟨rfl, ?_⟩
    unfold put
    simp only [if_neg h0, if_neg h1, if_pos h2]
    unfold rdBytes at h4 ⊢
    split at h4
    · cases h4
    · rename_i n r' he
      obtain ⟨e1, e2⟩ := rdMany_inv he
      injection h4 with h4
      subst h4
      simp only
      rw [List.length_take, Nat.min_eq_left e2, List.append_assoc, List.take_append_drop]
      exact e1
  rw [if_neg h2] at h
  have h4 : k = 4 := by omega
  rw [if_pos h4] at h
  injection h with h5 h6
  subst h5
  refine ⟨rfl, ?_⟩
  unfold put
  simp only [if_neg h0, if_neg h1, if_neg h2, if_pos h4]
  unfold rdInts at h6 ⊢
  split at h6
  · cases h6
  · rename_i l r' he
    injection h6 with h6
    subst h6
    simp only
    cases hs : (rdMany (.live b)).2 with
    | dead e =>
      rw [hs] at he
      have := rdL_dead e (rdMany (.live b)).1
      rw [he] at this; cases this
    | live b1 =>
      obtain ⟨e1, e2⟩ := rdMany_inv (show rdMany (.live b) = ((rdMany (.live b)).1, .live b1) from by rw [← hs])
      rw [hs] at he
      obtain ⟨e3, _⟩ := rdL_inv _ _ _ _ he
      have e4 := rdL_length (rdMany (.live b)).1 (.live b1)
      rw [he] at e4
      simp only at e4
      rw [e4, List.append_assoc, ← e3]
      exact e1

/-! ### Lists of values -/

theorem all_cons (t : Th) (l : List Th) : all (t :: l) = put t ++ all l := rfl
theorem all_snoc (l : List Th) (t : Th) : all (l ++ [t]) = all l ++ put t := by simp [all]
theorem all_take {l : List Th} {k : Nat} {t : Th} (h : l[k]? = some t) : all (l.take (k + 1)) = all (l.take k) ++ put t := by
  rw [← all_snoc]; congr 1; rw [List.take_add_one, h]; rfl
theorem all_split (l : List Th) (k : Nat) : all l = all (l.take k) ++ all (l.drop k) := by
  unfold all; rw [← List.flatMap_append, List.take_append_drop]
theorem drop_cons {α : Type} {l : List α} {k : Nat} {t : α} (h : l[k]? = some t) : l.drop k = t :: l.drop (k + 1) := by
  obtain ⟨hk, e⟩ := List.getElem?_eq_some_iff.1 h
  rw [List.drop_eq_getElem_cons hk, e]

/-- The state of a reader of 'all l' cut at c, after k values. -/
def cutSt (l : List Th) (k : Nat) (x : List UInt8) (c : Nat) : St :=
  if (all (l.take k)).length ≤ c then .live ((all (l.drop k) ++ x).take (c - (all (l.take k)).length)) else .dead 11

theorem put_only (t : Th) : put (only t) = put t := by
  unfold only
  split
  · rename_i h; simp [put, h]
  split
  · rename_i h; simp [put, h]
  split
  · rename_i h; simp [put, h]
  · rename_i h0 h1 h4; simp [put, h0, h1, h4]
theorem all_only {l m : List Th} (h : l.map only = m.map only) : all l = all m := by
  have e : ∀ l : List Th, all l = (l.map only).flatMap put := by
    intro l
    induction l with
    | nil => rfl
    | cons t l ih => rw [all_cons, List.map_cons, List.flatMap_cons, put_only, ih]
  rw [e, e, h]
theorem only_k (t : Th) : (only t).k = t.k := by
  unfold only
  split
  · rename_i h; exact h.symm
  split
  · rename_i h; exact h.symm
  split
  · rename_i h; exact h.symm
  · rfl

theorem got_all : ∀ (l : List Th) (r : List UInt8), (∀ t ∈ l, WfT t) → got (l.map (·.k)) (.live (all l ++ r)) = l.map only := by
  intro l
  induction l with
  | nil => intro r _; rfl
  | cons t l ih =>
    intro r h
    rw [List.map_cons, got, all_cons, List.append_assoc, get_put (h t (by simp))]
    simp only
    rw [ih r fun y hy => h y (by simp [hy])]
    rfl
/-- Different values, different bytes. -/
theorem all_inj {l m : List Th} (hl : ∀ t ∈ l, WfT t) (hm : ∀ t ∈ m, WfT t) (hk : l.map (·.k) = m.map (·.k)) (h : all l = all m) : l.map only = m.map only := by
  have e1 := got_all l [] hl
  have e2 := got_all m [] hm
  rw [hk, h] at e1
  exact e1.symm.trans e2

/-- One more value read of a cut encoding. -/
theorem get_cutSt {l : List Th} {k : Nat} {t : Th} (h : l[k]? = some t) (hw : WfT t) (x : List UInt8) (c : Nat) :
    get t.k (cutSt l k x c) = (if (all (l.take (k + 1))).length ≤ c then only t else zero t.k, cutSt l (k + 1) x c) := by
  unfold cutSt
  have e1 := all_take h
  have e2 := drop_cons h
  have e3 : (all (l.take (k + 1))).length = (all (l.take k)).length + (put t).length := by rw [e1]; simp
  by_cases h1 : (all (l.take k)).length ≤ c
  · rw [if_pos h1, e2, all_cons, List.append_assoc]
    by_cases h2 : (all (l.take (k + 1))).length ≤ c
    · rw [if_pos h2, if_pos h2]
      rw [List.take_append, List.take_of_length_le (by omega), get_put hw]
      rw [show c - (all (l.take k)).length - (put t).length = c - (all (l.take (k + 1))).length from by omega]
    · rw [if_neg h2, if_neg h2, List.take_append_of_le_length (by omega), get_cut hw (by omega)]
  · rw [if_neg h1, get_dead, if_neg (by omega), if_neg (by omega)]
end Wr
