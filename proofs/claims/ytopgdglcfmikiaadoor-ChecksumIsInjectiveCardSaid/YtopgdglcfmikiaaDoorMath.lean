import Derived.Lib.Hide
set_option linter.unusedSectionVars false
namespace Cs

/-! ### One step -/

def mul (x : Nat) : Nat := x * 1099511628211 % 18446744073709551616
def fold32 (x : Nat) : Nat := x ^^^ (x / 4294967296)
/-- Adding the byte b to the checksum c. -/
def step (c b : Nat) : Nat := fold32 (mul (c ^^^ b))

theorem mul_lt (x : Nat) : mul x < 18446744073709551616 := Nat.mod_lt _ (by decide)
theorem xor_lt {x y : Nat} (hx : x < 18446744073709551616) (hy : y < 18446744073709551616) : x ^^^ y < 18446744073709551616 := Nat.xor_lt_two_pow (n := 64) hx hy
theorem fold32_lt {x : Nat} (hx : x < 18446744073709551616) : fold32 x < 18446744073709551616 := xor_lt hx (by omega)
theorem step_lt (c b : Nat) : step c b < 18446744073709551616 := fold32_lt (mul_lt _)

theorem mul_back {x : Nat} (hx : x < 18446744073709551616) : mul x * 14886173955864302971 % 18446744073709551616 = x := by
  unfold mul
  rw [Nat.mod_mul_mod, Nat.mul_assoc]
  have : 1099511628211 * 14886173955864302971 % 18446744073709551616 = 1 := by decide
  rw [Nat.mul_mod, this, Nat.mul_one, Nat.mod_mod, Nat.mod_eq_of_lt hx]
theorem mul_inj {x y : Nat} (hx : x < 18446744073709551616) (hy : y < 18446744073709551616) (h : mul x = mul y) : x = y := by
  rw [← mul_back hx, ← mul_back hy, h]
theorem fold32_back {x : Nat} (hx : x < 18446744073709551616) : fold32 (fold32 x) = x := by
  unfold fold32
  have e : ∀ y : Nat, y / 4294967296 = y >>> 32 := fun y => by rw [Nat.shiftRight_eq_div_pow]
  rw [e, e, Nat.shiftRight_xor_distrib, ← Nat.shiftRight_add, ← e]
  have h64 : x >>> (32 + 32) = 0 := by rw [Nat.shiftRight_eq_div_pow]; exact Nat.div_eq_of_lt (by simpa using hx)
  rw [h64, Nat.xor_zero, Nat.xor_assoc, Nat.xor_self, Nat.xor_zero]
theorem fold32_inj {x y : Nat} (hx : x < 18446744073709551616) (hy : y < 18446744073709551616) (h : fold32 x = fold32 y) : x = y := by
  rw [← fold32_back hx, ← fold32_back hy, h]
theorem xor_cancel {c d b : Nat} (h : c ^^^ b = d ^^^ b) : c = d := by
  have := congrArg (· ^^^ b) h
  simpa [Nat.xor_assoc] using this
theorem step_inj {c d b : Nat} (hc : c < 18446744073709551616) (hd : d < 18446744073709551616) (hb : b < 256) (h : step c b = step d b) : c = d :=
  xor_cancel (mul_inj (xor_lt hc (by omega)) (xor_lt hd (by omega)) (fold32_inj (mul_lt _) (mul_lt _) h))
theorem step_byte {c a b : Nat} (hc : c < 18446744073709551616) (ha : a < 256) (hb : b < 256) (h : step c a = step c b) : a = b := by
  have h1 := mul_inj (xor_lt hc (by omega)) (xor_lt hc (by omega)) (fold32_inj (mul_lt _) (mul_lt _) h)
  have := congrArg (c ^^^ ·) h1
  simpa [← Nat.xor_assoc] using this

/-! ### Bytes -/

/-- Adding bytes. -/
def more (c : Nat) (l : List Nat) : Nat := l.foldl step c
theorem foldl_snoc (f : Nat → Nat → Nat) (c : Nat) (l : List Nat) (b : Nat) : (l ++ [b]).foldl f c = f (l.foldl f c) b := by simp
theorem foldl_app (f : Nat → Nat → Nat) (c : Nat) (l m : List Nat) : (l ++ m).foldl f c = m.foldl f (l.foldl f c) := by simp
def Bytes (l : List Nat) : Prop := ∀ b ∈ l, b < 256
theorem more_nil (c : Nat) : more c [] = c := rfl
theorem more_cons (c b : Nat) (l : List Nat) : more c (b :: l) = more (step c b) l := by
  unfold more
  rw [List.foldl_cons]
theorem more_append (c : Nat) (l m : List Nat) : more c (l ++ m) = more (more c l) m := foldl_app step c l m
theorem more_lt {c : Nat} (hc : c < 18446744073709551616) (l : List Nat) : more c l < 18446744073709551616 := by
  induction l generalizing c with
  | nil => exact hc
  | cons b l ih => rw [more_cons]; exact ih (step_lt _ _)
theorem more_inj {c d : Nat} (hc : c < 18446744073709551616) (hd : d < 18446744073709551616) {l : List Nat} (hl : Bytes l) (h : more c l = more d l) : c = d := by
  induction l generalizing c d with
  | nil => exact h
  | cons b l ih =>
    rw [more_cons, more_cons] at h
    exact step_inj hc hd (hl b (by simp)) (ih (step_lt _ _) (step_lt _ _) (fun x hx => hl x (by simp [hx])) h)
theorem more_snoc (c : Nat) (l : List Nat) (b : Nat) : more c (l ++ [b]) = step (more c l) b := foldl_snoc step c l b
/-- One byte changed: another checksum. -/
theorem more_change {c : Nat} (hc : c < 18446744073709551616) {l : List Nat} (hl : Bytes l) {i a : Nat} (ha : a < 256) {b : Nat} (hi : l[i]? = some b) (hne : a ≠ b) : more c (l.set i a) ≠ more c l := by
  intro h
  have hil := (List.getElem?_eq_some_iff.1 hi).1
  have hb := (List.getElem?_eq_some_iff.1 hi).2
  have e1 : l = l.take i ++ b :: l.drop (i + 1) := by
    rw [← hb, List.getElem_cons_drop, List.take_append_drop]
  have e2 : l.set i a = l.take i ++ a :: l.drop (i + 1) := by
    rw [List.set_eq_take_append_cons_drop, if_pos hil]
  rw [e2] at h
  rw [show more c l = more c (l.take i ++ b :: l.drop (i + 1)) by rw [← e1]] at h
  rw [more_append, more_append, more_cons, more_cons] at h
  have h2 := more_inj (step_lt _ _) (step_lt _ _) (fun x hx => hl x (List.mem_of_mem_drop hx)) h
  exact hne (step_byte (more_lt hc _) ha (hl b (List.mem_of_getElem? hi)) h2)

/-- The bytes of a number, the least significant first. -/
def le : Nat → Nat → List Nat
  | 0, _ => []
  | k + 1, n => n % 256 :: le k (n / 256)
theorem le_snoc (k n : Nat) : le (k + 1) n = le k n ++ [n / 256 ^ k % 256] := by
  induction k generalizing n with
  | zero => simp [le]
  | succ k ih =>
    rw [show le (k + 1 + 1) n = n % 256 :: le (k + 1) (n / 256) from rfl, ih, show le (k + 1) n = n % 256 :: le k (n / 256) from rfl, Nat.div_div_eq_div_mul, Nat.pow_succ, Nat.mul_comm (256 ^ k) 256]
    rfl
theorem le_length (k n : Nat) : (le k n).length = k := by
  induction k generalizing n with
  | zero => rfl
  | succ k ih => simp [le, ih]
theorem le_bytes (k n : Nat) : Bytes (le k n) := by
  induction k generalizing n with
  | zero => intro b h; cases h
  | succ k ih =>
    intro b h
    rcases List.mem_cons.1 h with rfl | h
    · exact Nat.mod_lt _ (by decide)
    · exact ih _ b h

def init : Nat := 14695981039346656037
def chain (prev kind : Nat) (body : List Nat) : Nat := more init (le 8 prev ++ [kind] ++ le 8 body.length ++ body)
def words (l : List Nat) : Nat := more init (l.flatMap (le 8))
theorem init_lt : init < 18446744073709551616 := by decide
theorem chain_eq (prev kind : Nat) (body : List Nat) : chain prev kind body = more (more (step (more init (le 8 prev)) kind) (le 8 body.length)) body := by
  unfold chain
  rw [more_append, more_append, more_snoc]
theorem words_snoc (l : List Nat) (n : Nat) : words (l ++ [n]) = more (words l) (le 8 n) := by
  unfold words
  rw [List.flatMap_append, more_append]; simp

/-! ### The reference's exclusive or, bit by bit -/

theorem mod_succ_xor (a b k : Nat) : (a ^^^ b) % 2 ^ (k + 1) = (a ^^^ b) % 2 ^ k + if a / 2 ^ k % 2 = b / 2 ^ k % 2 then 0 else 2 ^ k := by
  rw [Nat.mod_pow_succ]
  have e : ∀ y : Nat, y / 2 ^ k = y >>> k := fun y => by rw [Nat.shiftRight_eq_div_pow]
  have h1 : (a ^^^ b) / 2 ^ k % 2 = (a / 2 ^ k % 2) ^^^ (b / 2 ^ k % 2) := by
    rw [e, Nat.shiftRight_xor_distrib, ← e, ← e]
    exact Nat.xor_mod_two_pow (n := 1)
  rw [h1]
  have ha := Nat.mod_lt (a / 2 ^ k) (show 0 < 2 by decide)
  have hb := Nat.mod_lt (b / 2 ^ k) (show 0 < 2 by decide)
  generalize a / 2 ^ k % 2 = p at *
  generalize b / 2 ^ k % 2 = q at *
  congr 1
  rcases (show p = 0 ∨ p = 1 by omega) with rfl | rfl <;> rcases (show q = 0 ∨ q = 1 by omega) with rfl | rfl <;> simp
theorem xor_low (c b : Nat) (hb : b < 256) : c - c % 256 + ((c % 256) ^^^ b) = c ^^^ b := by
  have h1 : (c ^^^ b) % 256 = (c % 256) ^^^ b := by
    have := Nat.xor_mod_two_pow (a := c) (b := b) (n := 8)
    rw [show (2 : Nat) ^ 8 = 256 by decide] at this
    rw [this, Nat.mod_eq_of_lt hb]
  have h2 : (c ^^^ b) / 256 = c / 256 := by
    have e : ∀ y : Nat, y / 256 = y >>> 8 := fun y => by rw [Nat.shiftRight_eq_div_pow]
    rw [e, Nat.shiftRight_xor_distrib, ← e, ← e, Nat.div_eq_of_lt hb, Nat.xor_zero]
  have h3 := Nat.div_add_mod (c ^^^ b) 256
  have h4 := Nat.div_add_mod c 256
  rw [h1, h2] at h3
  omega

/-! ### Hexadecimal -/

def hexd : List UInt8 := [48, 49, 50, 51, 52, 53, 54, 55, 56, 57, 97, 98, 99, 100, 101, 102]
/-- The k last hexadecimal digits of n. -/
def hex : Nat → Nat → List UInt8
  | 0, _ => []
  | k + 1, n => hex k (n / 16) ++ [hexd.getD (n % 16) 0]
theorem hex_length (k n : Nat) : (hex k n).length = k := by
  induction k generalizing n with
  | zero => rfl
  | succ k ih => simp [hex, ih]
/-- The value of a digit. -/
def val (c : UInt8) : Option Nat := hexd.idxOf? c
/-- The value of digits behind n. -/
def unhex (n : Nat) : List UInt8 → Option Nat
  | [] => some n
  | c :: t => match val c with
    | some d => unhex (n * 16 + d) t
    | none => none
def parse (l : List UInt8) : Option Nat := if l.length = 16 then unhex 0 l else none
theorem val_hexd : ∀ d, d < 16 → val (hexd.getD d 0) = some d := by decide
theorem unhex_append (n : Nat) (l m : List UInt8) : unhex n (l ++ m) = (unhex n l).bind fun k => unhex k m := by
  induction l generalizing n with
  | nil => rfl
  | cons c t ih =>
    rw [List.cons_append]
    simp only [unhex]
    cases val c with
    | none => rfl
    | some d => simp only []; exact ih _
theorem unhex_hex (k : Nat) : ∀ n m : Nat, n < 16 ^ k → unhex m (hex k n) = some (m * 16 ^ k + n) := by
  induction k with
  | zero => intro n m h; simp [hex, unhex]; omega
  | succ k ih =>
    intro n m h
    have h1 : n / 16 < 16 ^ k := by rw [Nat.pow_succ] at h; omega
    show unhex m (hex k (n / 16) ++ [hexd.getD (n % 16) 0]) = _
    rw [unhex_append, ih _ _ h1]
    have h2 := val_hexd (n % 16) (Nat.mod_lt _ (by decide))
    simp only [Option.bind, unhex, h2]
    congr 1
    rw [Nat.pow_succ, ← Nat.mul_assoc, Nat.add_mul, Nat.mul_assoc]
    omega
theorem parse_hex {n : Nat} (h : n < 18446744073709551616) : parse (hex 16 n) = some n := by
  unfold parse
  rw [if_pos (hex_length _ _), unhex_hex 16 n 0 (by simpa using h)]; simp
end Cs
