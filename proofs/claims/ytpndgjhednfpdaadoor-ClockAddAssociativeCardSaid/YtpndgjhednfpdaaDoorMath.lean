/- Plain facts about the clock's texts: lists of bytes and numbers alone. -/
import Derived.Lib.ItoaNum
import Derived.Lib.ItoaMem
import Derived.Lib.ParseIntB
import Derived.Lib.IndexMore
import Derived.Lib.Join
import Derived.Lib.Strings
namespace Clk
open Go Go.Lib

abbrev Bs := List UInt8

/-! ### Decimal numerals -/

theorem dd_small {u : Nat} (h : u < 10) : decDigits u = [UInt8.ofNat (48 + u)] := by rw [decDigits, dif_pos h]
theorem dd_big {u : Nat} (h : ¬ u < 10) : decDigits u = decDigits (u / 10) ++ [UInt8.ofNat (48 + u % 10)] := by rw [decDigits, dif_neg h]

theorem ofNat_toNat {n : Nat} (h : n < 256) : (UInt8.ofNat n).toNat = n := by
  simp [UInt8.toNat_ofNat']; omega

theorem dd_bytes (u : Nat) : ∀ c ∈ decDigits u, 48 ≤ c.toNat ∧ c.toNat ≤ 57 := by
  induction u using Nat.strongRecOn with
  | _ u ih =>
    by_cases h : u < 10
    · rw [dd_small h]; intro c hc
      rw [List.mem_singleton] at hc; subst hc
      rw [ofNat_toNat (by omega)]; omega
    · rw [dd_big h]; intro c hc
      rw [List.mem_append, List.mem_singleton] at hc
      rcases hc with hc | rfl
      · exact ih _ (by omega) c hc
      · rw [ofNat_toNat (by omega)]; omega

theorem dd_ne (u : Nat) : decDigits u ≠ [] := by
  by_cases h : u < 10
  · rw [dd_small h]; simp
  · rw [dd_big h]; simp

theorem dd_not_mem (u : Nat) (c : UInt8) (h : c.toNat < 48 ∨ 57 < c.toNat) : c ∉ decDigits u := by
  intro hc; have := dd_bytes u c hc; omega

theorem dd_two {n : Nat} (h1 : ¬ n < 10) (h : n < 100) : decDigits n = [UInt8.ofNat (48 + n / 10), UInt8.ofNat (48 + n % 10)] := decDigits_two h1 h

theorem parseUintM_dd (M : Nat) (hM : M = 18446744073709551615) (u : Nat) : u ≤ M → ∀ r, parseUintM M 0 (decDigits u ++ r) = parseUintM M u r := by
  induction u using Nat.strongRecOn with
  | _ u ih =>
    intro hu r
    by_cases h : u < 10
    · rw [dd_small h]
      simp only [List.singleton_append, parseUintM]
      rw [ofNat_toNat (by omega), if_pos (by omega), if_neg (by omega), if_neg (by omega)]
      congr 1; omega
    · rw [dd_big h, List.append_assoc, ih (u / 10) (by omega) (by omega)]
      simp only [List.singleton_append, parseUintM]
      rw [ofNat_toNat (by omega), if_pos (by omega), if_neg (by omega), if_neg (by omega)]
      congr 1; omega

theorem parseIntB_dd (u : Nat) (hu : u < 9223372036854775808) : parseIntB 64 (decDigits u) = .ok (u : Int) := by
  have hb := dd_bytes u
  have hn := dd_ne u
  have hp := parseUintM_dd 18446744073709551615 rfl u (by omega) []
  rw [List.append_nil] at hp
  generalize decDigits u = l at *
  match l, hn with
  | c :: r, _ =>
    have hc := hb c (by simp)
    have h1 : ¬ (c.toNat = 43 ∨ c.toNat = 45) := by omega
    have h2 : ¬ (c.toNat = 45) := by omega
    have hpw : (2 : Nat) ^ 64 - 1 = 18446744073709551615 := by decide
    have hpv : (2 : Nat) ^ (64 - 1) = 9223372036854775808 := by decide
    have hq : parseUintB 64 (c :: r) = .ok u := by
      unfold parseUintB; rw [if_neg (by simp), hpw, hp]; rfl
    unfold parseIntB
    simp only [if_neg h1]
    rw [hq]
    simp only [h2, not_false_eq_true, true_and, false_and, if_false, hpv]
    rw [if_neg (by omega)]

/-! ### Cutting -/

theorem not_prefix_head {c : UInt8} {t : Bs} {b : UInt8} {l : Bs} (h : b ≠ c) : (c :: t).isPrefixOf (b :: l) = false := by
  simp [List.isPrefixOf]; intro h'; exact absurd h'.symm h

theorem index_here (c : UInt8) (t r : Bs) : index (c :: t ++ r) (c :: t) = 0 := by
  rw [List.cons_append, index, if_pos]
  rw [List.isPrefixOf_iff_prefix]
  exact List.prefix_append (c :: t) r

theorem index_skip (c : UInt8) (t r : Bs) : ∀ p : Bs, c ∉ p → index (p ++ (c :: t ++ r)) (c :: t) = p.length
  | [], _ => by simpa using index_here c t r
  | b :: p, h => by
    have hb : b ≠ c := fun e => h (e ▸ List.mem_cons_self)
    have ih := index_skip c t r p (fun e => h (List.mem_cons_of_mem _ e))
    rw [List.cons_append, index, not_prefix_head hb, ih]
    have : ((p.length : Int) == -1) = false := by rw [beq_eq_false_iff_ne]; omega
    simp [this]

theorem index_none_of (c : UInt8) (t : Bs) : ∀ p : Bs, c ∉ p → index p (c :: t) = -1
  | [], _ => by simp [index]
  | b :: p, h => by
    have hb : b ≠ c := fun e => h (e ▸ List.mem_cons_self)
    have ih := index_none_of c t p (fun e => h (List.mem_cons_of_mem _ e))
    rw [index, not_prefix_head hb, ih]; simp

theorem cut_at (c : UInt8) (t p r : Bs) (h : c ∉ p) : cut (p ++ (c :: t ++ r)) (c :: t) = (p, r, true) := by
  unfold cut
  rw [index_skip c t r p h, if_pos (by omega)]
  simp only [Int.toNat_natCast, Prod.mk.injEq, and_true]
  refine ⟨by simp, ?_⟩
  rw [List.drop_append]; simp

theorem cut_none (c : UInt8) (t p : Bs) (h : c ∉ p) : cut p (c :: t) = (p, [], false) := by
  unfold cut
  rw [index_none_of c t p h, if_neg (by omega)]

/-! ### Times -/

/-- What an argument counts as. -/
def hold (t : Int) : Int := if t < 0 then 0 else if 4611686018427387904 < t then 4611686018427387904 else t

theorem hold_bd (t : Int) : 0 ≤ hold t ∧ hold t ≤ 4611686018427387904 := by unfold hold; split <;> (try split) <;> omega
theorem hold_id {t : Int} (h0 : 0 ≤ t) (h1 : t ≤ 4611686018427387904) : hold t = t := by unfold hold; rw [if_neg (by omega), if_neg (by omega)]

/-- The saturating sum. -/
def sadd (t d : Int) : Int := if 4611686018427387904 < hold t + hold d then 4611686018427387904 else hold t + hold d

def never : Bs := [110, 101, 118, 101, 114]

/-- Two digits. -/
def two (n : Nat) : Bs := [UInt8.ofNat (48 + n / 10), UInt8.ofNat (48 + n % 10)]

def hms (n : Nat) : Bs := two (n % 86400 / 3600) ++ ([58] ++ (two (n % 3600 / 60) ++ ([58] ++ two (n % 60))))

/-- The text of a time. -/
def text (n : Nat) : Bs := if n = 4611686018427387904 then never else decDigits (n / 86400) ++ ([100, 32] ++ hms n)

def num (l : Bs) : Int := match parseIntB 64 l with | .ok v => v | .range => intSat 64 l | _ => 0

theorem num_dd (u : Nat) (h : u < 9223372036854775808) : num (decDigits u) = u := by unfold num; rw [parseIntB_dd u h]

theorem u8_eq {a b : UInt8} (h : a.toNat = b.toNat) : a = b := UInt8.toNat_inj.1 h

theorem two_bytes (n : Nat) (h : n < 100) : ∀ c ∈ two n, 48 ≤ c.toNat ∧ c.toNat ≤ 57 := by
  intro c hc
  simp only [two, List.mem_cons, List.not_mem_nil, or_false] at hc
  rcases hc with rfl | rfl
  · rw [ofNat_toNat (by omega)]; omega
  · rw [ofNat_toNat (by omega)]; omega

theorem two_not_mem (n : Nat) (h : n < 100) (c : UInt8) (hc : c.toNat < 48 ∨ 57 < c.toNat) : c ∉ two n := by
  intro hm; have := two_bytes n h c hm; omega

theorem num_two (n : Nat) (h : n < 100) : num (two n) = n := by
  unfold num
  have e : parseIntB 64 (two n) = .ok (n : Int) := by
    by_cases h1 : n < 10
    · have h2 : UInt8.ofNat (48 + n / 10) = 48 := by rw [show n / 10 = 0 by omega]; rfl
      have hq : parseUintB 64 (two n) = .ok n := by
        unfold parseUintB two
        rw [if_neg (by simp)]
        simp only [parseUintM]
        rw [ofNat_toNat (by omega), ofNat_toNat (by omega)]
        have hpw : (2 : Nat) ^ 64 - 1 = 18446744073709551615 := by decide
        rw [hpw, if_pos (by omega), if_neg (by omega), if_neg (by omega), if_pos (by omega), if_neg (by omega), if_neg (by omega)]
        congr 1; omega
      unfold parseIntB
      have hc : (UInt8.ofNat (48 + n / 10)).toNat = 48 := by rw [h2]; rfl
      unfold two at hq ⊢
      simp only [hc]
      rw [if_neg (by omega), hq]
      simp only [show ¬ ((48 : Nat) = 45) by omega, not_false_eq_true, true_and, false_and, if_false]
      rw [if_neg (by have : (2 : Nat) ^ (64 - 1) = 9223372036854775808 := by decide
                     omega)]
    · have : two n = decDigits n := by rw [dd_two h1 h]; rfl
      rw [this]; exact parseIntB_dd n (by omega)
  rw [e]

/-- What readTime makes of the fields (no overflow: see 'read_text'). -/
def fields (s : Bs) : Int × Int × Int × Int :=
  (num (cut s [100, 32]).1, num (cut (cut s [100, 32]).2.1 [58]).1, num (cut (cut (cut s [100, 32]).2.1 [58]).2.1 [58]).1, num (cut (cut (cut s [100, 32]).2.1 [58]).2.1 [58]).2.1)

theorem fields_text (n : Nat) (h : n < 4611686018427387904) : fields (text n) = (((n / 86400 : Nat) : Int), ((n % 86400 / 3600 : Nat) : Int), ((n % 3600 / 60 : Nat) : Int), ((n % 60 : Nat) : Int)) := by
  have e1 : cut (text n) [100, 32] = (decDigits (n / 86400), hms n, true) := by
    unfold text; rw [if_neg (by omega)]
    exact cut_at 100 [32] _ _ (dd_not_mem _ _ (by decide))
  have e2 : cut (hms n) [58] = (two (n % 86400 / 3600), two (n % 3600 / 60) ++ ([58] ++ two (n % 60)), true) := by
    unfold hms; exact cut_at 58 [] _ _ (two_not_mem _ (by omega) _ (by decide))
  have e3 : cut (two (n % 3600 / 60) ++ ([58] ++ two (n % 60))) [58] = (two (n % 3600 / 60), two (n % 60), true) :=
    cut_at 58 [] _ _ (two_not_mem _ (by omega) _ (by decide))
  unfold fields
  rw [e1]; simp only []; rw [e2]; simp only []; rw [e3]
  simp only []
  rw [num_dd _ (by omega), num_two _ (by omega), num_two _ (by omega), num_two _ (by omega)]

theorem text_length (n : Nat) (h : n < 4611686018427387904) : (text n).length = nDigits (n / 86400) + 10 := by
  unfold text; rw [if_neg (by omega)]
  simp [hms, two, decDigits_length]

theorem text_ne_never (n : Nat) (h : n < 4611686018427387904) : text n ≠ never := by
  intro e
  have h1 := text_length n h
  rw [e] at h1
  simp only [never, List.length_cons, List.length_nil] at h1
  omega

/-! ### Durations -/

theorem hasSuffix_snoc (l : Bs) (c d : UInt8) : hasSuffix (l ++ [c]) [d] = (c == d) := by
  unfold hasSuffix
  rw [Bool.eq_iff_iff, List.isSuffixOf_iff_suffix, beq_iff_eq]
  constructor
  · rintro ⟨t, ht⟩
    have := congrArg List.getLast? ht
    simp at this; exact this.symm
  · rintro rfl; exact List.suffix_append _ _

theorem trimSuffix_snoc (l : Bs) (c : UInt8) : trimSuffix (l ++ [c]) [c] = l := by
  unfold trimSuffix
  rw [hasSuffix_snoc, if_pos (by simp)]
  simp

/-- The seconds of one component, before Go's own wrap. -/
def comp (p : Bs) : Int × Int :=
  if hasSuffix p [104] then (num (trimSuffix p [104]), 3600) else if hasSuffix p [109] then (num (trimSuffix p [109]), 60) else if hasSuffix p [115] then (num (trimSuffix p [115]), 1) else (0, 0)

theorem comp_h (u : Nat) (h : u < 9223372036854775808) : comp (decDigits u ++ [104]) = ((u : Int), 3600) := by
  unfold comp; rw [hasSuffix_snoc, if_pos (by decide), trimSuffix_snoc, num_dd u h]
theorem comp_m (u : Nat) (h : u < 9223372036854775808) : comp (decDigits u ++ [109]) = ((u : Int), 60) := by
  unfold comp; rw [hasSuffix_snoc, if_neg (by decide), hasSuffix_snoc, if_pos (by decide), trimSuffix_snoc, num_dd u h]
theorem comp_s (u : Nat) (h : u < 9223372036854775808) : comp (decDigits u ++ [115]) = ((u : Int), 1) := by
  unfold comp; rw [hasSuffix_snoc, if_neg (by decide), hasSuffix_snoc, if_neg (by decide), hasSuffix_snoc, if_pos (by decide), trimSuffix_snoc, num_dd u h]

/-- The parts of a duration's text. -/
def parts (n : Nat) : List Bs :=
  (if 0 < n / 3600 then [decDigits (n / 3600) ++ [104]] else []) ++ ((if 0 < n % 3600 / 60 then [decDigits (n % 3600 / 60) ++ [109]] else []) ++ (if 0 < n % 60 then [decDigits (n % 60) ++ [115]] else []))

/-- The text of a duration. -/
def span (n : Nat) : Bs := if n = 4611686018427387904 then never else if n = 0 then [48, 115] else join (parts n) [32]

theorem cut_length (l : Bs) (c : UInt8) (h : l ≠ []) : (cut l [c]).2.1.length < l.length := by
  have hl : 0 < l.length := List.length_pos_iff.2 h
  unfold cut
  split
  · simp only [List.length_drop, List.length_cons, List.length_nil]; omega
  · simpa using hl

/-- readDuration's loop, 'f' rounds at most; 'g' is what a component adds. -/
def readF (g : Bs → Int) : Nat → Int → Bs → Int
  | 0, d, _ => d
  | f + 1, d, l => if l = [] then d else readF g f (sadd d (g (cut l [32]).1)) (cut l [32]).2.1

theorem readF_more (g : Bs → Int) : ∀ (f f' : Nat) (d : Int) (l : Bs), l.length ≤ f → l.length ≤ f' → readF g f d l = readF g f' d l
  | 0, f', d, l, h, _ => by
    have : l = [] := List.length_eq_zero_iff.1 (by omega)
    subst this
    cases f' <;> simp [readF]
  | f + 1, 0, d, l, _, h => by
    have : l = [] := List.length_eq_zero_iff.1 (by omega)
    subst this
    simp [readF]
  | f + 1, f' + 1, d, l, h, h' => by
    unfold readF
    by_cases hl : l = []
    · rw [if_pos hl, if_pos hl]
    · rw [if_neg hl, if_neg hl]
      have := cut_length l 32 hl
      exact readF_more g f f' _ _ (by omega) (by omega)

theorem readF_nil (g : Bs → Int) (f : Nat) (d : Int) : readF g f d [] = d := by cases f <;> simp [readF]

theorem readF_step (g : Bs → Int) (f : Nat) (d : Int) (p r : Bs) (hp : (32 : UInt8) ∉ p) : readF g (f + 1) d (p ++ ([32] ++ r)) = readF g f (sadd d (g p)) r := by
  have e : cut (p ++ ([32] ++ r)) [32] = (p, r, true) := cut_at 32 [] p r hp
  rw [readF, if_neg (by simp), e]

theorem readF_last (g : Bs → Int) (f : Nat) (d : Int) (p : Bs) (hp : (32 : UInt8) ∉ p) (hne : p ≠ []) : readF g (f + 1) d p = sadd d (g p) := by
  rw [readF, if_neg hne, cut_none 32 [] p hp]
  exact readF_nil _ _ _

theorem part_no_space (u : Nat) (c : UInt8) (hc : c ≠ 32) : (32 : UInt8) ∉ decDigits u ++ [c] := by
  intro h
  rw [List.mem_append, List.mem_singleton] at h
  rcases h with h | h
  · exact dd_not_mem u 32 (by decide) h
  · exact hc h.symm

theorem sadd_small {a b : Int} (ha : 0 ≤ a) (hb : 0 ≤ b) (h : a + b ≤ 4611686018427387904) : sadd a b = a + b := by
  unfold sadd; rw [hold_id ha (by omega), hold_id hb (by omega), if_neg (by omega)]

/-- What is read of a duration's own text, whatever 'g' makes of other components. -/
theorem readF_span (g : Bs → Int) (n : Nat) (hn : n < 4611686018427387904)
    (gh : ∀ u : Nat, u ≤ 4611686018427387904 / 3600 → g (decDigits u ++ [104]) = u * 3600)
    (gm : ∀ u : Nat, u < 60 → g (decDigits u ++ [109]) = u * 60)
    (gs : ∀ u : Nat, u < 60 → g (decDigits u ++ [115]) = u) : ∀ f, 4 ≤ f → readF g f 0 (span n) = n := by
  intro f hf
  obtain ⟨k, rfl⟩ : ∃ k, f = k + 4 := ⟨f - 4, by omega⟩
  have ns := part_no_space
  unfold span
  rw [if_neg (by omega)]
  by_cases h0 : n = 0
  · subst h0
    rw [if_pos rfl]
    have e : ([48, 115] : Bs) = decDigits 0 ++ [115] := by rw [dd_small (by omega)]; rfl
    rw [e, readF_last _ _ _ _ (ns 0 115 (by decide)) (by simp), gs 0 (by omega)]; rfl
  · rw [if_neg h0]
    unfold parts
    have hH := gh (n / 3600) (by omega)
    have hM := gm (n % 3600 / 60) (by omega)
    have hS := gs (n % 60) (by omega)
    have nh := ns (n / 3600) 104 (by decide)
    have nm := ns (n % 3600 / 60) 109 (by decide)
    have nS := ns (n % 60) 115 (by decide)
    have jc : ∀ (x y : Bs) (r : List Bs), join (x :: y :: r) [32] = x ++ ([32] ++ join (y :: r) [32]) := by
      intro x y r; rw [join_cons, join_cons]; simp [joinTail]
    have j1 : ∀ x : Bs, join [x] [32] = x := fun x => join_one x [32]
    have z : ∀ x : Int, 0 ≤ x → x ≤ 4611686018427387904 → sadd 0 x = x := fun x h0 h1 => by rw [sadd_small (by omega) h0 (by omega)]; omega
    have bA : 0 ≤ ((n / 3600 : Nat) : Int) * 3600 ∧ ((n / 3600 : Nat) : Int) * 3600 ≤ 4611686018427387904 := by omega
    have bB : 0 ≤ ((n % 3600 / 60 : Nat) : Int) * 60 ∧ ((n % 3600 / 60 : Nat) : Int) * 60 ≤ 4611686018427387904 := by omega
    have bC : 0 ≤ ((n % 60 : Nat) : Int) ∧ ((n % 60 : Nat) : Int) ≤ 4611686018427387904 := by omega
    have pAB : sadd (((n / 3600 : Nat) : Int) * 3600) (((n % 3600 / 60 : Nat) : Int) * 60) = ((n / 3600 : Nat) : Int) * 3600 + ((n % 3600 / 60 : Nat) : Int) * 60 := sadd_small (by omega) (by omega) (by omega)
    have pAC : sadd (((n / 3600 : Nat) : Int) * 3600) ((n % 60 : Nat) : Int) = ((n / 3600 : Nat) : Int) * 3600 + ((n % 60 : Nat) : Int) := sadd_small (by omega) (by omega) (by omega)
    have pBC : sadd (((n % 3600 / 60 : Nat) : Int) * 60) ((n % 60 : Nat) : Int) = ((n % 3600 / 60 : Nat) : Int) * 60 + ((n % 60 : Nat) : Int) := sadd_small (by omega) (by omega) (by omega)
    have pABC : sadd (((n / 3600 : Nat) : Int) * 3600 + ((n % 3600 / 60 : Nat) : Int) * 60) ((n % 60 : Nat) : Int) = ((n / 3600 : Nat) : Int) * 3600 + ((n % 3600 / 60 : Nat) : Int) * 60 + ((n % 60 : Nat) : Int) := sadd_small (by omega) (by omega) (by omega)
    by_cases a : 0 < n / 3600 <;> by_cases b : 0 < n % 3600 / 60 <;> by_cases c : 0 < n % 60
    all_goals simp only [if_pos, a, b, c, if_false, List.nil_append, List.append_nil, List.cons_append]
    · rw [jc, jc, j1, readF_step _ _ _ _ _ nh, readF_step _ _ _ _ _ nm, readF_last _ _ _ _ nS (by simp), hH, hM, hS, z _ bA.1 bA.2, pAB, pABC]
      omega
    · rw [jc, j1, readF_step _ _ _ _ _ nh, readF_last _ _ _ _ nm (by simp), hH, hM, z _ bA.1 bA.2, pAB]
      omega
    · rw [jc, j1, readF_step _ _ _ _ _ nh, readF_last _ _ _ _ nS (by simp), hH, hS, z _ bA.1 bA.2, pAC]
      omega
    · rw [j1, readF_last _ _ _ _ nh (by simp), hH, z _ bA.1 bA.2]
      omega
    · rw [jc, j1, readF_step _ _ _ _ _ nm, readF_last _ _ _ _ nS (by simp), hM, hS, z _ bB.1 bB.2, pBC]
      omega
    · rw [j1, readF_last _ _ _ _ nm (by simp), hM, z _ bB.1 bB.2]
      omega
    · rw [j1, readF_last _ _ _ _ nS (by simp), hS, z _ bC.1 bC.2]
      omega
    · omega

theorem span_ne_never (n : Nat) (h : n < 4611686018427387904) : span n ≠ never := by
  intro e
  have hl := congrArg List.getLast? e
  unfold span at hl
  rw [if_neg (by omega)] at hl
  have jc : ∀ (x y : Bs) (r : List Bs), join (x :: y :: r) [32] = x ++ ([32] ++ join (y :: r) [32]) := by
    intro x y r; rw [join_cons, join_cons]; simp [joinTail]
  have j1 : ∀ x : Bs, join [x] [32] = x := fun x => join_one x [32]
  by_cases h0 : n = 0
  · rw [if_pos h0] at hl; revert hl; decide
  · rw [if_neg h0] at hl
    unfold parts at hl
    by_cases a : 0 < n / 3600 <;> by_cases b : 0 < n % 3600 / 60 <;> by_cases c : 0 < n % 60
    all_goals first | omega | skip
    all_goals simp [a, b, c, jc, j1, never, List.getLast?_cons] at hl

/-! ### The reference's readers -/

def worth (sum by_ n : Int) : Int := if sum < 0 ∨ (4611686018427387904 - sum) / by_ < n then -1 else sum + by_ * n

theorem worth_bd (sum by_ n : Int) (h0 : -1 ≤ sum) (h1 : sum ≤ 4611686018427387904) (hb : 1 ≤ by_) (hn : 0 ≤ n) : -1 ≤ worth sum by_ n ∧ worth sum by_ n ≤ 4611686018427387904 := by
  unfold worth
  split
  · omega
  · rename_i h
    simp only [not_or, Int.not_lt] at h
    have h2 : n * by_ ≤ 4611686018427387904 - sum := (Int.le_ediv_iff_mul_le (by omega)).1 h.2
    have h3 : 0 ≤ n * by_ := Int.mul_nonneg hn (by omega)
    rw [Int.mul_comm] at h2 h3
    omega

theorem worth_ok (sum by_ n : Int) (h0 : 0 ≤ sum) (hb : 1 ≤ by_) (h : sum + by_ * n ≤ 4611686018427387904) : worth sum by_ n = sum + by_ * n := by
  unfold worth
  rw [if_neg]
  simp only [not_or, Int.not_lt]
  refine ⟨h0, (Int.le_ediv_iff_mul_le (by omega)).2 ?_⟩
  rw [Int.mul_comm]; omega

/-- One byte of the reference's reading of a duration. -/
def rdStep (st : Int × Int) (c : UInt8) : Option (Int × Int) :=
  if 48 ≤ c.toNat ∧ c.toNat ≤ 57 then (if 100000000000000000 < st.2 then none else some (st.1, 10 * st.2 + c.toNat - 48))
  else if c.toNat = 104 then some (worth st.1 3600 st.2, 0) else if c.toNat = 109 then some (worth st.1 60 st.2, 0) else if c.toNat = 115 then some (worth st.1 1 st.2, 0) else some st

def rd (s : Bs) : Int := match s.foldlM rdStep (0, 0) with | some p => p.1 | none => -1

def RdOk (st : Int × Int) : Prop := -1 ≤ st.1 ∧ st.1 ≤ 4611686018427387904 ∧ 0 ≤ st.2 ∧ st.2 ≤ 1000000000000000009

theorem rdStep_ok {st st' : Int × Int} {c : UInt8} (h : RdOk st) (e : rdStep st c = some st') : RdOk st' := by
  obtain ⟨a, b, d, f⟩ := h
  unfold rdStep at e
  split at e
  · split at e
    · cases e
    · injection e with e; subst e
      refine ⟨a, b, ?_, ?_⟩ <;> simp only [] <;> omega
  · split at e
    · injection e with e; subst e
      exact ⟨(worth_bd _ _ _ a b (by omega) d).1, (worth_bd _ _ _ a b (by omega) d).2, by simp, by simp⟩
    · split at e
      · injection e with e; subst e
        exact ⟨(worth_bd _ _ _ a b (by omega) d).1, (worth_bd _ _ _ a b (by omega) d).2, by simp, by simp⟩
      · split at e
        · injection e with e; subst e
          exact ⟨(worth_bd _ _ _ a b (by omega) d).1, (worth_bd _ _ _ a b (by omega) d).2, by simp, by simp⟩
        · injection e with e; subst e
          exact ⟨a, b, d, f⟩

theorem rd_digits (sum : Int) (u : Nat) : u ≤ 1000000000000000000 → ∀ r, (decDigits u ++ r).foldlM rdStep (sum, 0) = r.foldlM rdStep (sum, (u : Int)) := by
  induction u using Nat.strongRecOn with
  | _ u ih =>
    intro hu r
    by_cases h : u < 10
    · rw [dd_small h, List.singleton_append, List.foldlM_cons]
      have : rdStep (sum, 0) (UInt8.ofNat (48 + u)) = some (sum, (u : Int)) := by
        unfold rdStep
        rw [ofNat_toNat (by omega), if_pos (by omega), if_neg (by simp)]
        congr 2; simp only []; omega
      rw [this]; rfl
    · rw [dd_big h, List.append_assoc, ih (u / 10) (by omega) (by omega), List.singleton_append, List.foldlM_cons]
      have : rdStep (sum, ((u / 10 : Nat) : Int)) (UInt8.ofNat (48 + u % 10)) = some (sum, (u : Int)) := by
        unfold rdStep
        rw [ofNat_toNat (by omega), if_pos (by omega), if_neg (by simp only []; omega)]
        congr 2; simp only []; omega
      rw [this]; rfl

theorem rd_part (sum : Int) (u : Nat) (c : UInt8) (by_ : Int) (hc : c.toNat = 104 ∧ by_ = 3600 ∨ c.toNat = 109 ∧ by_ = 60 ∨ c.toNat = 115 ∧ by_ = 1) (h0 : 0 ≤ sum) (hu : u ≤ 1000000000000000000)
    (h : sum + by_ * u ≤ 4611686018427387904) (r : Bs) : (decDigits u ++ (c :: r)).foldlM rdStep (sum, 0) = r.foldlM rdStep (sum + by_ * u, 0) := by
  rw [rd_digits sum u hu, List.foldlM_cons]
  have : rdStep (sum, (u : Int)) c = some (sum + by_ * u, 0) := by
    unfold rdStep
    rcases hc with ⟨hc, rfl⟩ | ⟨hc, rfl⟩ | ⟨hc, rfl⟩
    · rw [if_neg (by omega), if_pos hc, worth_ok _ _ _ h0 (by omega) h]
    · rw [if_neg (by omega), if_neg (by omega), if_pos hc, worth_ok _ _ _ h0 (by omega) h]
    · rw [if_neg (by omega), if_neg (by omega), if_neg (by omega), if_pos hc, worth_ok _ _ _ h0 (by omega) h]
  rw [this]; rfl

theorem rd_space (st : Int × Int) (r : Bs) : (32 :: r).foldlM rdStep st = r.foldlM rdStep st := by
  rw [List.foldlM_cons]; rfl

theorem rd_span (n : Nat) (hn : n < 4611686018427387904) : rd (span n) = n := by
  have key : (span n).foldlM rdStep (0, 0) = some ((n : Int), 0) := by
    unfold span
    rw [if_neg (by omega)]
    by_cases h0 : n = 0
    · subst h0
      rw [if_pos rfl]
      have e : ([48, 115] : Bs) = decDigits 0 ++ (115 :: []) := by rw [dd_small (by omega)]; rfl
      rw [e, rd_part 0 0 115 1 (by decide) (by omega) (by omega) (by omega)]; rfl
    · rw [if_neg h0]
      unfold parts
      have jc : ∀ (x y : Bs) (r : List Bs), join (x :: y :: r) [32] = x ++ ([32] ++ join (y :: r) [32]) := by
        intro x y r; rw [join_cons, join_cons]; simp [joinTail]
      have j1 : ∀ x : Bs, join [x] [32] = x := fun x => join_one x [32]
      have pH := fun r => rd_part 0 (n / 3600) 104 3600 (by decide) (by omega) (by omega) (by omega) r
      have pM := fun (sum : Int) (a : 0 ≤ sum) (b : sum + 60 * ((n % 3600 / 60 : Nat) : Int) ≤ 4611686018427387904) r => rd_part sum (n % 3600 / 60) 109 60 (by decide) a (by omega) b r
      have pS := fun (sum : Int) (a : 0 ≤ sum) (b : sum + 1 * ((n % 60 : Nat) : Int) ≤ 4611686018427387904) r => rd_part sum (n % 60) 115 1 (by decide) a (by omega) b r
      by_cases a : 0 < n / 3600 <;> by_cases b : 0 < n % 3600 / 60 <;> by_cases c : 0 < n % 60
      all_goals simp only [a, b, c, if_true, if_false, List.nil_append, List.append_nil, List.cons_append, jc, j1, List.append_assoc]
      · rw [pH, rd_space, pM _ (by omega) (by omega), rd_space, pS _ (by omega) (by omega)]
        simp only [List.foldlM_nil]; congr 2; omega
      · rw [pH, rd_space, pM _ (by omega) (by omega)]
        simp only [List.foldlM_nil]; congr 2; omega
      · rw [pH, rd_space, pS _ (by omega) (by omega)]
        simp only [List.foldlM_nil]; congr 2; omega
      · rw [pH]
        simp only [List.foldlM_nil]; congr 2; omega
      · rw [pM _ (by omega) (by omega), rd_space, pS _ (by omega) (by omega)]
        simp only [List.foldlM_nil]; congr 2; omega
      · rw [pM _ (by omega) (by omega)]
        simp only [List.foldlM_nil]; congr 2; omega
      · rw [pS _ (by omega) (by omega)]
        simp only [List.foldlM_nil]; congr 2; omega
      · omega
  unfold rd; rw [key]

/-- One byte of the days in the reference's reading of a time. -/
def dayStep (d : Int) (c : UInt8) : Option Int := if c.toNat < 48 ∨ 57 < c.toNat ∨ 100000000000000 < d then none else some (10 * d + c.toNat - 48)

theorem day_digits (u : Nat) : u ≤ 1000000000000000 → ∀ r, (decDigits u ++ r).foldlM dayStep 0 = r.foldlM dayStep (u : Int) := by
  induction u using Nat.strongRecOn with
  | _ u ih =>
    intro hu r
    by_cases h : u < 10
    · rw [dd_small h, List.singleton_append, List.foldlM_cons]
      have : dayStep 0 (UInt8.ofNat (48 + u)) = some (u : Int) := by
        unfold dayStep
        rw [ofNat_toNat (by omega), if_neg (by omega)]
        congr 1; omega
      rw [this]; rfl
    · rw [dd_big h, List.append_assoc, ih (u / 10) (by omega) (by omega), List.singleton_append, List.foldlM_cons]
      have : dayStep ((u / 10 : Nat) : Int) (UInt8.ofNat (48 + u % 10)) = some (u : Int) := by
        unfold dayStep
        rw [ofNat_toNat (by omega), if_neg (by omega)]
        congr 1; omega
      rw [this]; rfl

def secBy : List Int := [36000, 3600, 0, 600, 60, 0, 10, 1]
def secStep (sum : Int) (p : Int × UInt8) : Option Int := if 0 < p.1 ∧ (p.2.toNat < 48 ∨ 57 < p.2.toNat) then none else some (sum + p.1 * (p.2.toNat - 48))
def secs (t : Bs) : Option Int := (secBy.zip t).foldlM secStep 0

/-- samaritanref01.clock. -/
def clk (s : Bs) : Int :=
  if s.length < 11 ∨ 30 < s.length then -1 else
  match (s.take (s.length - 10)).foldlM dayStep 0 with
  | none => -1
  | some days => match secs (s.drop (s.length - 8)) with
    | none => -1
    | some sum => worth sum 86400 days

theorem nDigits_le (k u : Nat) : 1 ≤ k → u < 10 ^ k → nDigits u ≤ k := by
  induction k generalizing u with
  | zero => intro h; omega
  | succ k ih =>
    intro _ h
    by_cases hu : u < 10
    · rw [nDigits_small hu]; omega
    · rw [nDigits_big hu]
      have h1 : 1 ≤ k := by
        rcases Nat.eq_zero_or_pos k with rfl | hk
        · simp at h; omega
        · exact hk
      have := ih (u / 10) h1 (by rw [Nat.pow_succ] at h; omega)
      omega

theorem secs_hms (n : Nat) : secs (hms n) = some ((n % 86400 : Nat) : Int) := by
  unfold secs hms two
  simp only [secBy, List.cons_append, List.nil_append, List.zip_cons_cons, List.zip_nil_left, List.foldlM_cons, List.foldlM_nil]
  have e : ∀ (sum b : Int) (x : Nat), x < 10 → secStep sum (b, UInt8.ofNat (48 + x)) = some (sum + b * x) := by
    intro sum b x hx
    unfold secStep
    simp only [ofNat_toNat (show 48 + x < 256 by omega)]
    rw [if_neg (by omega)]
    congr 3; omega
  have e0 : ∀ (sum : Int) (c : UInt8), secStep sum (0, c) = some sum := by
    intro sum c; unfold secStep; rw [if_neg (by simp)]; simp
  rw [e _ _ _ (by omega)]; simp only [Option.bind_eq_bind, Option.bind_some]
  rw [e _ _ _ (by omega)]; simp only [Option.bind_some]
  rw [e0]; simp only [Option.bind_some]
  rw [e _ _ _ (by omega)]; simp only [Option.bind_some]
  rw [e _ _ _ (by omega)]; simp only [Option.bind_some]
  rw [e0]; simp only [Option.bind_some]
  rw [e _ _ _ (by omega)]; simp only [Option.bind_some]
  rw [e _ _ _ (by omega)]; simp only [Option.bind_some]
  congr 1; omega

theorem hms_length (n : Nat) : (hms n).length = 8 := by simp [hms, two]

theorem clk_text (n : Nat) (hn : n < 4611686018427387904) : clk (text n) = n := by
  have hl := text_length n hn
  have h14 : (10 : Nat) ^ 14 = 100000000000000 := by decide
  have hd : nDigits (n / 86400) ≤ 14 := nDigits_le 14 _ (by omega) (by rw [h14]; omega)
  have hp := nDigits_pos (n / 86400)
  have et : text n = decDigits (n / 86400) ++ ([100, 32] ++ hms n) := by unfold text; rw [if_neg (by omega)]
  have e1 : (text n).take ((text n).length - 10) = decDigits (n / 86400) := by
    rw [hl, et, show nDigits (n / 86400) + 10 - 10 = (decDigits (n / 86400)).length by rw [decDigits_length]; omega, List.take_left]
  have e2 : (text n).drop ((text n).length - 8) = hms n := by
    rw [hl, et, ← List.append_assoc, show nDigits (n / 86400) + 10 - 8 = (decDigits (n / 86400) ++ [100, 32]).length by simp [decDigits_length], List.drop_left]
  have e3 := day_digits (n / 86400) (by omega) []
  rw [List.append_nil] at e3
  unfold clk
  rw [e1, e2, e3, secs_hms, if_neg (by omega)]
  simp only [List.foldlM_nil]
  show worth _ 86400 _ = _
  rw [worth_ok _ _ _ (by omega) (by omega) (by omega)]
  omega

end Clk
