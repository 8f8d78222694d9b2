/- Plain mathematics of layer 6: what Parse computes, and that it takes back a text. -/
import Derived.Test.YtjklpikopgihgaaGreatDoorMath
import Derived.Lib.ParseIntB
import Derived.Lib.IndexMore
import Derived.Lib.SplitLaws
import Derived.Lib.Join
set_option linter.unusedVariables false
set_option linter.unusedSimpArgs false
namespace Cf
open Go Go.Lib

/-! ### Numerals -/

theorem dd_small {u : Nat} (h : u < 10) : decDigits u = [UInt8.ofNat (48 + u)] := by rw [decDigits, dif_pos h]
theorem dd_big {u : Nat} (h : ¬ u < 10) : decDigits u = decDigits (u / 10) ++ [UInt8.ofNat (48 + u % 10)] := by rw [decDigits, dif_neg h]
theorem ofNat_toNat {n : Nat} (h : n < 256) : (UInt8.ofNat n).toNat = n := by simp [UInt8.toNat_ofNat']; omega
theorem dd_bytes (u : Nat) : ∀ c ∈ decDigits u, 48 ≤ c.toNat ∧ c.toNat ≤ 57 := by
  induction u using Nat.strongRecOn with
  | _ u ih =>
    by_cases h : u < 10
    · rw [dd_small h]; intro c hc
      rw [List.mem_singleton] at hc; subst hc
      rw [ofNat_toNat (by omega)]; omega
    · rw [dd_big h]; intro c hc
      rw [List.mem_append, List.mem_singleton] at hc
      rcases hc with hc | rfl
      · exact ih _ (by omega) c hc
      · rw [ofNat_toNat (by omega)]; omega
theorem dd_ne (u : Nat) : decDigits u ≠ [] := by
  by_cases h : u < 10
  · rw [dd_small h]; simp
  · rw [dd_big h]; simp
theorem dd_len : ∀ (k u : Nat), u < 10 ^ (k + 1) → (decDigits u).length ≤ k + 1 := by
  intro k
  induction k with
  | zero => intro u h; rw [dd_small (by simpa using h)]; simp
  | succ k ih =>
    intro u h
    by_cases hs : u < 10
    · rw [dd_small hs]; simp
    · rw [dd_big hs, List.length_append]
      have := ih (u / 10) (by rw [Nat.pow_succ] at h; omega)
      simp; omega
theorem parseUintM_dd (M : Nat) (hM : M = 18446744073709551615) (u : Nat) : u ≤ M → ∀ r, parseUintM M 0 (decDigits u ++ r) = parseUintM M u r := by
  induction u using Nat.strongRecOn with
  | _ u ih =>
    intro hu r
    by_cases h : u < 10
    · rw [dd_small h]
      simp only [List.singleton_append, parseUintM]
      rw [ofNat_toNat (by omega), if_pos (by omega), if_neg (by omega), if_neg (by omega)]
      congr 1; omega
    · rw [dd_big h, List.append_assoc, ih (u / 10) (by omega) (by omega)]
      simp only [List.singleton_append, parseUintM]
      rw [ofNat_toNat (by omega), if_pos (by omega), if_neg (by omega), if_neg (by omega)]
      congr 1; omega
theorem parseIntB_dd (u : Nat) (hu : u < 9223372036854775808) : parseIntB 64 (decDigits u) = .ok (u : Int) := by
  have hb := dd_bytes u
  have hn := dd_ne u
  have hp := parseUintM_dd 18446744073709551615 rfl u (by omega) []
  rw [List.append_nil] at hp
  generalize decDigits u = l at *
  match l, hn with
  | c :: r, _ =>
    have hc := hb c (by simp)
    have h1 : ¬ (c.toNat = 43 ∨ c.toNat = 45) := by omega
    have h2 : ¬ (c.toNat = 45) := by omega
    have hpw : (2 : Nat) ^ 64 - 1 = 18446744073709551615 := by decide
    have hpv : (2 : Nat) ^ (64 - 1) = 9223372036854775808 := by decide
    have hq : parseUintB 64 (c :: r) = .ok u := by
      unfold parseUintB; rw [if_neg (by simp), hpw, hp]; rfl
    unfold parseIntB
    simp only [if_neg h1]
    rw [hq]
    simp only [h2, not_false_eq_true, true_and, false_and, if_false, hpv]
    rw [if_neg (by omega)]
/-- The number that ParseInt returns. -/
def num (l : Bs) : Int := match parseIntB 64 l with | .ok v => v | .range => intSat 64 l | _ => 0
theorem num_dd (u : Nat) (h : u < 9223372036854775808) : num (decDigits u) = u := by unfold num; rw [parseIntB_dd u h]
theorem parseUintM_bd (M : Nat) : ∀ (l : Bs) (a u : Nat), a ≤ M → parseUintM M a l = .ok u → u ≤ M := by
  intro l
  induction l with
  | nil => intro a u h e; unfold parseUintM at e; injection e with e; omega
  | cons c r ih =>
    intro a u h e
    unfold parseUintM at e
    split at e
    · split at e
      · cases e
      · split at e
        · cases e
        · exact ih _ _ (by omega) e
    · cases e
theorem num_bd (l : Bs) : -9223372036854775808 ≤ num l ∧ num l ≤ 9223372036854775807 := by
  have hpv : (2 : Nat) ^ (64 - 1) = 9223372036854775808 := by decide
  unfold num
  cases h : parseIntB 64 l
  · rename_i v
    simp only
    unfold parseIntB at h
    split at h
    · cases h
    · simp only at h
      split at h
      · cases h
      · cases h
      · rename_i u hu
        rw [hpv] at h
        split at h
        · cases h
        · split at h
          · cases h
          · injection h with h
            split at h <;> omega
  · simp
  · simp only
    unfold intSat
    rw [hpv]
    split <;> omega

/-! ### Cutting and splitting -/

theorem not_prefix_head {c : UInt8} {t : Bs} {b : UInt8} {l : Bs} (h : b ≠ c) : (c :: t).isPrefixOf (b :: l) = false := by
  simp [List.isPrefixOf]; intro h'; exact absurd h'.symm h
theorem index_here (c : UInt8) (t r : Bs) : index (c :: t ++ r) (c :: t) = 0 := by
  rw [List.cons_append, index, if_pos]
  rw [List.isPrefixOf_iff_prefix]
  exact List.prefix_append (c :: t) r
theorem index_skip (c : UInt8) (t r : Bs) : ∀ p : Bs, c ∉ p → index (p ++ (c :: t ++ r)) (c :: t) = p.length
  | [], _ => by simpa using index_here c t r
  | b :: p, h => by
    have hb : b ≠ c := fun e => h (e ▸ List.mem_cons_self)
    have ih := index_skip c t r p (fun e => h (List.mem_cons_of_mem _ e))
    rw [List.cons_append, index, not_prefix_head hb, ih]
    have : ((p.length : Int) == -1) = false := by rw [beq_eq_false_iff_ne]; omega
    simp [this]
theorem index_none_of (c : UInt8) (t : Bs) : ∀ p : Bs, c ∉ p → index p (c :: t) = -1
  | [], _ => by simp [index]
  | b :: p, h => by
    have hb : b ≠ c := fun e => h (e ▸ List.mem_cons_self)
    have ih := index_none_of c t p (fun e => h (List.mem_cons_of_mem _ e))
    rw [index, not_prefix_head hb, ih]; simp
theorem cut_at (c : UInt8) (p r : Bs) (h : c ∉ p) : cut (p ++ (c :: r)) [c] = (p, r, true) := by
  have e := index_skip c [] r p h
  simp only [List.cons_append, List.nil_append] at e
  unfold cut
  rw [e, if_pos (by omega)]
  simp only [Int.toNat_natCast, Prod.mk.injEq, and_true]
  refine ⟨by simp, ?_⟩
  rw [List.drop_append]; simp
theorem cut_none (c : UInt8) (p : Bs) (h : c ∉ p) : cut p [c] = (p, [], false) := by
  unfold cut
  rw [index_none_of c [] p h, if_neg (by omega)]
theorem cut_shorter (l : Bs) (c : UInt8) (h : l ≠ []) : (cut l [c]).2.1.length < l.length := by
  have hl : 0 < l.length := List.length_pos_iff.2 h
  unfold cut
  split
  · simp only [List.length_drop, List.length_singleton]; omega
  · simpa using hl
theorem cut_le (l sep : Bs) : (cut l sep).1.length ≤ l.length ∧ (cut l sep).2.1.length ≤ l.length := by
  unfold cut
  split
  · simp only [List.length_take, List.length_drop]; omega
  · simp

/-- A line's words. -/
def sp : Bs → List Bs
  | [] => [[]]
  | c :: l => if c = 32 then [] :: sp l else match sp l with | [] => [[c]] | w :: r => (c :: w) :: r
theorem sp_ne (l : Bs) : sp l ≠ [] := by
  cases l with
  | nil => simp [sp]
  | cons c l => unfold sp; split
                · simp
                · split <;> simp
theorem sp_none : ∀ p : Bs, (32 : UInt8) ∉ p → sp p = [p]
  | [], _ => rfl
  | b :: p, h => by
    have hb : b ≠ 32 := fun e => h (e ▸ List.mem_cons_self)
    rw [sp, if_neg hb, sp_none p (fun e => h (List.mem_cons_of_mem _ e))]
theorem sp_at : ∀ (p r : Bs), (32 : UInt8) ∉ p → sp (p ++ 32 :: r) = p :: sp r
  | [], r, _ => by rw [List.nil_append, sp, if_pos rfl]
  | b :: p, r, h => by
    have hb : b ≠ 32 := fun e => h (e ▸ List.mem_cons_self)
    rw [List.cons_append, sp, if_neg hb, sp_at p r (fun e => h (List.mem_cons_of_mem _ e))]
theorem sp_len : ∀ (l : Bs), ∀ x ∈ sp l, x.length ≤ l.length
  | [], x, h => by simp [sp] at h; subst h; simp
  | c :: l, x, h => by
    have ih := sp_len l
    unfold sp at h
    split at h
    · rcases List.mem_cons.1 h with rfl | h
      · simp
      · have := ih x h; simp; omega
    · split at h
      · rw [List.mem_singleton] at h; subst h; simp
      · rename_i w r e
        rcases List.mem_cons.1 h with rfl | h
        · have := ih w (by rw [e]; simp); simp; omega
        · have := ih x (by rw [e]; simp [h]); simp; omega
theorem sp_count : ∀ (l : Bs), (sp l).length = l.count 32 + 1
  | [] => rfl
  | c :: l => by
    have ih := sp_count l
    unfold sp
    by_cases h : c = 32
    · subst h; rw [if_pos rfl, List.length_cons, ih, List.count_cons_self]
    · rw [if_neg h, List.count_cons_of_ne h]
      split
      · rename_i e; rw [e] at ih; simp at ih
      · rename_i e; rw [e] at ih; simpa using ih
theorem first_space (l : Bs) : (32 : UInt8) ∉ l ∨ ∃ p r, l = p ++ 32 :: r ∧ (32 : UInt8) ∉ p := by
  induction l with
  | nil => left; simp
  | cons c l ih =>
    by_cases h : c = 32
    · subst h; exact .inr ⟨[], l, rfl, by simp⟩
    · rcases ih with h' | ⟨p, r, rfl, hp⟩
      · left; simp [h']; exact fun e => h e.symm
      · exact .inr ⟨c :: p, r, rfl, by simp [hp]; exact fun e => h e.symm⟩
theorem split_sp : ∀ (n : Nat) (l : Bs), l.length ≤ n → splitK [32] 0 (l.count 32) l = sp l := by
  intro n
  induction n with
  | zero => intro l h; obtain rfl := List.eq_nil_of_length_eq_zero (by omega : l.length = 0); rfl
  | succ n ih =>
    intro l h
    rcases first_space l with h0 | ⟨p, r, rfl, hp⟩
    · rw [sp_none l h0, List.count_eq_zero.2 h0]; rfl
    · have e := index_skip 32 [] r p hp
      simp only [List.cons_append, List.nil_append] at e
      have hm : ¬ (index (p ++ 32 :: r) [32] == -1) = true := fun e' => by have := beq_iff_eq.1 e'; omega
      have hc : (p ++ 32 :: r).count 32 = r.count 32 + 1 := by
        rw [List.count_append, List.count_eq_zero.2 hp, List.count_cons_self]; omega
      rw [hc, splitK, if_neg hm, e, sp_at p r hp]
      simp only [Int.toNat_natCast, Nat.add_zero]
      rw [List.take_left, List.drop_append]
      simp only [List.length_singleton, Nat.add_sub_cancel_left, List.drop_succ_cons, List.drop_zero]
      rw [List.drop_eq_nil_of_le (by omega), List.nil_append, ih r (by simp at h; omega)]

/-! ### Reading words -/

/-- The words that have not been read, and whether something was wrong. -/
abbrev Wd := List Bs × Bool
def hd (r : List Bs) : Bs := match r with | [] => [] | x :: _ => x
def tl (r : List Bs) : List Bs := match r with | [] => [] | _ :: r => r
def numGood (x : Bs) : Bool := decide (0 ≤ num x) && decide (x.length ≤ 18) && (dig (num x) == x)
def mNumOf (x : Bs) (s : Wd) : Int × Wd := if numGood x then (num x, s) else (0, (s.1, true))
def mNum (s : Wd) : Int × Wd := mNumOf (hd s.1) (tl s.1, s.2)
def mTime (s : Wd) : Int × Wd := if hd s.1 = never then (4611686018427387904, (tl s.1, s.2)) else mNumOf (hd s.1) (tl s.1, s.2)
def mCode (s : Wd) : Bs × Wd := if codeOk (hd s.1) then (hd s.1, (tl s.1, s.2)) else ([], (tl s.1, true))
def kindOf (x : Bs) : Int := if x = kindName 1 then 1 else if x = kindName 2 then 2 else if x = kindName 3 then 3 else if x = kindName 4 then 4 else 0
def mKind (s : Wd) : Int × Wd := (kindOf (hd s.1), (tl s.1, s.2 || decide (kindOf (hd s.1) = 0)))
def orOne (r : List Bs) : List Bs := match r with | [] => [[]] | x :: r => x :: r
def mKinds (s : Wd) : List Int × Wd := ((orOne s.1).map kindOf, ([], s.2 || (orOne s.1).any fun x => decide (kindOf x = 0)))
/-- Which parameter has a name; 10: none. -/
def paramOf (x : Bs) : Nat := ((List.range 10).find? fun i => word i == x).getD 10
def wdCentres : Bs := [99, 101, 110, 116, 114, 101, 115]
def wdNode : Bs := [110, 111, 100, 101]
def wdEdge : Bs := [101, 100, 103, 101]
def wdUnit : Bs := [117, 110, 105, 116]
def wdPlan : Bs := [112, 108, 97, 110]
/-- What the words of a line say: the configuration, the place, the words left. -/
def mWords (c : Cfg) (s : Wd) : Cfg × Int × Wd :=
  let x := hd s.1
  let s0 : Wd := (tl s.1, s.2)
  if x = wdCentres then let r := mNum s0; ({ c with ce := r.1 }, 1, r.2)
  else if x = wdNode then let r := mNum s0; ({ c with ds := c.ds ++ [r.1] }, 2, r.2)
  else if x = wdEdge then let r1 := mNum s0; let r2 := mNum r1.2; let r3 := mTime r2.2; ({ c with es := c.es ++ [(r1.1, r2.1, r3.1)] }, 3, r3.2)
  else if x = wdUnit then let r1 := mKind s0; let r2 := mNum r1.2; let r3 := mNum r2.2; ({ c with us := c.us ++ [(r1.1, r2.1, r3.1)] }, 4, r3.2)
  else if x = wdPlan then let r1 := mCode s0; let r2 := mNum r1.2; let r3 := mKinds r2.2; ({ c with ps := c.ps ++ [⟨r1.1, r2.1, r3.1⟩] }, 5, r3.2)
  else if paramOf x < 10 then let r := mNum s0; (setN c (paramOf x) r.1, 6 + (paramOf x : Int), r.2)
  else (c, 0, s0)
def mLine (c : Cfg) (l : Bs) : Cfg × Int :=
  let r := mWords c (sp l, false)
  (r.1, if r.2.2.2 = true ∨ r.2.2.1 ≠ [] then 0 else r.2.1)
def mayF (place last : Int) : Bool :=
  if last = 0 then decide (place = 1) else if place = last then decide (1 < place) && decide (place < 6) else decide (last < place)
def mLines (c : Cfg) (n : Nat) (last : Int) (s : Bs) : Cfg × Nat × Bool :=
  if h : s = [] then (c, n, true)
  else
    let x := cut s [10]
    let r := mLine c x.1
    if x.2.2 = true ∧ mayF r.2 last = true then mLines r.1 (n + 1) r.2 x.2.1 else (zeroC, n + 1, false)
termination_by s.length
decreasing_by exact cut_shorter s 10 h
theorem mLines_nil (c : Cfg) (n : Nat) (last : Int) : mLines c n last [] = (c, n, true) := by rw [mLines, dif_pos rfl]
theorem mLines_step {c : Cfg} {n : Nat} {last : Int} {s : Bs} (h : s ≠ []) (h1 : (cut s [10]).2.2 = true) (h2 : mayF (mLine c (cut s [10]).1).2 last = true) :
    mLines c n last s = mLines (mLine c (cut s [10]).1).1 (n + 1) (mLine c (cut s [10]).1).2 (cut s [10]).2.1 := by rw [mLines, dif_neg h]; simp only; rw [if_pos ⟨h1, h2⟩]
theorem mLines_bad {c : Cfg} {n : Nat} {last : Int} {s : Bs} (h : s ≠ []) (h1 : ¬ ((cut s [10]).2.2 = true ∧ mayF (mLine c (cut s [10]).1).2 last = true)) :
    mLines c n last s = (zeroC, n + 1, false) := by rw [mLines, dif_neg h]; simp only; rw [if_neg h1]
/-- What Parse returns: the configuration, the line, the error (0: none, 5: syntax, 8: too many). -/
inductive PEnd
  | ok | tooMany | bad
deriving DecidableEq
def mParse (s : Bs) : Cfg × Nat × PEnd :=
  if 65536 < s.length then (zeroC, 0, .tooMany)
  else if (mLines dflt 0 0 s).2.2 = false then (zeroC, (mLines dflt 0 0 s).2.1, .bad)
  else if right (mLines dflt 0 0 s).1 = 0 ∧ (text (mLines dflt 0 0 s).1).length ≤ 65536 ∧ text (mLines dflt 0 0 s).1 = s then ((mLines dflt 0 0 s).1, 0, .ok)
  else (zeroC, (mLines dflt 0 0 s).2.1, .bad)
end Cf
