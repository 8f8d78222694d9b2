/- The text of a set: plain facts on lists of bytes. -/
import Derived.Test.YtggalncjookkiaaDoorLists
import Derived.Lib.AtoiAllCases
namespace Nds
open Go Go.Lib

abbrev Bs := List UInt8

/-! ### Decimal numerals, cutting -/

theorem dd_small {u : Nat} (h : u < 10) : decDigits u = [UInt8.ofNat (48 + u)] := by rw [decDigits, dif_pos h]
theorem dd_big {u : Nat} (h : ¬ u < 10) : decDigits u = decDigits (u / 10) ++ [UInt8.ofNat (48 + u % 10)] := by rw [decDigits, dif_neg h]
theorem ofNat_toNat {n : Nat} (h : n < 256) : (UInt8.ofNat n).toNat = n := by
  simp [UInt8.toNat_ofNat']; omega
theorem dd_bytes (u : Nat) : ∀ c ∈ decDigits u, 48 ≤ c.toNat ∧ c.toNat ≤ 57 := by
  induction u using Nat.strongRecOn with
  | _ u ih =>
    by_cases h : u < 10
    · rw [dd_small h]; intro c hc
      rw [List.mem_singleton] at hc; subst hc
      rw [ofNat_toNat (by omega)]; omega
    · rw [dd_big h]; intro c hc
      rw [List.mem_append, List.mem_singleton] at hc
      rcases hc with hc | rfl
      · exact ih _ (by omega) c hc
      · rw [ofNat_toNat (by omega)]; omega
theorem dd_ne (u : Nat) : decDigits u ≠ [] := by
  by_cases h : u < 10
  · rw [dd_small h]; simp
  · rw [dd_big h]; simp
theorem dd_not_mem (u : Nat) (c : UInt8) (h : c.toNat < 48 ∨ 57 < c.toNat) : c ∉ decDigits u := by
  intro hc; have := dd_bytes u c hc; omega
theorem dd_len (u : Nat) (h : u < 10000) : (decDigits u).length ≤ 4 := by
  by_cases h1 : u < 10
  · rw [dd_small h1]; simp
  · rw [dd_big h1]
    by_cases h2 : u / 10 < 10
    · rw [dd_small h2]; simp
    · rw [dd_big h2]
      by_cases h3 : u / 10 / 10 < 10
      · rw [dd_small h3]; simp
      · rw [dd_big h3, dd_small (by omega)]; simp

theorem parseUint10_dd (u : Nat) : u ≤ 1000000000000000000 → ∀ r, parseUint10 0 (decDigits u ++ r) = parseUint10 u r := by
  induction u using Nat.strongRecOn with
  | _ u ih =>
    intro hu r
    by_cases h : u < 10
    · rw [dd_small h]
      simp only [List.singleton_append, parseUint10]
      rw [ofNat_toNat (by omega), if_pos (by omega), if_neg (by omega), if_neg (by omega)]
      congr 1; omega
    · rw [dd_big h, List.append_assoc, ih (u / 10) (by omega) (by omega)]
      simp only [List.singleton_append, parseUint10]
      rw [ofNat_toNat (by omega), if_pos (by omega), if_neg (by omega), if_neg (by omega)]
      congr 1; omega

/-- What Atoi returns first. -/
def num (l : Bs) : Int := match atoiAll l with | .ok v => v | .range => atoiSat l | _ => 0

theorem num_bd (l : Bs) : -9223372036854775808 ≤ num l ∧ num l ≤ 9223372036854775807 := by
  unfold num
  split
  · rename_i v h; exact Lib.atoiAll_bounds h
  · exact Lib.atoiSat_bounds l
  · omega

theorem num_dd (u : Nat) (h : u < 10000) : num (decDigits u) = u := by
  have hb := dd_bytes u
  have hn := dd_ne u
  have hp := parseUint10_dd u (by omega) []
  rw [List.append_nil] at hp
  unfold num
  generalize decDigits u = l at *
  match l, hn with
  | c :: r, _ =>
    have hc := hb c (by simp)
    have hm : parseMag (c :: r) = .ok u := by unfold parseMag; rw [if_neg (by simp), hp]; rfl
    have : atoiAll (c :: r) = .ok (u : Int) := by
      rw [atoiAll_plain c r (by omega) (by omega), hm]
      unfold signless
      simp only []
      rw [if_neg (by omega)]
    rw [this]

theorem not_prefix_head {c : UInt8} {t : Bs} {b : UInt8} {l : Bs} (h : b ≠ c) : (c :: t).isPrefixOf (b :: l) = false := by
  simp [List.isPrefixOf]; intro h'; exact absurd h'.symm h
theorem index_here (c : UInt8) (t r : Bs) : index (c :: t ++ r) (c :: t) = 0 := by
  rw [List.cons_append, index, if_pos]
  rw [List.isPrefixOf_iff_prefix]
  exact List.prefix_append (c :: t) r
theorem index_skip (c : UInt8) (t r : Bs) : ∀ p : Bs, c ∉ p → index (p ++ (c :: t ++ r)) (c :: t) = p.length
  | [], _ => by simpa using index_here c t r
  | b :: p, h => by
    have hb : b ≠ c := fun e => h (e ▸ List.mem_cons_self)
    have ih := index_skip c t r p (fun e => h (List.mem_cons_of_mem _ e))
    rw [List.cons_append, index, not_prefix_head hb, ih]
    have : ((p.length : Int) == -1) = false := by rw [beq_eq_false_iff_ne]; omega
    simp [this]
theorem index_none_of (c : UInt8) (t : Bs) : ∀ p : Bs, c ∉ p → index p (c :: t) = -1
  | [], _ => by simp [index]
  | b :: p, h => by
    have hb : b ≠ c := fun e => h (e ▸ List.mem_cons_self)
    have ih := index_none_of c t p (fun e => h (List.mem_cons_of_mem _ e))
    rw [index, not_prefix_head hb, ih]; simp
theorem cut_at (c : UInt8) (p r : Bs) (h : c ∉ p) : cut (p ++ (c :: r)) [c] = (p, r, true) := by
  have e := index_skip c [] r p h
  simp only [List.cons_append, List.nil_append] at e
  unfold cut
  rw [e, if_pos (by omega)]
  simp only [Int.toNat_natCast, Prod.mk.injEq, and_true]
  refine ⟨by simp, ?_⟩
  rw [List.drop_append]; simp
theorem cut_none (c : UInt8) (p : Bs) (h : c ∉ p) : cut p [c] = (p, [], false) := by
  unfold cut
  rw [index_none_of c [] p h, if_neg (by omega)]
theorem cut_shorter (l : Bs) (c : UInt8) (h : l ≠ []) : (cut l [c]).2.1.length < l.length := by
  have hl : 0 < l.length := List.length_pos_iff.2 h
  unfold cut
  split
  · simp only [List.length_drop, List.length_singleton]; omega
  · simpa using hl

/-! ### Runs -/

def runsOf : List Nat → List (Nat × Nat)
  | [] => []
  | n :: r => match runsOf r with
    | [] => [(n, n)]
    | (a, b) :: R => if a = n + 1 then (n, b) :: R else (n, n) :: (a, b) :: R

/-- The nodes of a run. -/
def span (r : Nat × Nat) : List Nat := List.range' r.1 (r.2 + 1 - r.1)
def elsR (R : List (Nat × Nat)) : List Nat := R.flatMap span

/-- Runs in order, apart, from lo on. -/
inductive RV : Nat → List (Nat × Nat) → Prop
  | nil (lo : Nat) : RV lo []
  | cons (lo : Nat) (r : Nat × Nat) (R : List (Nat × Nat)) (h1 : lo ≤ r.1) (h2 : r.1 ≤ r.2) (h3 : r.2 < 4096) (h4 : RV (r.2 + 2) R) : RV lo (r :: R)

theorem RV.inv {lo : Nat} {r : Nat × Nat} {R : List (Nat × Nat)} (h : RV lo (r :: R)) : lo ≤ r.1 ∧ r.1 ≤ r.2 ∧ r.2 < 4096 ∧ RV (r.2 + 2) R := by
  cases h with
  | cons _ _ _ a b c d => exact ⟨a, b, c, d⟩
theorem RV.mono {lo lo' : Nat} {R : List (Nat × Nat)} (h : RV lo R) (hl : lo' ≤ lo) : RV lo' R := by
  cases h with
  | nil => exact .nil _
  | cons _ _ _ a b c d => exact .cons _ _ _ (Nat.le_trans hl a) b c d

theorem runsOf_ok : ∀ (l : List Nat) (lo : Nat), l.Pairwise (· < ·) → (∀ n ∈ l, lo ≤ n ∧ n < 4096) → RV lo (runsOf l) ∧ elsR (runsOf l) = l
  | [], _, _, _ => ⟨.nil _, rfl⟩
  | n :: r, lo, hs, hb => by
    rw [List.pairwise_cons] at hs
    have hn := hb n (by simp)
    obtain ⟨h1, h2⟩ := runsOf_ok r (n + 1) hs.2 fun m hm => ⟨hs.1 m hm, (hb m (by simp [hm])).2⟩
    rw [runsOf]
    cases hR : runsOf r with
    | nil =>
      rw [hR] at h2
      simp only []
      refine ⟨.cons _ _ _ hn.1 (Nat.le_refl _) hn.2 (.nil _), ?_⟩
      rw [← h2]
      simp [elsR, span]
    | cons q R =>
      obtain ⟨a, b⟩ := q
      rw [hR] at h1 h2
      obtain ⟨g1, g2, g3, g4⟩ := h1.inv
      simp only at g1 g2 g3 g4
      simp only []
      split
      · rename_i e
        subst e
        refine ⟨.cons _ _ _ hn.1 (by show n ≤ b; omega) g3 g4, ?_⟩
        rw [← h2]
        simp only [elsR, List.flatMap_cons, span]
        rw [← List.cons_append]
        congr 1
        rw [show b + 1 - n = (b + 1 - (n + 1)) + 1 by omega, List.range'_succ]
      · rename_i e
        refine ⟨.cons _ _ _ hn.1 (Nat.le_refl _) hn.2 (.cons _ _ _ (by show n + 2 ≤ a; omega) g2 g3 g4), ?_⟩
        rw [← h2]
        simp [elsR, span]

theorem mem_span (r : Nat × Nat) (n : Nat) : n ∈ span r ↔ r.1 ≤ n ∧ n ≤ r.2 := by
  unfold span; rw [List.mem_range'_1]; omega
theorem mem_elsR_lo : ∀ {lo : Nat} {R : List (Nat × Nat)}, RV lo R → ∀ n ∈ elsR R, lo ≤ n ∧ n < 4096
  | _, [], _, n, h => by simp [elsR] at h
  | lo, r :: R, hv, n, h => by
    obtain ⟨h1, h2, h3, h4⟩ := hv.inv
    unfold elsR at h
    rw [List.flatMap_cons, List.mem_append] at h
    rcases h with h | h
    · rw [mem_span] at h; omega
    · have := mem_elsR_lo h4 n h; omega
theorem elsR_sorted : ∀ {lo : Nat} {R : List (Nat × Nat)}, RV lo R → (elsR R).Pairwise (· < ·)
  | _, [], _ => by simp [elsR]
  | _, r :: R, hv => by
    obtain ⟨h1, h2, h3, h4⟩ := hv.inv
    unfold elsR
    rw [List.flatMap_cons, List.pairwise_append]
    refine ⟨List.pairwise_lt_range', elsR_sorted h4, fun x hx y hy => ?_⟩
    rw [mem_span] at hx
    have := mem_elsR_lo h4 y hy
    omega
theorem RV_split : ∀ {lo : Nat} {A B : List (Nat × Nat)}, RV lo (A ++ B) → RV lo A ∧ ∃ hi, RV hi B ∧ ∀ n ∈ elsR A, n + 2 ≤ hi
  | lo, [], B, h => ⟨.nil _, lo, h, by simp [elsR]⟩
  | lo, r :: A, B, h => by
    obtain ⟨h1, h2, h3, h4⟩ := h.inv
    obtain ⟨g1, hi, g2, g3⟩ := RV_split h4
    refine ⟨.cons _ _ _ h1 h2 h3 g1, max hi (r.2 + 2), ?_, ?_⟩
    · by_cases hle : r.2 + 2 ≤ hi
      · rw [Nat.max_eq_left hle]; exact g2
      · rw [Nat.max_eq_right (by omega)]
        cases A with
        | nil => exact h4
        | cons q A =>
          exfalso
          obtain ⟨q1, q2, q3, _⟩ := g1.inv
          have := g3 q.2 (by unfold elsR; rw [List.flatMap_cons, List.mem_append]; left; rw [mem_span]; omega)
          omega
    · intro n hn
      unfold elsR at hn
      rw [List.flatMap_cons, List.mem_append] at hn
      rcases hn with hn | hn
      · rw [mem_span] at hn; omega
      · have := g3 n hn; omega

def runText (r : Nat × Nat) : Bs := if r.1 = r.2 then decDigits r.1 else decDigits r.1 ++ (45 :: decDigits r.2)
def addRun (s : Bs) (r : Nat × Nat) : Bs := (if s = [] then [] else s ++ [44]) ++ runText r
def textR (R : List (Nat × Nat)) : Bs := R.foldl addRun []
/-- The text of a set. -/
def txt (p : Nat → Bool) : Bs := textR (runsOf (els p))

theorem runText_ne (r : Nat × Nat) : runText r ≠ [] := by
  unfold runText; split
  · exact dd_ne _
  · simp
theorem addRun_ne (s : Bs) (r : Nat × Nat) : addRun s r ≠ [] := by
  unfold addRun; intro h; exact runText_ne r (List.append_eq_nil_iff.1 h).2
theorem textR_snoc (R : List (Nat × Nat)) (r : Nat × Nat) : textR (R ++ [r]) = addRun (textR R) r := by simp [textR]
theorem textR_nil : textR [] = [] := rfl

def tailT : List (Nat × Nat) → Bs
  | [] => []
  | r :: R => 44 :: (runText r ++ tailT R)
def headT : List (Nat × Nat) → Bs
  | [] => []
  | r :: R => runText r ++ tailT R
theorem fold_tail : ∀ (R : List (Nat × Nat)) (s : Bs), s ≠ [] → R.foldl addRun s = s ++ tailT R
  | [], s, _ => by simp [tailT]
  | r :: R, s, h => by
    rw [List.foldl_cons, fold_tail R _ (addRun_ne s r), tailT]
    unfold addRun
    rw [if_neg h]; simp
theorem textR_head (R : List (Nat × Nat)) : textR R = headT R := by
  cases R with
  | nil => rfl
  | cons r R =>
    unfold textR
    rw [List.foldl_cons, fold_tail _ _ (addRun_ne _ _), headT]
    simp [addRun]

theorem runText_len {r : Nat × Nat} (h1 : r.1 < 4096) (h2 : r.2 < 4096) : (runText r).length ≤ 9 := by
  have a := dd_len r.1 (by omega)
  have b := dd_len r.2 (by omega)
  unfold runText; split
  · omega
  · simp; omega
theorem tailT_len : ∀ {lo : Nat} {R : List (Nat × Nat)}, RV lo R → (tailT R).length ≤ 10 * R.length
  | _, [], _ => by simp [tailT]
  | _, r :: R, h => by
    obtain ⟨h1, h2, h3, h4⟩ := h.inv
    have := tailT_len h4
    have := runText_len (r := r) (by omega) h3
    simp [tailT]; omega
theorem headT_len {lo : Nat} {R : List (Nat × Nat)} (h : RV lo R) : (headT R).length ≤ 10 * R.length := by
  cases R with
  | nil => simp [headT]
  | cons r R =>
    have := tailT_len h
    simp [tailT] at this
    simp [headT]; omega
theorem elsR_len : ∀ {lo : Nat} {R : List (Nat × Nat)}, RV lo R → R.length ≤ (elsR R).length
  | _, [], _ => by simp [elsR]
  | _, r :: R, h => by
    obtain ⟨h1, h2, h3, h4⟩ := h.inv
    have := elsR_len h4
    unfold elsR at *
    rw [List.flatMap_cons, List.length_append, List.length_cons]
    simp only [span, List.length_range']
    omega

theorem runs_els (p : Nat → Bool) : RV 0 (runsOf (els p)) ∧ elsR (runsOf (els p)) = els p :=
  runsOf_ok (els p) 0 (els_sorted p) fun n hn => ⟨Nat.zero_le _, els_lt p n hn⟩
theorem headT_bound {R : List (Nat × Nat)} {l : List Nat} (h1 : RV 0 R) (h2 : elsR R = l) (h3 : l.length ≤ 4096) : (headT R).length ≤ 40960 := by
  have a := headT_len h1
  have b := elsR_len h1
  rw [h2] at b
  omega
theorem txt_len (p : Nat → Bool) : (txt p).length ≤ 40960 := by
  unfold txt
  rw [textR_head]
  exact headT_bound (runs_els p).1 (runs_els p).2 (els_length p)

/-! ### The text, node by node -/

def hasI (p : Nat → Bool) (n : Int) : Bool := decide (0 ≤ n ∧ n < 4096) && p n.toNat
def stepTx (p : Nat → Bool) (acc : Bs) (x : Int) : Bs :=
  if hasI p (x - 1) = false then (if acc = [] then acc else acc ++ [44]) ++ decDigits x.toNat
  else if hasI p (x + 1) = false then acc ++ [45] ++ decDigits x.toNat else acc

theorem hasI_els (p : Nat → Bool) (n : Nat) : hasI p (n : Int) = decide (n ∈ els p) := by
  rw [Bool.eq_iff_iff, decide_eq_true_iff, mem_els]
  unfold hasI
  simp only [Bool.and_eq_true, decide_eq_true_eq, Int.toNat_natCast]
  exact ⟨fun h => ⟨by omega, h.2⟩, fun h => ⟨by omega, h.2⟩⟩

theorem step_run (p : Nat → Bool) (acc : Bs) (a b : Nat) (hm : hasI p ((a : Int) - 1) = false) (hin : ∀ n, a ≤ n → n ≤ b → hasI p (n : Int) = true) (hend : hasI p ((b : Int) + 1) = false) (k : Nat) : a + k ≤ b →
    ((List.range' a (k + 1)).map fun (n : Nat) => (n : Int)).foldl (stepTx p) acc = (if acc = [] then acc else acc ++ [44]) ++ decDigits a ++ (if a + k = b ∧ 0 < k then 45 :: decDigits b else []) := by
  induction k with
  | zero =>
    intro _
    simp only [List.range'_succ, List.range'_zero, List.map_cons, List.map_nil, List.foldl_cons, List.foldl_nil, Nat.add_zero, Nat.lt_irrefl, and_false, if_false, List.append_nil]
    unfold stepTx
    rw [if_pos hm, Int.toNat_natCast]
  | succ k ih =>
    intro hb
    rw [List.range'_concat, List.map_append, List.foldl_append, ih (by omega)]
    simp only [List.map_cons, List.map_nil, List.foldl_cons, List.foldl_nil, Nat.one_mul]
    rw [if_neg (show ¬ (a + k = b ∧ 0 < k) by omega), List.append_nil]
    have h1 : hasI p (((a + (k + 1) : Nat) : Int) - 1) = true := by
      rw [show ((a + (k + 1) : Nat) : Int) - 1 = ((a + k : Nat) : Int) by omega]
      exact hin _ (by omega) (by omega)
    unfold stepTx
    rw [if_neg (by rw [h1]; simp)]
    by_cases e : a + (k + 1) = b
    · rw [if_pos (by rw [show ((a + (k + 1) : Nat) : Int) + 1 = (b : Int) + 1 by omega]; exact hend), if_pos (show a + (k + 1) = b ∧ 0 < k + 1 from ⟨e, by omega⟩), Int.toNat_natCast, e]
      simp
    · have h2 : hasI p (((a + (k + 1) : Nat) : Int) + 1) = true := by
        rw [show ((a + (k + 1) : Nat) : Int) + 1 = ((a + (k + 1) + 1 : Nat) : Int) by omega]
        exact hin _ (by omega) (by omega)
      rw [if_neg (by rw [h2]; simp), if_neg (show ¬ (a + (k + 1) = b ∧ 0 < k + 1) by omega)]; simp

theorem fold_runs (p : Nat → Bool) : ∀ (B : List (Nat × Nat)) (A : List (Nat × Nat)) (acc : Bs), RV 0 (A ++ B) → els p = elsR (A ++ B) →
    ((elsR B).map fun (n : Nat) => (n : Int)).foldl (stepTx p) acc = B.foldl addRun acc
  | [], _, acc, _, _ => rfl
  | r :: B, A, acc, hv, he => by
    obtain ⟨_, hi, hB, hA⟩ := RV_split hv
    obtain ⟨g1, g2, g3, g4⟩ := hB.inv
    have hmem : ∀ n, n ∈ els p ↔ n ∈ elsR A ∨ n ∈ span r ∨ n ∈ elsR B := fun n => by rw [he]; unfold elsR; rw [List.flatMap_append, List.flatMap_cons, List.mem_append, List.mem_append]
    have hm : hasI p ((r.1 : Int) - 1) = false := by
      by_cases h0 : r.1 = 0
      · rw [h0]; unfold hasI; simp
      · rw [show (r.1 : Int) - 1 = ((r.1 - 1 : Nat) : Int) by omega, hasI_els, decide_eq_false_iff_not, hmem]
        rintro (h | h | h)
        · have := hA _ h; omega
        · rw [mem_span] at h; omega
        · have := mem_elsR_lo g4 _ h; omega
    have hend : hasI p ((r.2 : Int) + 1) = false := by
      rw [show (r.2 : Int) + 1 = ((r.2 + 1 : Nat) : Int) by omega, hasI_els, decide_eq_false_iff_not, hmem]
      rintro (h | h | h)
      · have := hA _ h; omega
      · rw [mem_span] at h; omega
      · have := mem_elsR_lo g4 _ h; omega
    have hin : ∀ n, r.1 ≤ n → n ≤ r.2 → hasI p (n : Int) = true := fun n h1 h2 => by
      rw [hasI_els, decide_eq_true_iff, hmem]; right; left; rw [mem_span]; exact ⟨h1, h2⟩
    have hrun := step_run p acc r.1 r.2 hm hin hend (r.2 - r.1) (by omega)
    rw [show r.2 - r.1 + 1 = r.2 + 1 - r.1 by omega] at hrun
    have e1 : elsR (r :: B) = span r ++ elsR B := by unfold elsR; rw [List.flatMap_cons]
    rw [e1, List.map_append, List.foldl_append, List.foldl_cons]
    have e2 : ((span r).map fun (n : Nat) => (n : Int)).foldl (stepTx p) acc = addRun acc r := by
      unfold span
      rw [hrun]
      unfold addRun runText
      by_cases e : r.1 = r.2
      · rw [if_neg (show ¬ (r.1 + (r.2 - r.1) = r.2 ∧ 0 < r.2 - r.1) by omega), if_pos e, List.append_nil]
        by_cases ha : acc = []
        · simp [ha]
        · simp [ha]
      · rw [if_pos (show r.1 + (r.2 - r.1) = r.2 ∧ 0 < r.2 - r.1 by omega), if_neg e]
        by_cases ha : acc = []
        · simp [ha]
        · simp [ha]
    rw [e2]
    exact fold_runs p B (A ++ [r]) _ (by rw [List.append_assoc]; exact hv) (by rw [List.append_assoc]; exact he)

theorem fold_list (p : Nat → Bool) (R : List (Nat × Nat)) (l : List Nat) (h1 : RV 0 R) (h2 : elsR R = l) (h3 : els p = l) : (l.map fun (n : Nat) => (n : Int)).foldl (stepTx p) [] = textR R := by
  have := fold_runs p R [] [] h1 (h3.trans h2.symm)
  rw [h2] at this
  exact this

theorem fold_txt (p : Nat → Bool) : (ei p).foldl (stepTx p) [] = txt p :=
  fold_list p (runsOf (els p)) (els p) (runs_els p).1 (runs_els p).2 rfl

end Nds
