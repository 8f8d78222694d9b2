/- Parsing, the code's and the reference's: plain facts on lists of bytes. -/
import Derived.Test.YtggalncjookkiaaDoorTexts
namespace Nds
open Go Go.Lib

/-! ### The code's parser -/

/-- What readRun returns. -/
def runOf (l : Bs) : Int × Int := if (cut l [45]).2.2 then (num (cut l [45]).1, num (cut l [45]).2.1) else (num (cut l [45]).1, num (cut l [45]).1)

/-- p and the nodes from a to below n. -/
def addTo (p : Nat → Bool) (a n : Int) : Nat → Bool := fun m => p m || decide (a ≤ (m : Int) ∧ (m : Int) < n)

def Bad (next f l : Int) : Prop := f < next ∨ l < f ∨ 4096 ≤ l
instance (next f l : Int) : Decidable (Bad next f l) := inferInstanceAs (Decidable (_ ∨ _))

def runsW (next : Int) (p : Nat → Bool) (l : Bs) : Nat → Bool :=
  if h : l = [] then p
  else if Bad next (runOf (cut l [44]).1).1 (runOf (cut l [44]).1).2 then p
  else runsW ((runOf (cut l [44]).1).2 + 1) (addTo p (runOf (cut l [44]).1).1 ((runOf (cut l [44]).1).2 + 1)) (cut l [44]).2.1
termination_by l.length
decreasing_by exact cut_shorter l 44 h

theorem runsW_nil (next : Int) (p : Nat → Bool) : runsW next p [] = p := by rw [runsW, dif_pos rfl]
theorem runsW_bad {next : Int} {p : Nat → Bool} {l : Bs} (h : l ≠ []) (hb : Bad next (runOf (cut l [44]).1).1 (runOf (cut l [44]).1).2) : runsW next p l = p := by rw [runsW, dif_neg h, if_pos hb]
theorem runsW_step {next : Int} {p : Nat → Bool} {l : Bs} (h : l ≠ []) (hb : ¬ Bad next (runOf (cut l [44]).1).1 (runOf (cut l [44]).1).2) :
    runsW next p l = runsW ((runOf (cut l [44]).1).2 + 1) (addTo p (runOf (cut l [44]).1).1 ((runOf (cut l [44]).1).2 + 1)) (cut l [44]).2.1 := by rw [runsW, dif_neg h, if_neg hb]

theorem runText_no_comma (r : Nat × Nat) : (44 : UInt8) ∉ runText r := by
  have a := dd_not_mem r.1 44 (by decide)
  have b := dd_not_mem r.2 44 (by decide)
  unfold runText
  split
  · exact a
  · rw [List.mem_append, List.mem_cons]
    rintro (h | h | h)
    · exact a h
    · revert h; decide
    · exact b h

theorem cut_head {lo : Nat} {r : Nat × Nat} {R : List (Nat × Nat)} (_h : RV lo (r :: R)) : (cut (headT (r :: R)) [44]).1 = runText r ∧ (cut (headT (r :: R)) [44]).2.1 = headT R := by
  cases R with
  | nil =>
    simp only [headT, tailT, List.append_nil]
    rw [cut_none 44 _ (runText_no_comma r)]
    exact ⟨rfl, rfl⟩
  | cons q R =>
    simp only [headT, tailT]
    rw [cut_at 44 _ _ (runText_no_comma r)]
    exact ⟨rfl, rfl⟩

theorem runOf_text (r : Nat × Nat) (h1 : r.1 < 4096) (h2 : r.2 < 4096) : runOf (runText r) = ((r.1 : Int), (r.2 : Int)) := by
  have a := dd_not_mem r.1 45 (by decide)
  unfold runText
  split
  · rename_i e
    unfold runOf
    rw [cut_none 45 _ a]
    simp only [Bool.false_eq_true, if_false]
    rw [num_dd r.1 (by omega), ← e]
  · unfold runOf
    rw [cut_at 45 _ _ a]
    simp only [if_true]
    rw [num_dd r.1 (by omega), num_dd r.2 (by omega)]

theorem headT_ne (r : Nat × Nat) (R : List (Nat × Nat)) : headT (r :: R) ≠ [] := by
  unfold headT; intro h; exact runText_ne r (List.append_eq_nil_iff.1 h).1

theorem runsW_text : ∀ (R : List (Nat × Nat)) (lo : Nat) (next : Int) (p : Nat → Bool), RV lo R → next ≤ lo → runsW next p (headT R) = R.foldl (fun q r => addTo q r.1 (r.2 + 1)) p
  | [], _, _, p, _, _ => runsW_nil _ p
  | r :: R, lo, next, p, hv, hn => by
    obtain ⟨g1, g2, g3, g4⟩ := hv.inv
    obtain ⟨c1, c2⟩ := cut_head hv
    have hr := runOf_text r (by omega) g3
    have hb : ¬ Bad next (runOf (cut (headT (r :: R)) [44]).1).1 (runOf (cut (headT (r :: R)) [44]).1).2 := by
      rw [c1, hr]
      unfold Bad
      simp only []
      omega
    rw [runsW_step (headT_ne r R) hb, c1, c2, hr]
    simp only []
    rw [runsW_text R (r.2 + 2) _ _ g4 (by omega)]
    rfl

theorem fold_addTo : ∀ (R : List (Nat × Nat)) (p : Nat → Bool) (n : Nat), R.foldl (fun q r => addTo q r.1 (r.2 + 1)) p n = (p n || decide (n ∈ elsR R))
  | [], p, n => by simp [elsR]
  | r :: R, p, n => by
    rw [List.foldl_cons, fold_addTo R]
    unfold addTo elsR
    rw [List.flatMap_cons, Bool.or_assoc]
    congr 1
    rw [Bool.eq_iff_iff]
    simp only [Bool.or_eq_true, decide_eq_true_eq, List.mem_append, mem_span]
    constructor
    · rintro (h | h)
      · left; omega
      · right; exact h
    · rintro (h | h)
      · left; omega
      · right; exact h

/-- What readRuns returns. -/
def readAll (l : Bs) : Nat → Bool := runsW 0 (fun _ => false) l

theorem readAll_list (R : List (Nat × Nat)) (h1 : RV 0 R) (n : Nat) : readAll (headT R) n = decide (n ∈ elsR R) := by
  unfold readAll
  rw [runsW_text R 0 0 _ h1 (by omega), fold_addTo]; simp

theorem readAll_txt (p : Nat → Bool) : els (readAll (txt p)) = els p := by
  have h1 := runs_els p
  have h2 := readAll_list (runsOf (els p)) h1.1
  unfold txt
  rw [textR_head]
  refine els_congr fun n hn => ?_
  rw [h2 n, h1.2, Bool.eq_iff_iff, decide_eq_true_iff, mem_els]
  exact ⟨fun h => h.2, fun h => ⟨hn, h⟩⟩

theorem txt_inj {p q : Nat → Bool} (h : txt p = txt q) : els p = els q := by
  rw [← readAll_txt p, h, readAll_txt q]
theorem txt_congr {p q : Nat → Bool} (h : els p = els q) : txt p = txt q := by unfold txt; rw [h]

/-! ### The reference's parser -/

def rnumT : Nat → Nat → Nat → Bs → Nat × Nat
  | 0, n, k, _ => (n, k)
  | _ + 1, n, k, [] => (n, k)
  | f + 1, n, k, c :: r => if 48 ≤ c.toNat ∧ c.toNat ≤ 57 then rnumT f (10 * n + (c.toNat - 48)) (k + 1) r else (n, k)
/-- The leading digits, at most four: their value, their count. -/
def rnumber (l : Bs) : Nat × Nat := rnumT 4 0 0 l

theorem rnumT_bd : ∀ (f n k : Nat) (l : Bs), n < 10 ^ k → (rnumT f n k l).1 < 10 ^ (k + f) ∧ (rnumT f n k l).2 ≤ k + f ∧ k ≤ (rnumT f n k l).2 ∧ (rnumT f n k l).2 ≤ k + l.length
  | 0, n, k, l, h => by unfold rnumT; exact ⟨h, by simp, by simp, by simp⟩
  | f + 1, n, k, [], h => by
    unfold rnumT
    refine ⟨Nat.lt_of_lt_of_le h (Nat.pow_le_pow_right (by omega) (by omega)), by simp, by simp, by simp⟩
  | f + 1, n, k, c :: r, h => by
    unfold rnumT
    split
    · have hp : 10 ^ (k + 1) = 10 ^ k * 10 := Nat.pow_succ ..
      obtain ⟨a, b, c', d⟩ := rnumT_bd f (10 * n + (c.toNat - 48)) (k + 1) r (by omega)
      refine ⟨by rw [show k + (f + 1) = k + 1 + f by omega]; exact a, by omega, by omega, by simp; omega⟩
    · refine ⟨Nat.lt_of_lt_of_le h (Nat.pow_le_pow_right (by omega) (by omega)), by simp, by simp, by simp⟩

theorem rnumber_bd (l : Bs) : (rnumber l).1 < 10000 ∧ (rnumber l).2 ≤ 4 ∧ (rnumber l).2 ≤ l.length := by
  obtain ⟨a, b, _, d⟩ := rnumT_bd 4 0 0 l (by simp)
  unfold rnumber
  exact ⟨by simpa using a, by omega, by omega⟩

def ints (n last : Nat) : List Int := (List.range' n (last + 1 - n)).map fun (m : Nat) => (m : Int)

/-- Whether a hyphen stands behind the first number. -/
def dash (l : Bs) : Bool := decide (0 < (rnumber l).2) && ((l.drop (rnumber l).2).head? == some 45)
def lastOf (l : Bs) : Nat × Nat := if dash l then rnumber (l.drop ((rnumber l).2 + 1)) else rnumber l
def usedOf (l : Bs) : Nat := if dash l then (rnumber l).2 + 1 + (lastOf l).2 else (rnumber l).2
def Stop (l : Bs) : Prop := (lastOf l).2 = 0 ∨ 4096 ≤ (rnumber l).1 ∨ 4096 ≤ (lastOf l).1
instance (l : Bs) : Decidable (Stop l) := inferInstanceAs (Decidable (_ ∨ _))

def rp (out : List Int) (l : Bs) : Option (List Int) :=
  if h : l = [] then some out
  else if Stop l then none
  else rp (out ++ ints (rnumber l).1 (lastOf l).1) (l.drop (usedOf l + 1))
termination_by l.length
decreasing_by
  have := List.length_pos_iff.2 h
  rw [List.length_drop]; omega

theorem rp_nil (out : List Int) : rp out [] = some out := by rw [rp, dif_pos rfl]
theorem rp_stop {out : List Int} {l : Bs} (h : l ≠ []) (hs : Stop l) : rp out l = none := by rw [rp, dif_neg h, if_pos hs]
theorem rp_step {out : List Int} {l : Bs} (h : l ≠ []) (hs : ¬ Stop l) : rp out l = rp (out ++ ints (rnumber l).1 (lastOf l).1) (l.drop (usedOf l + 1)) := by rw [rp, dif_neg h, if_neg hs]

theorem used_le (l : Bs) : usedOf l ≤ l.length := by
  have h1 := (rnumber_bd l).2.2
  unfold usedOf
  cases hd : dash l
  · simpa using h1
  · simp only [if_true]
    have h2 : (lastOf l).2 ≤ (l.drop ((rnumber l).2 + 1)).length := by
      unfold lastOf; rw [hd]; simp only [if_true]; exact (rnumber_bd _).2.2
    rw [List.length_drop] at h2
    have h3 : (rnumber l).2 < l.length := by
      unfold dash at hd
      rw [Bool.and_eq_true] at hd
      have := hd.2
      rcases Nat.lt_or_ge (rnumber l).2 l.length with h | h
      · exact h
      · rw [List.drop_eq_nil_of_le h] at this; simp at this
    omega

/-- r does not begin with a digit. -/
def NoDigit (r : Bs) : Prop := ∀ c t, r = c :: t → ¬ (48 ≤ c.toNat ∧ c.toNat ≤ 57)
theorem rnumT_stop (f n k : Nat) (r : Bs) (h : NoDigit r) : rnumT f n k r = (n, k) := by
  cases f with
  | zero => unfold rnumT; rfl
  | succ f =>
    cases r with
    | nil => unfold rnumT; rfl
    | cons c t => unfold rnumT; rw [if_neg (h c t rfl)]
theorem rnumT_digit (f n k d : Nat) (r : Bs) (hd : d < 10) : rnumT (f + 1) n k (UInt8.ofNat (48 + d) :: r) = rnumT f (10 * n + d) (k + 1) r := by
  have e : (UInt8.ofNat (48 + d)).toNat = 48 + d := ofNat_toNat (by omega)
  conv => lhs; unfold rnumT
  rw [e, if_pos (by omega)]
  congr 1; omega

theorem rnumber_dd (u : Nat) (hu : u < 10000) (r : Bs) (hr : NoDigit r) : rnumber (decDigits u ++ r) = (u, (decDigits u).length) := by
  unfold rnumber
  by_cases h1 : u < 10
  · rw [dd_small h1]
    simp only [List.cons_append, List.nil_append]
    rw [rnumT_digit _ _ _ _ _ h1, rnumT_stop _ _ _ _ hr]
    simp
  · rw [dd_big h1]
    by_cases h2 : u / 10 < 10
    · rw [dd_small h2]
      simp only [List.cons_append, List.nil_append]
      rw [rnumT_digit _ _ _ _ _ h2, rnumT_digit _ _ _ _ _ (by omega), rnumT_stop _ _ _ _ hr]
      exact Prod.ext (by simp only []; omega) (by simp)
    · rw [dd_big h2]
      by_cases h3 : u / 10 / 10 < 10
      · rw [dd_small h3]
        simp only [List.cons_append, List.nil_append]
        rw [rnumT_digit _ _ _ _ _ h3, rnumT_digit _ _ _ _ _ (by omega), rnumT_digit _ _ _ _ _ (by omega), rnumT_stop _ _ _ _ hr]
        exact Prod.ext (by simp only []; omega) (by simp)
      · rw [dd_big h3, dd_small (u := u / 10 / 10 / 10) (by omega)]
        simp only [List.cons_append, List.nil_append]
        rw [rnumT_digit _ _ _ _ _ (by omega), rnumT_digit _ _ _ _ _ (by omega), rnumT_digit _ _ _ _ _ (by omega), rnumT_digit _ _ _ _ _ (by omega), rnumT_stop _ _ _ _ hr]
        exact Prod.ext (by simp only []; omega) (by simp)

theorem noDigit_tail (R : List (Nat × Nat)) : NoDigit (tailT R) := by
  intro c t h
  cases R with
  | nil => cases h
  | cons r R =>
    simp only [tailT, List.cons.injEq] at h
    rw [← h.1]; decide
theorem noDigit_dash (r : Bs) : NoDigit (45 :: r) := by
  intro c t h
  simp only [List.cons.injEq] at h
  rw [← h.1]; decide

theorem head_facts {lo : Nat} {r : Nat × Nat} {R : List (Nat × Nat)} (h : RV lo (r :: R)) :
    (rnumber (headT (r :: R))).1 = r.1 ∧ (lastOf (headT (r :: R))).1 = r.2 ∧ (lastOf (headT (r :: R))).2 ≠ 0 ∧ (headT (r :: R)).drop (usedOf (headT (r :: R)) + 1) = headT R := by
  obtain ⟨g1, g2, g3, g4⟩ := h.inv
  have next : ∀ l : Bs, (l ++ tailT R).drop (l.length + 1) = headT R := fun l => by
    rw [List.drop_append, List.drop_eq_nil_of_le (by omega), List.nil_append, show l.length + 1 - l.length = 1 by omega]
    cases R with
    | nil => rfl
    | cons q R => rfl
  have hp1 := List.length_pos_iff.2 (dd_ne r.1)
  have hp2 := List.length_pos_iff.2 (dd_ne r.2)
  have hh : headT (r :: R) = runText r ++ tailT R := rfl
  rw [hh]
  unfold runText
  split
  · rename_i e
    have hn := rnumber_dd r.1 (by omega) (tailT R) (noDigit_tail R)
    have hd : dash (decDigits r.1 ++ tailT R) = false := by
      unfold dash
      rw [hn]
      simp only []
      rw [List.drop_append, List.drop_length, List.nil_append, Nat.sub_self, List.drop_zero, Bool.and_eq_false_iff]
      right
      cases R with
      | nil => rfl
      | cons q R => rfl
    have hl : lastOf (decDigits r.1 ++ tailT R) = (r.1, (decDigits r.1).length) := by unfold lastOf; rw [hd, hn]; rfl
    have hu : usedOf (decDigits r.1 ++ tailT R) = (decDigits r.1).length := by unfold usedOf; rw [hd, hn]; rfl
    rw [hn, hl, hu]
    exact ⟨rfl, e, by omega, next _⟩
  · rw [List.append_assoc, List.cons_append]
    have hn := rnumber_dd r.1 (by omega) (45 :: (decDigits r.2 ++ tailT R)) (noDigit_dash _)
    have hn2 := rnumber_dd r.2 (by omega) (tailT R) (noDigit_tail R)
    have hd : dash (decDigits r.1 ++ 45 :: (decDigits r.2 ++ tailT R)) = true := by
      unfold dash
      rw [hn]
      simp only []
      rw [List.drop_append, List.drop_length, List.nil_append, Nat.sub_self, List.drop_zero, Bool.and_eq_true, decide_eq_true_iff]
      exact ⟨hp1, rfl⟩
    have hdr : (decDigits r.1 ++ 45 :: (decDigits r.2 ++ tailT R)).drop ((decDigits r.1).length + 1) = decDigits r.2 ++ tailT R := by
      rw [List.drop_append, List.drop_eq_nil_of_le (by omega), List.nil_append, show (decDigits r.1).length + 1 - (decDigits r.1).length = 1 by omega]; rfl
    have hl : lastOf (decDigits r.1 ++ 45 :: (decDigits r.2 ++ tailT R)) = (r.2, (decDigits r.2).length) := by unfold lastOf; rw [hd, hn]; simp only [if_true]; rw [hdr, hn2]
    have hu : usedOf (decDigits r.1 ++ 45 :: (decDigits r.2 ++ tailT R)) = (decDigits r.1).length + 1 + (decDigits r.2).length := by unfold usedOf; rw [hd, hl, hn]; rfl
    rw [hn, hl, hu]
    refine ⟨rfl, rfl, by omega, ?_⟩
    have e : decDigits r.1 ++ 45 :: (decDigits r.2 ++ tailT R) = (decDigits r.1 ++ 45 :: decDigits r.2) ++ tailT R := by simp
    rw [e, show (decDigits r.1).length + 1 + (decDigits r.2).length + 1 = (decDigits r.1 ++ 45 :: decDigits r.2).length + 1 by simp; omega]
    exact next _

theorem rp_text : ∀ (R : List (Nat × Nat)) (lo : Nat) (out : List Int), RV lo R → rp out (headT R) = some (out ++ (elsR R).map fun (n : Nat) => (n : Int))
  | [], _, out, _ => by rw [show headT [] = [] from rfl, rp_nil]; simp [elsR]
  | r :: R, lo, out, h => by
    obtain ⟨a, b, c, d⟩ := head_facts h
    obtain ⟨g1, g2, g3, g4⟩ := h.inv
    have hs : ¬ Stop (headT (r :: R)) := by
      unfold Stop; rw [a, b]; omega
    rw [rp_step (headT_ne r R) hs, a, b, d, rp_text R _ _ g4]
    unfold elsR ints
    rw [List.flatMap_cons, List.map_append, List.append_assoc]; rfl

theorem rp_list (R : List (Nat × Nat)) (l : List Nat) (h1 : RV 0 R) (h2 : elsR R = l) : rp [] (headT R) = some (l.map fun (n : Nat) => (n : Int)) := by
  rw [rp_text R 0 [] h1, h2, List.nil_append]
theorem rp_txt (p : Nat → Bool) : rp [] (txt p) = some (ei p) := by
  unfold txt
  rw [textR_head]
  exact rp_list _ _ (runs_els p).1 (runs_els p).2

theorem ints_len (n last : Nat) (h : last < 4096) : (ints n last).length ≤ 4096 := by unfold ints; simp; omega

end Nds
