/- Plain mathematics of layer 7: reachability in a road graph, its parts. -/
import Derived.Lib.Hide
set_option linter.unusedVariables false
set_option linter.unusedSectionVars false
namespace Rg

abbrev Ed3 := Int × Int × Int
abbrev inf : Int := 4611686018427387904

/-- b can be reached from a over open edges. -/
inductive Reach (l : List Ed3) (a : Int) : Int → Prop
  | refl : Reach l a a
  | step {b : Int} (e : Ed3) : Reach l a b → e ∈ l → e.2.2 ≠ inf → e.1 = b → Reach l a e.2.1

theorem Reach.trans {l : List Ed3} {a b c : Int} (h : Reach l a b) (k : Reach l b c) : Reach l a c := by
  induction k with
  | refl => exact h
  | step e _ he ho hb ih => exact .step e ih he ho hb
theorem Reach.one {l : List Ed3} (e : Ed3) (he : e ∈ l) (ho : e.2.2 ≠ inf) : Reach l e.1 e.2.1 := .step e .refl he ho rfl
theorem Reach.mono {l l' : List Ed3} {a b : Int} (h : ∀ e ∈ l, e.2.2 ≠ inf → e ∈ l') (k : Reach l a b) : Reach l' a b := by
  induction k with
  | refl => exact .refl
  | step e _ he ho hb ih => exact .step e ih (h e he ho) ho hb

/-! ### All edges turned -/

def turn (e : Ed3) : Ed3 := (e.2.1, e.1, e.2.2)
theorem turn_turn (e : Ed3) : turn (turn e) = e := rfl
def back (l : List Ed3) : List Ed3 := l.map turn
theorem back_back (l : List Ed3) : back (back l) = l := by
  unfold back; rw [List.map_map]
  exact (List.map_congr_left fun e _ => turn_turn e).trans (List.map_id' l)
theorem Reach.back {l : List Ed3} {a b : Int} (h : Reach l a b) : Reach (back l) b a := by
  induction h with
  | refl => exact .refl
  | step e _ he ho hb ih =>
    have k : Reach (Rg.back l) (turn e).1 (turn e).2.1 := .one (turn e) (List.mem_map.2 ⟨e, he, rfl⟩) ho
    exact Reach.trans (by simpa [turn, hb] using k) ih
theorem reach_back {l : List Ed3} {a b : Int} : Reach (back l) b a ↔ Reach l a b :=
  ⟨fun h => by have := h.back; rwa [back_back] at this, Reach.back⟩

/-! ### What New asks -/

def edgeOk (N : Int) (e : Ed3) : Bool := decide (0 ≤ e.1) && decide (e.1 < N) && decide (0 ≤ e.2.1) && decide (e.2.1 < N) && (decide (e.2.2 = inf) || decide (1 ≤ e.2.2) && decide (e.2.2 ≤ 1048576))
/-- The error's number; 0: none. -/
def wrong (N : Int) (l : List Ed3) : Int :=
  if N < 1 ∨ 4096 < N then 1 else if 16384 < l.length then 3 else if l.all (edgeOk N) = false then 1 else 0
structure FairR (N : Int) (l : List Ed3) : Prop where
  lo : 1 ≤ N
  hi : N ≤ 4096
  few : l.length ≤ 16384
  ends : ∀ e ∈ l, 0 ≤ e.1 ∧ e.1 < N ∧ 0 ≤ e.2.1 ∧ e.2.1 < N
  times : ∀ e ∈ l, e.2.2 = inf ∨ 1 ≤ e.2.2 ∧ e.2.2 ≤ 1048576
theorem edgeOk_iff {N : Int} {e : Ed3} : edgeOk N e = true ↔ (0 ≤ e.1 ∧ e.1 < N ∧ 0 ≤ e.2.1 ∧ e.2.1 < N) ∧ (e.2.2 = inf ∨ 1 ≤ e.2.2 ∧ e.2.2 ≤ 1048576) := by
  simp [edgeOk, and_assoc]
theorem fair_iff {N : Int} {l : List Ed3} : wrong N l = 0 ↔ FairR N l := by
  unfold wrong
  constructor
  · intro h
    split at h
    · omega
    · split at h
      · omega
      · split at h
        · omega
        · rename_i h1 h2 h3
          have h3' : l.all (edgeOk N) = true := by simpa using h3
          rw [List.all_eq_true] at h3'
          exact ⟨by omega, by omega, by omega, fun e he => (edgeOk_iff.1 (h3' e he)).1, fun e he => (edgeOk_iff.1 (h3' e he)).2⟩
  · rintro ⟨h1, h2, h3, h4, h5⟩
    rw [if_neg (by omega), if_neg (by omega), if_neg]
    rw [Bool.not_eq_false, List.all_eq_true]
    exact fun e he => edgeOk_iff.2 ⟨h4 e he, h5 e he⟩
theorem FairR.back {N : Int} {l : List Ed3} (h : FairR N l) : FairR N (back l) := by
  refine ⟨h.lo, h.hi, by simpa [Rg.back] using h.few, fun e he => ?_, fun e he => ?_⟩
  · obtain ⟨x, hx, rfl⟩ := List.mem_map.1 he
    have := h.ends x hx
    exact ⟨this.2.2.1, this.2.2.2, this.1, this.2.1⟩
  · obtain ⟨x, hx, rfl⟩ := List.mem_map.1 he
    exact h.times x hx
theorem Reach.node {N : Int} {l : List Ed3} (h : FairR N l) {a b : Int} (ha : 0 ≤ a ∧ a < N) (k : Reach l a b) : 0 ≤ b ∧ b < N := by
  induction k with
  | refl => exact ha
  | step e _ he _ _ _ => exact (h.ends e he).2.2

/-! ### The nodes aheadR, round by round -/

def starts (N : Int) (there : List Int) : List Int → List Int
  | [] => there
  | f :: r => starts N (if 0 ≤ f ∧ f < N ∧ f ∉ there then there ++ [f] else there) r
def relax (there : List Int) (e : Ed3) : List Int := if e.2.2 ≠ inf ∧ e.1 ∈ there ∧ e.2.1 ∉ there then there ++ [e.2.1] else there
def round (l : List Ed3) (there : List Int) : List Int := l.foldl relax there
def rounds (l : List Ed3) : Nat → List Int → List Int
  | 0, t => t
  | k + 1, t => round l (rounds l k t)
def nodesOf (N : Nat) (there : List Int) : List Int := ((List.range N).map (fun (n : Nat) => (n : Int))).filter (fun n => decide (n ∈ there))
def aheadR (N : Nat) (l : List Ed3) (src : List Int) : List Int := nodesOf N (rounds l N (starts N [] src))

theorem nodup_snoc {l : List Int} {a : Int} (h : l.Nodup) (ha : a ∉ l) : (l ++ [a]).Nodup := by
  rw [List.nodup_append]
  exact ⟨h, by simp, fun x hx y hy => by simp at hy; subst hy; rintro rfl; exact ha hx⟩

theorem starts_all {N : Int} : ∀ (src there : List Int), there.Nodup → (∀ x ∈ there, 0 ≤ x ∧ x < N) → (starts N there src).Nodup ∧ (∀ x ∈ starts N there src, 0 ≤ x ∧ x < N) ∧ ∀ x, x ∈ starts N there src ↔ x ∈ there ∨ (x ∈ src ∧ 0 ≤ x ∧ x < N)
  | [], there, hn, hi => ⟨hn, hi, by simp [starts]⟩
  | f :: r, there, hn, hi => by
    unfold starts
    by_cases h : 0 ≤ f ∧ f < N ∧ f ∉ there
    · rw [if_pos h]
      obtain ⟨a, b, c⟩ := starts_all (N := N) r (there ++ [f]) (nodup_snoc hn h.2.2) (fun x hx => by
        rcases List.mem_append.1 hx with hx | hx
        · exact hi x hx
        · simp at hx; subst hx; exact ⟨h.1, h.2.1⟩)
      refine ⟨a, b, fun x => ?_⟩
      rw [c, List.mem_append, List.mem_singleton, List.mem_cons]
      constructor
      · rintro ((hx | rfl) | hx)
        · exact .inl hx
        · exact .inr ⟨.inl rfl, h.1, h.2.1⟩
        · exact .inr ⟨.inr hx.1, hx.2⟩
      · rintro (hx | ⟨rfl | hx, hb⟩)
        · exact .inl (.inl hx)
        · exact .inl (.inr rfl)
        · exact .inr ⟨hx, hb⟩
    · rw [if_neg h]
      obtain ⟨a, b, c⟩ := starts_all (N := N) r there hn hi
      refine ⟨a, b, fun x => ?_⟩
      rw [c, List.mem_cons]
      constructor
      · rintro (hx | hx)
        · exact .inl hx
        · exact .inr ⟨.inr hx.1, hx.2⟩
      · rintro (hx | ⟨rfl | hx, hb⟩)
        · exact .inl hx
        · by_cases hx : x ∈ there
          · exact .inl hx
          · exact absurd ⟨hb.1, hb.2, hx⟩ h
        · exact .inr ⟨hx, hb⟩

theorem sorted_same : ∀ {a b : List Int}, a.Pairwise (· < ·) → b.Pairwise (· < ·) → (∀ n, n ∈ a ↔ n ∈ b) → a = b
  | [], [], _, _, _ => rfl
  | [], y :: s, _, _, h => by have := (h y).2 List.mem_cons_self; cases this
  | x :: r, [], _, _, h => by have := (h x).1 List.mem_cons_self; cases this
  | x :: r, y :: s, ha, hb, h => by
    rw [List.pairwise_cons] at ha hb
    have hxy : x = y := by
      rcases List.mem_cons.1 ((h x).1 List.mem_cons_self) with e | e
      · exact e
      · rcases List.mem_cons.1 ((h y).2 List.mem_cons_self) with e' | e'
        · exact e'.symm
        · have := hb.1 x e; have := ha.1 y e'; omega
    subst hxy
    refine congrArg _ (sorted_same ha.2 hb.2 fun n => ?_)
    constructor
    · intro hn
      rcases List.mem_cons.1 ((h n).1 (List.mem_cons_of_mem _ hn)) with e | e
      · have := ha.1 n hn; omega
      · exact e
    · intro hn
      rcases List.mem_cons.1 ((h n).2 (List.mem_cons_of_mem _ hn)) with e | e
      · have := hb.1 n hn; omega
      · exact e

theorem round_nil (t : List Int) : round [] t = t := rfl
theorem round_cons (e : Ed3) (l : List Ed3) (t : List Int) : round (e :: l) t = round l (relax t e) := rfl

/-- What a round keeps and adds. -/
theorem relax_prefix (t : List Int) (e : Ed3) : ∃ s, relax t e = t ++ s := by
  unfold relax; split
  · exact ⟨_, rfl⟩
  · exact ⟨[], by simp⟩
theorem round_prefix : ∀ (l : List Ed3) (t : List Int), ∃ s, round l t = t ++ s
  | [], t => ⟨[], by simp [round_nil]⟩
  | e :: l, t => by
    obtain ⟨s, hs⟩ := relax_prefix t e
    obtain ⟨s', hs'⟩ := round_prefix l (relax t e)
    exact ⟨s ++ s', by rw [round_cons, hs', hs, List.append_assoc]⟩
theorem relax_fix {t : List Int} {e : Ed3} (h : relax t e = t) : ¬ (e.2.2 ≠ inf ∧ e.1 ∈ t ∧ e.2.1 ∉ t) := by
  intro hc
  unfold relax at h
  rw [if_pos hc] at h
  simpa using congrArg List.length h
/-- A round that adds nothing: all is reached. -/
theorem round_fix : ∀ (l : List Ed3) (t : List Int), round l t = t → ∀ e ∈ l, e.2.2 ≠ inf → e.1 ∈ t → e.2.1 ∈ t
  | [], t, _ => fun e he => by cases he
  | e :: l, t, h => by
    rw [round_cons] at h
    obtain ⟨s, hs⟩ := relax_prefix t e
    obtain ⟨s', hs'⟩ := round_prefix l (relax t e)
    rw [hs', hs, List.append_assoc] at h
    have hss : s ++ s' = [] := by simpa using h
    obtain ⟨rfl, rfl⟩ : s = [] ∧ s' = [] := by simpa using hss
    have hr : relax t e = t := by rw [hs, List.append_nil]
    have hr' : round l t = t := by rw [hr, List.append_nil] at hs'; exact hs'
    intro x hx ho hf
    rcases List.mem_cons.1 hx with rfl | hx
    · by_cases hx : x.2.1 ∈ t
      · exact hx
      · exact absurd ⟨ho, hf, hx⟩ (relax_fix hr)
    · exact round_fix l t hr' x hx ho hf
/-- What a fact of the nodes keeps. -/
theorem relax_keeps {t : List Int} {e : Ed3} {P : Int → Prop} (hP : e.2.2 ≠ inf → P e.1 → P e.2.1) (h : t.Nodup ∧ ∀ x ∈ t, P x) : (relax t e).Nodup ∧ ∀ x ∈ relax t e, P x := by
  unfold relax; split
  · rename_i hc
    refine ⟨nodup_snoc h.1 hc.2.2, fun x hx => ?_⟩
    rcases List.mem_append.1 hx with hx | hx
    · exact h.2 x hx
    · simp at hx; subst hx; exact hP hc.1 (h.2 _ hc.2.1)
  · exact h
theorem round_keeps {P : Int → Prop} : ∀ (l : List Ed3) (t : List Int), (∀ e ∈ l, e.2.2 ≠ inf → P e.1 → P e.2.1) → (t.Nodup ∧ ∀ x ∈ t, P x) → (round l t).Nodup ∧ ∀ x ∈ round l t, P x
  | [], t, _, h => h
  | e :: l, t, hP, h => by
    rw [round_cons]
    exact round_keeps l _ (fun x hx => hP x (List.mem_cons_of_mem _ hx)) (relax_keeps (hP e List.mem_cons_self) h)
theorem rounds_keeps {P : Int → Prop} {l : List Ed3} (hP : ∀ e ∈ l, e.2.2 ≠ inf → P e.1 → P e.2.1) {t : List Int} (h : t.Nodup ∧ ∀ x ∈ t, P x) : ∀ k, (rounds l k t).Nodup ∧ ∀ x ∈ rounds l k t, P x
  | 0 => h
  | k + 1 => round_keeps l _ hP (rounds_keeps hP h k)
theorem rounds_prefix (l : List Ed3) (t : List Int) : ∀ k, ∃ s, rounds l k t = t ++ s
  | 0 => ⟨[], by simp [rounds]⟩
  | k + 1 => by
    obtain ⟨s, hs⟩ := rounds_prefix l t k
    obtain ⟨s', hs'⟩ := round_prefix l (rounds l k t)
    exact ⟨s ++ s', by rw [rounds, hs', hs, List.append_assoc]⟩

/-- Different numbers below N are at most N. -/
theorem nodup_few : ∀ (N : Nat) (l : List Int), l.Nodup → (∀ x ∈ l, 0 ≤ x ∧ x < (N : Int)) → l.length ≤ N
  | 0, l, _, h => by
    cases l with
    | nil => simp
    | cons a r => have := h a List.mem_cons_self; omega
  | N + 1, l, hn, h => by
    have h1 := nodup_few N (l.erase (N : Int)) (hn.erase _) (fun x hx => by
      have hx' := h x (List.mem_of_mem_erase hx)
      have : x ≠ (N : Int) := by rintro rfl; exact (List.Nodup.not_mem_erase hn) hx
      omega)
    have h2 : l.length ≤ (l.erase (N : Int)).length + 1 := by rw [List.length_erase]; split <;> omega
    omega

theorem rounds_grow {l : List Ed3} {t : List Int} : ∀ k, round l (rounds l k t) = rounds l k t ∨ t.length + k + 1 ≤ (rounds l (k + 1) t).length
  | 0 => by
    obtain ⟨s, hs⟩ := round_prefix l (rounds l 0 t)
    cases s with
    | nil => left; simpa using hs
    | cons a r => right; show _ ≤ (round l (rounds l 0 t)).length; rw [hs]; simp [rounds]
  | k + 1 => by
    rcases rounds_grow (l := l) (t := t) k with h | h
    · left
      show round l (round l (rounds l k t)) = round l (rounds l k t)
      rw [h, h]
    · obtain ⟨s, hs⟩ := round_prefix l (rounds l (k + 1) t)
      cases s with
      | nil => left; simpa using hs
      | cons a r => right; show _ ≤ (round l (rounds l (k + 1) t)).length; rw [hs]; simp; omega
/-- N rounds are enough. -/
theorem rounds_closed {N : Nat} {l : List Ed3} (hF : FairR N l) {t : List Int} (hn : t.Nodup) (hi : ∀ x ∈ t, 0 ≤ x ∧ x < (N : Int)) :
    ∀ e ∈ l, e.2.2 ≠ inf → e.1 ∈ rounds l N t → e.2.1 ∈ rounds l N t := by
  refine round_fix l _ ?_
  rcases rounds_grow (l := l) (t := t) N with h | h
  · exact h
  · exfalso
    have hk := rounds_keeps (P := fun x => 0 ≤ x ∧ x < (N : Int)) (fun e he _ _ => (hF.ends e he).2.2) ⟨hn, hi⟩ (N + 1)
    have := nodup_few N _ hk.1 hk.2
    omega
theorem closed_reach {l : List Ed3} {t : List Int} (h : ∀ e ∈ l, e.2.2 ≠ inf → e.1 ∈ t → e.2.1 ∈ t) {a b : Int} (ha : a ∈ t) (k : Reach l a b) : b ∈ t := by
  induction k with
  | refl => exact ha
  | step e _ he ho hb ih => exact h e he ho (hb ▸ ih)

theorem mem_nodesOf {N : Nat} {t : List Int} {m : Int} : m ∈ nodesOf N t ↔ 0 ≤ m ∧ m < (N : Int) ∧ m ∈ t := by
  unfold nodesOf
  simp only [List.mem_filter, List.mem_map, List.mem_range, decide_eq_true_eq]
  constructor
  · rintro ⟨⟨n, h, rfl⟩, k⟩; exact ⟨by omega, by omega, k⟩
  · rintro ⟨h, k, z⟩; exact ⟨⟨m.toNat, by omega, by omega⟩, z⟩
/-- THE NODES AHEAD ARE THOSE THAT CAN BE REACHED. -/
theorem mem_ahead {N : Nat} {l : List Ed3} (hF : FairR N l) {src : List Int} {m : Int} : m ∈ aheadR N l src ↔ ∃ s ∈ src, 0 ≤ s ∧ s < (N : Int) ∧ Reach l s m := by
  obtain ⟨hn, hi, hm⟩ := starts_all (N := N) src [] (by simp) (by simp)
  unfold aheadR
  rw [mem_nodesOf]
  constructor
  · rintro ⟨_, _, h⟩
    have := (rounds_keeps (P := fun x => ∃ s ∈ src, 0 ≤ s ∧ s < (N : Int) ∧ Reach l s x) (l := l) (fun e he ho => fun ⟨s, a, b, c, d⟩ => ⟨s, a, b, c, d.step e he ho rfl⟩)
      (t := starts N [] src) ⟨hn, fun x hx => by
        rcases (hm x).1 hx with h | h
        · cases h
        · exact ⟨x, h.1, h.2.1, h.2.2, .refl⟩⟩ N).2 m h
    exact this
  · rintro ⟨s, a, b, c, d⟩
    have hs : s ∈ rounds l N (starts N [] src) := by
      obtain ⟨z, hz⟩ := rounds_prefix l (starts N [] src) N
      rw [hz]
      exact List.mem_append_left _ ((hm s).2 (.inr ⟨a, b, c⟩))
    have hr := d.node hF ⟨b, c⟩
    exact ⟨hr.1, hr.2, closed_reach (rounds_closed hF hn hi) hs d⟩
theorem nodesOf_sorted (N : Nat) (t : List Int) : (nodesOf N t).Pairwise (· < ·) := by
  unfold nodesOf
  refine List.Pairwise.filter _ ?_
  rw [List.pairwise_map]
  exact List.pairwise_lt_range.imp fun h => by omega
theorem ahead_sorted (N : Nat) (l : List Ed3) (src : List Int) : (aheadR N l src).Pairwise (· < ·) := nodesOf_sorted _ _
theorem rounds_length {N : Nat} {l : List Ed3} (hF : FairR N l) {t : List Int} (hn : t.Nodup) (hi : ∀ x ∈ t, 0 ≤ x ∧ x < (N : Int)) (k : Nat) : (rounds l k t).length ≤ N := by
  have hk := rounds_keeps (P := fun x => 0 ≤ x ∧ x < (N : Int)) (fun e he _ _ => (hF.ends e he).2.2) ⟨hn, hi⟩ k
  exact nodup_few N _ hk.1 hk.2

/-! ### Parts -/

theorem nodup_sub : ∀ (a b : List Int), a.Nodup → (∀ x ∈ a, x ∈ b) → a.length ≤ b.length
  | [], b, _, _ => by simp
  | x :: r, b, hn, h => by
    rw [List.nodup_cons] at hn
    have hx := h x List.mem_cons_self
    have h1 := nodup_sub r (b.erase x) hn.2 (fun y hy => (List.mem_erase_of_ne (by rintro rfl; exact hn.1 hy)).2 (h y (List.mem_cons_of_mem _ hy)))
    rw [List.length_erase_of_mem hx] at h1
    have : 0 < b.length := List.length_pos_of_mem hx
    simp only [List.length_cons]; omega

/-- The nodes from n on. -/
def nodesFrom (n N : Nat) : List Int := (List.range' n (N - n)).map (fun (k : Nat) => (k : Int))
theorem mem_nodesFrom {n N : Nat} {x : Int} : x ∈ nodesFrom n N ↔ (n : Int) ≤ x ∧ x < (N : Int) := by
  unfold nodesFrom
  simp only [List.mem_map, List.mem_range'_1]
  constructor
  · rintro ⟨k, hk, rfl⟩; omega
  · rintro ⟨h1, h2⟩; exact ⟨x.toNat, by omega, by omega⟩
def both (N : Nat) (l : List Ed3) (n m : Int) : Bool := decide (m ∈ aheadR N l [n]) && decide (n ∈ aheadR N l [m])
def cls (N : Nat) (l : List Ed3) (n : Nat) : List Int := (nodesFrom n N).filter (both N l n)
def pstep (N : Nat) (l : List Ed3) (s : List (List Int) × List Int) (n : Nat) : List (List Int) × List Int :=
  if (n : Int) ∈ s.2 then s else (s.1 ++ [cls N l n], s.2 ++ cls N l n)
def pstate (N : Nat) (l : List Ed3) (k : Nat) : List (List Int) × List Int := (List.range k).foldl (pstep N l) ([], [])
def parts (N : Nat) (l : List Ed3) : List (List Int) := (pstate N l N).1
theorem pstate_zero (N : Nat) (l : List Ed3) : pstate N l 0 = ([], []) := rfl
theorem pstate_succ (N : Nat) (l : List Ed3) (k : Nat) : pstate N l (k + 1) = pstep N l (pstate N l k) k := by
  unfold pstate; rw [List.range_succ, List.foldl_append]; rfl
/-- No smaller node is in the part of n. -/
def first (N : Nat) (l : List Ed3) (n : Nat) : Bool := (List.range n).all fun (j : Nat) => !(both N l j n)
theorem first_iff {N : Nat} {l : List Ed3} {n : Nat} : first N l n = true ↔ ∀ j : Nat, j < n → both N l j n = false := by
  simp [first]
def firsts (N : Nat) (l : List Ed3) (k : Nat) : List Nat := (List.range k).filter (first N l)

section
variable {N : Nat} {l : List Ed3} (hF : FairR N l)
include hF
theorem both_iff {n m : Int} (hn : 0 ≤ n ∧ n < (N : Int)) (hm : 0 ≤ m ∧ m < (N : Int)) : both N l n m = true ↔ Reach l n m ∧ Reach l m n := by
  unfold both
  rw [Bool.and_eq_true, decide_eq_true_eq, decide_eq_true_eq, mem_ahead hF, mem_ahead hF]
  constructor
  · rintro ⟨⟨s, hs, _, _, h⟩, ⟨s', hs', _, _, h'⟩⟩
    simp at hs hs'
    subst hs hs'
    exact ⟨h, h'⟩
  · rintro ⟨h, h'⟩
    exact ⟨⟨n, by simp, hn.1, hn.2, h⟩, ⟨m, by simp, hm.1, hm.2, h'⟩⟩
theorem both_self {n : Int} (hn : 0 ≤ n ∧ n < (N : Int)) : both N l n n = true := (both_iff hF hn hn).2 ⟨.refl, .refl⟩
theorem both_symm {n m : Int} (h : both N l n m = true) : both N l m n = true := by
  unfold both at h ⊢; rw [Bool.and_comm]; exact h
theorem both_node {n m : Int} (h : both N l n m = true) : (0 ≤ n ∧ n < (N : Int)) ∧ (0 ≤ m ∧ m < (N : Int)) := by
  unfold both at h
  rw [Bool.and_eq_true, decide_eq_true_eq, decide_eq_true_eq] at h
  have h1 := mem_nodesOf.1 h.1
  have h2 := mem_nodesOf.1 h.2
  exact ⟨⟨h2.1, h2.2.1⟩, ⟨h1.1, h1.2.1⟩⟩
theorem both_trans {a b c : Int} (h : both N l a b = true) (k : both N l b c = true) : both N l a c = true := by
  obtain ⟨ha, hb⟩ := both_node hF h
  obtain ⟨_, hc⟩ := both_node hF k
  have h' := (both_iff hF ha hb).1 h
  have k' := (both_iff hF hb hc).1 k
  exact (both_iff hF ha hc).2 ⟨h'.1.trans k'.1, k'.2.trans h'.2⟩
theorem mem_cls {n : Nat} {x : Int} : x ∈ cls N l n ↔ (n : Int) ≤ x ∧ both N l n x = true := by
  unfold cls
  rw [List.mem_filter, mem_nodesFrom]
  exact ⟨fun h => ⟨h.1.1, h.2⟩, fun h => ⟨⟨h.1, (both_node hF h.2).2.2⟩, h.2⟩⟩
omit hF in
theorem nodesFrom_sorted (n N : Nat) : (nodesFrom n N).Pairwise (· < ·) := by
  unfold nodesFrom
  rw [List.pairwise_map]
  exact (List.pairwise_lt_range').imp fun h => by omega
omit hF in
theorem sorted_nodup {a : List Int} (h : a.Pairwise (· < ·)) : a.Nodup := h.imp fun h => by omega
omit hF in
theorem cls_sorted (n : Nat) : (cls N l n).Pairwise (· < ·) := (nodesFrom_sorted _ _).filter _
/-- A part of a first node is all of its part. -/
theorem mem_cls_first {n : Nat} (h : first N l n = true) {x : Int} : x ∈ cls N l n ↔ both N l n x = true := by
  rw [mem_cls hF]
  refine ⟨fun h => h.2, fun k => ⟨?_, k⟩⟩
  by_cases hx : (n : Int) ≤ x
  · exact hx
  · exfalso
    have hn := (both_node hF k).2
    have := first_iff.1 h x.toNat (by omega)
    rw [show ((x.toNat : Nat) : Int) = x by omega, both_symm hF k] at this
    cases this
structure Pinv (k : Nat) (s : List (List Int) × List Int) : Prop where
  out : s.1 = (firsts N l k).map (cls N l)
  nodup : s.2.Nodup
  mem : ∀ x, x ∈ s.2 ↔ ∃ n : Nat, n < k ∧ both N l n x = true
  len : (s.1.map List.length).sum = s.2.length
theorem pinv : ∀ k, k ≤ N → Pinv (N := N) (l := l) k (pstate N l k)
  | 0, _ => ⟨rfl, by simp [pstate_zero], by simp [pstate_zero], rfl⟩
  | k + 1, hk => by
    have ih := pinv k (by omega)
    rw [pstate_succ]
    unfold pstep
    have hkk : both N l k k = true := both_self hF ⟨by omega, by omega⟩
    have hfs : firsts N l (k + 1) = firsts N l k ++ if first N l k then [k] else [] := by
      unfold firsts
      rw [List.range_succ, List.filter_append]
      congr 1
      simp only [List.filter_cons, List.filter_nil]
    by_cases hd : (k : Int) ∈ (pstate N l k).2
    · rw [if_pos hd]
      obtain ⟨j, hj, hm⟩ := (ih.mem _).1 hd
      have hnf : first N l k = false := by
        by_cases h : first N l k = true
        · have := first_iff.1 h j hj; rw [hm] at this; cases this
        · simpa using h
      refine ⟨by rw [hfs, hnf, ih.out]; simp, ih.nodup, fun x => ?_, ih.len⟩
      rw [ih.mem]
      constructor
      · rintro ⟨n, hn, h⟩; exact ⟨n, by omega, h⟩
      · rintro ⟨n, hn, h⟩
        by_cases hnk : n < k
        · exact ⟨n, hnk, h⟩
        · obtain rfl : n = k := by omega
          exact ⟨j, hj, both_trans hF hm h⟩
    · rw [if_neg hd]
      have hf : first N l k = true := first_iff.2 fun j hj => by
        by_cases h : both N l j k = true
        · exact absurd ((ih.mem _).2 ⟨j, hj, h⟩) hd
        · simpa using h
      refine ⟨by rw [hfs, hf, ih.out]; simp, ?_, fun x => ?_, ?_⟩
      · rw [List.nodup_append]
        refine ⟨ih.nodup, sorted_nodup (cls_sorted k), fun a ha b hb => ?_⟩
        rintro rfl
        obtain ⟨n, hn, h⟩ := (ih.mem _).1 ha
        have h2 := (mem_cls hF).1 hb
        exact hd ((ih.mem _).2 ⟨n, hn, both_trans hF h (both_symm hF h2.2)⟩)
      · show x ∈ (pstate N l k).2 ++ cls N l k ↔ _
        rw [List.mem_append, ih.mem, mem_cls_first hF hf]
        constructor
        · rintro (⟨n, hn, h⟩ | h)
          · exact ⟨n, by omega, h⟩
          · exact ⟨k, by omega, h⟩
        · rintro ⟨n, hn, h⟩
          by_cases hnk : n < k
          · exact .inl ⟨n, hnk, h⟩
          · obtain rfl : n = k := by omega
            exact .inr h
      · show ((((pstate N l k).1 ++ [cls N l k]).map List.length).sum) = ((pstate N l k).2 ++ cls N l k).length
        rw [List.map_append, List.sum_append, ih.len, List.length_append]
        simp
/-- THE PARTS: those of the first nodes, in their order. -/
theorem parts_eq : parts N l = (firsts N l N).map (cls N l) := (pinv hF N (Nat.le_refl _)).out
/-- The parts make up the nodes. -/
theorem parts_length : ((parts N l).map List.length).sum = N := by
  have h := pinv hF N (Nat.le_refl _)
  unfold parts
  rw [h.len]
  have h1 := nodup_few N _ h.nodup (fun x hx => by
    obtain ⟨n, hn, hm⟩ := (h.mem x).1 hx
    exact (both_node hF hm).2)
  have h2 := nodup_sub (nodesFrom 0 N) (pstate N l N).2 (sorted_nodup (nodesFrom_sorted 0 N)) (fun x hx => by
    have hx := mem_nodesFrom.1 hx
    refine (h.mem x).2 ⟨x.toNat, by omega, ?_⟩
    rw [show ((x.toNat : Nat) : Int) = x by omega]
    exact both_self hF ⟨by omega, hx.2⟩)
  have h3 : (nodesFrom 0 N).length = N := by simp [nodesFrom]
  omega
theorem parts_all {x : Int} (hx : 0 ≤ x ∧ x < (N : Int)) : ∃ p ∈ parts N l, x ∈ p := by
  have h := pinv hF N (Nat.le_refl _)
  obtain ⟨j, hj⟩ : ∃ j : Nat, both N l j x = true ∧ ∀ i : Nat, i < j → both N l i x = false := by
    have : ∃ j : Nat, both N l j x = true := ⟨x.toNat, by rw [show ((x.toNat : Nat) : Int) = x by omega]; exact both_self hF hx⟩
    obtain ⟨j, hj⟩ := this
    induction j using Nat.strongRecOn with
    | ind j ih =>
      by_cases hb : ∃ i : Nat, i < j ∧ both N l i x = true
      · obtain ⟨i, hi, hm⟩ := hb
        exact ih i hi hm
      · exact ⟨j, hj, fun i hi => by
          by_cases hm : both N l i x = true
          · exact absurd ⟨i, hi, hm⟩ hb
          · simpa using hm⟩
  have hjN : j < N := by have := (both_node hF hj.1).1; omega
  have hf : first N l j = true := first_iff.2 fun i hi => by
    by_cases hm : both N l i j = true
    · have := hj.2 i hi; rw [both_trans hF hm hj.1] at this; cases this
    · simpa using hm
  rw [parts_eq hF]
  refine ⟨cls N l j, List.mem_map.2 ⟨j, ?_, rfl⟩, (mem_cls_first hF hf).2 hj.1⟩
  unfold firsts
  rw [List.mem_filter, List.mem_range]
  exact ⟨hjN, hf⟩
end

/-! ### What the laws say of the nodes aheadR -/

theorem ahead_again {N : Nat} {l : List Ed3} (hF : FairR N l) (src : List Int) : aheadR N l (aheadR N l src) = aheadR N l src := by
  have hs := ahead_sorted N l (aheadR N l src)
  have ht := ahead_sorted N l src
  refine sorted_same hs ht fun x => ?_
  rw [mem_ahead hF]
  constructor
  · rintro ⟨s, hs, _, _, h⟩
    obtain ⟨s', a, b, c, d⟩ := (mem_ahead hF).1 hs
    exact (mem_ahead hF).2 ⟨s', a, b, c, d.trans h⟩
  · intro h
    have := mem_nodesOf.1 h
    exact ⟨x, h, this.1, this.2.1, .refl⟩
theorem ahead_back {N : Nat} {l : List Ed3} (hF : FairR N l) {a b : Int} (ha : 0 ≤ a ∧ a < (N : Int)) (hb : 0 ≤ b ∧ b < (N : Int)) : b ∈ aheadR N l [a] ↔ a ∈ aheadR N (back l) [b] := by
  rw [mem_ahead hF, mem_ahead hF.back]
  constructor
  · rintro ⟨s, hs, _, _, h⟩
    simp at hs; subst hs
    exact ⟨b, by simp, hb.1, hb.2, h.back⟩
  · rintro ⟨s, hs, _, _, h⟩
    simp at hs; subst hs
    exact ⟨a, by simp, ha.1, ha.2, reach_back.1 h⟩
theorem ahead_back_any {N : Nat} {l : List Ed3} (hF : FairR N l) (a b : Int) : b ∈ aheadR N l [a] ↔ a ∈ aheadR N (back l) [b] := by
  by_cases ha : 0 ≤ a ∧ a < (N : Int)
  · by_cases hb : 0 ≤ b ∧ b < (N : Int)
    · exact ahead_back hF ha hb
    · refine ⟨fun h => absurd ?_ hb, fun h => absurd ?_ hb⟩
      · have := mem_nodesOf.1 h; exact ⟨this.1, this.2.1⟩
      · obtain ⟨s, hs, h1, h2, _⟩ := (mem_ahead hF.back).1 h; simp at hs; subst hs; exact ⟨h1, h2⟩
  · refine ⟨fun h => absurd ?_ ha, fun h => absurd ?_ ha⟩
    · obtain ⟨s, hs, h1, h2, _⟩ := (mem_ahead hF).1 h; simp at hs; subst hs; exact ⟨h1, h2⟩
    · have := mem_nodesOf.1 h; exact ⟨this.1, this.2.1⟩
theorem ahead_more {N : Nat} {l l' : List Ed3} (hF : FairR N l) (hF' : FairR N l') (h : ∀ e ∈ l, e.2.2 ≠ inf → e ∈ l') {src : List Int} {x : Int} (hx : x ∈ aheadR N l src) : x ∈ aheadR N l' src := by
  obtain ⟨s, a, b, c, d⟩ := (mem_ahead hF).1 hx
  exact (mem_ahead hF').2 ⟨s, a, b, c, d.mono h⟩
/-- An edge closed: what stays open was there. -/
theorem close_sub {l : List Ed3} {i : Nat} {e : Ed3} (he : e ∈ l.modify i fun x => (x.1, x.2.1, inf)) (ho : e.2.2 ≠ inf) : e ∈ l := by
  obtain ⟨j, hj⟩ := List.mem_iff_getElem?.1 he
  rw [List.getElem?_modify] at hj
  split at hj
  · rename_i hij
    cases hl : l[j]? with
    | none => rw [hl] at hj; cases hj
    | some x =>
      rw [hl] at hj
      simp at hj
      subst hj
      exact absurd rfl ho
  · simp at hj
    exact List.mem_of_getElem? hj

/-! ### Steps of the loops -/

theorem starts_snoc (N : Int) : ∀ (src there : List Int) (f : Int), starts N there (src ++ [f]) = (if 0 ≤ f ∧ f < N ∧ f ∉ starts N there src then starts N there src ++ [f] else starts N there src)
  | [], there, f => rfl
  | g :: r, there, f => by
    simp only [List.cons_append, starts]
    exact starts_snoc N r _ f
theorem round_snoc (l : List Ed3) (t : List Int) (e : Ed3) : round (l ++ [e]) t = relax (round l t) e := by
  unfold round; rw [List.foldl_append]; rfl
def nodesTo (k : Nat) (there : List Int) : List Int := ((List.range k).map (fun (n : Nat) => (n : Int))).filter (fun n => decide (n ∈ there))
theorem nodesTo_all (N : Nat) (there : List Int) : nodesTo N there = nodesOf N there := rfl
theorem nodesTo_succ (k : Nat) (there : List Int) : nodesTo (k + 1) there = if (k : Int) ∈ there then nodesTo k there ++ [(k : Int)] else nodesTo k there := by
  unfold nodesTo
  rw [List.range_succ, List.map_append, List.filter_append]
  split
  · rename_i h; simp [h]
  · rename_i h; simp [h]
theorem nodesTo_length (k : Nat) (there : List Int) : (nodesTo k there).length ≤ k := by
  unfold nodesTo; exact Nat.le_trans (List.length_filter_le _ _) (by simp)
/-- The edges that leave a node, among the first k. -/
def outsTo (l : List Ed3) (node : Int) (k : Nat) : List Int := ((List.range k).filter (fun i => decide ((l.getD i (0, 0, 0)).1 = node))).map (fun (n : Nat) => (n : Int))
def outs (l : List Ed3) (node : Int) : List Int := outsTo l node l.length
theorem outsTo_succ (l : List Ed3) (node : Int) (k : Nat) : outsTo l node (k + 1) = if (l.getD k (0, 0, 0)).1 = node then outsTo l node k ++ [(k : Int)] else outsTo l node k := by
  unfold outsTo
  rw [List.range_succ, List.filter_append, List.map_append, List.filter_cons]
  split
  · rename_i h; rw [if_pos (of_decide_eq_true h)]; rfl
  · rename_i h; rw [if_neg (fun e => h (decide_eq_true e))]; simp
theorem outsTo_length (l : List Ed3) (node : Int) (k : Nat) : (outsTo l node k).length ≤ k := by
  unfold outsTo; rw [List.length_map]; exact Nat.le_trans (List.length_filter_le _ _) (by simp)
theorem back_take (l : List Ed3) (k : Nat) (hk : k < l.length) : back (l.take (k + 1)) = back (l.take k) ++ [turn (l.getD k (0, 0, 0))] := by
  unfold back
  rw [List.take_succ_eq_append_getElem hk, List.map_append, List.getD_eq_getElem?_getD, List.getElem?_eq_getElem hk]; rfl
/-- A part up to m. -/
def clsTo (N : Nat) (l : List Ed3) (n m : Nat) : List Int := ((List.range' n (m - n)).map (fun (k : Nat) => (k : Int))).filter (both N l n)
theorem clsTo_zero (N : Nat) (l : List Ed3) (n : Nat) : clsTo N l n n = [] := by simp [clsTo]
theorem clsTo_all (N : Nat) (l : List Ed3) (n : Nat) : clsTo N l n N = cls N l n := rfl
theorem clsTo_succ (N : Nat) (l : List Ed3) (n m : Nat) (h : n ≤ m) : clsTo N l n (m + 1) = if both N l n m then clsTo N l n m ++ [(m : Int)] else clsTo N l n m := by
  unfold clsTo
  rw [show m + 1 - n = (m - n) + 1 by omega, List.range'_concat, List.map_append, List.filter_append]
  rw [show n + 1 * (m - n) = m by omega]
  split
  · rename_i h; simp [h]
  · rename_i h; simp [h]
theorem clsTo_length (N : Nat) (l : List Ed3) (n m : Nat) : (clsTo N l n m).length ≤ m - n := by
  unfold clsTo; exact Nat.le_trans (List.length_filter_le _ _) (by simp)

theorem round_few {N : Nat} {l : List Ed3} (hF : FairR N l) {t : List Int} (hn : t.Nodup) (hi : ∀ x ∈ t, 0 ≤ x ∧ x < (N : Int)) (k j : Nat) : (round (l.take j) (rounds l k t)).length ≤ N := by
  have hk := rounds_keeps (P := fun x => 0 ≤ x ∧ x < (N : Int)) (fun e he _ _ => (hF.ends e he).2.2) ⟨hn, hi⟩ k
  have hj := round_keeps (P := fun x => 0 ≤ x ∧ x < (N : Int)) (l.take j) _ (fun e he _ _ => (hF.ends e (List.mem_of_mem_take he)).2.2) hk
  exact nodup_few N _ hj.1 hj.2
theorem starts_few {N : Nat} (src : List Int) : (starts N [] src).length ≤ N := by
  obtain ⟨hn, hi, _⟩ := starts_all (N := N) src [] (by simp) (by simp)
  exact nodup_few N _ hn hi
theorem relax_no {t : List Int} {e : Ed3} (h : ¬ (e.2.2 ≠ inf ∧ e.1 ∈ t ∧ e.2.1 ∉ t)) : relax t e = t := by unfold relax; rw [if_neg h]
theorem relax_yes {t : List Int} {e : Ed3} (h : e.2.2 ≠ inf ∧ e.1 ∈ t ∧ e.2.1 ∉ t) : relax t e = t ++ [e.2.1] := by unfold relax; rw [if_pos h]
theorem starts_no {N : Int} {src : List Int} {f : Int} (h : ¬ (0 ≤ f ∧ f < N ∧ f ∉ starts N [] src)) : starts N [] (src ++ [f]) = starts N [] src := by rw [starts_snoc, if_neg h]
theorem starts_yes {N : Int} {src : List Int} {f : Int} (h : 0 ≤ f ∧ f < N ∧ f ∉ starts N [] src) : starts N [] (src ++ [f]) = starts N [] src ++ [f] := by rw [starts_snoc, if_pos h]

theorem pstate_few {N : Nat} {l : List Ed3} (hF : FairR N l) {k : Nat} (hk : k ≤ N) : (pstate N l k).2.length ≤ N ∧ (pstate N l k).1.length ≤ k := by
  have h := pinv hF k hk
  refine ⟨nodup_few N _ h.nodup fun x hx => ?_, ?_⟩
  · obtain ⟨n, hn, hm⟩ := (h.mem x).1 hx
    exact (both_node hF hm).2
  · rw [h.out, List.length_map]
    unfold firsts
    exact Nat.le_trans (List.length_filter_le _ _) (by simp)
theorem pstep_yes {N : Nat} {l : List Ed3} {k : Nat} {o : List (List Int)} {d : List Int} (h : pstate N l k = (o, d)) (hd : (k : Int) ∈ d) : pstate N l (k + 1) = (o, d) := by
  rw [pstate_succ, h]; unfold pstep; rw [if_pos hd]
theorem pstep_no {N : Nat} {l : List Ed3} {k : Nat} {o : List (List Int)} {d : List Int} (h : pstate N l k = (o, d)) (hd : (k : Int) ∉ d) : pstate N l (k + 1) = (o ++ [cls N l k], d ++ cls N l k) := by
  rw [pstate_succ, h]; unfold pstep; rw [if_neg hd]
def aheads (N : Nat) (l : List Ed3) : List (List Int) := (List.range N).map fun (n : Nat) => aheadR N l [(n : Int)]
theorem aheads_at {N : Nat} {l : List Ed3} {j : Nat} (h : j < N) : (aheads N l)[j]? = some (aheadR N l [(j : Int)]) := by
  unfold aheads; rw [List.getElem?_map, List.getElem?_range h]; rfl
theorem aheads_to (N : Nat) (l : List Ed3) (k : Nat) : (List.range (k + 1)).map (fun (n : Nat) => aheadR N l [(n : Int)]) = (List.range k).map (fun (n : Nat) => aheadR N l [(n : Int)]) ++ [aheadR N l [(k : Int)]] := by
  rw [List.range_succ, List.map_append]; rfl
theorem ahead_few {N : Nat} {l : List Ed3} (src : List Int) : (aheadR N l src).length ≤ N := by
  unfold aheadR; rw [← nodesTo_all]; exact nodesTo_length _ _
end Rg
