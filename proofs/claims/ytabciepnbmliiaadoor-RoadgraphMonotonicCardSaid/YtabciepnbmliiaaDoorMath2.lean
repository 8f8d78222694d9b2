/- Plain mathematics of layer 7: a depth-first search, the order in which it leaves nodes, and the parts that it finds. -/
import Derived.Test.YtabciepnbmliiaaDoorMath
set_option linter.unusedVariables false
set_option linter.unusedSectionVars false
namespace Rg

/-- b can be reached from a over open edges by nodes outside of S alone. -/
inductive RA (l : List Ed3) (S : Int → Bool) (a : Int) : Int → Prop
  | refl : S a = false → RA l S a a
  | step (e : Ed3) : RA l S a e.1 → e ∈ l → e.2.2 ≠ inf → S e.2.1 = false → RA l S a e.2.1

section
variable {l : List Ed3} {S S' : Int → Bool}
theorem RA.off {a b : Int} (h : RA l S a b) : S a = false ∧ S b = false := by
  induction h with
  | refl h => exact ⟨h, h⟩
  | step e _ _ _ h ih => exact ⟨ih.1, h⟩
theorem RA.trans {a b c : Int} (h : RA l S a b) (k : RA l S b c) : RA l S a c := by
  induction k with
  | refl _ => exact h
  | step e _ he ho hs ih => exact .step e ih he ho hs
theorem RA.head {e : Ed3} {c : Int} (he : e ∈ l) (ho : e.2.2 ≠ inf) (hs : S e.1 = false) (k : RA l S e.2.1 c) : RA l S e.1 c :=
  (RA.step e (.refl hs) he ho k.off.1).trans k
theorem RA.mono {a b : Int} (hS : ∀ x, S x = true → S' x = true) (h : RA l S' a b) : RA l S a b := by
  have key : ∀ x, S' x = false → S x = false := fun x hx => by
    cases hc : S x with
    | false => rfl
    | true => rw [hS x hc] at hx; cases hx
  induction h with
  | refl h => exact .refl (key _ h)
  | step e _ he ho hs ih => exact .step e ih he ho (key _ hs)
theorem RA.reach {a b : Int} (h : RA l S a b) : Reach l a b := by
  induction h with
  | refl _ => exact .refl
  | step e _ he ho _ ih => exact .step e ih he ho rfl
theorem reach_RA {a b : Int} (h : Reach l a b) (hS : ∀ y, Reach l a y → Reach l y b → S y = false) : RA l S a b := by
  induction h with
  | refl => exact .refl (hS a .refl .refl)
  | @step b e h he ho hb ih =>
    subst hb
    exact .step e (ih fun y h1 h2 => hS y h1 (h2.trans (.one e he ho))) he ho (hS _ (.step e h he ho rfl) .refl)
/-- A path stays in what is closed. -/
theorem RA.stay {M : List Int} (hM : ∀ e ∈ l, e.2.2 ≠ inf → e.1 ∈ M → S e.2.1 = true ∨ e.2.1 ∈ M) {a b : Int} (h : RA l S a b) (ha : a ∈ M) : b ∈ M := by
  induction h with
  | refl _ => exact ha
  | step e _ he ho hs ih =>
    rcases hM e he ho ih with k | k
    · rw [hs] at k; cases k
    · exact k
/-- A path that doesn't end in what is closed avoids it. -/
theorem RA.avoid {M : List Int} (hM : ∀ e ∈ l, e.2.2 ≠ inf → e.1 ∈ M → S e.2.1 = true ∨ e.2.1 ∈ M) (hS : ∀ x, S' x = true → S x = true ∨ x ∈ M) {a b : Int} (h : RA l S a b) : b ∈ M ∨ RA l S' a b := by
  have key : ∀ x, S x = false → x ∉ M → S' x = false := fun x hx hm => by
    cases hc : S' x with
    | false => rfl
    | true =>
      rcases hS x hc with k | k
      · rw [hx] at k; cases k
      · exact absurd k hm
  induction h with
  | refl h =>
    by_cases hm : a ∈ M
    · exact .inl hm
    · exact .inr (.refl (key _ h hm))
  | step e _ he ho hs ih =>
    rcases ih with k | k
    · rcases hM e he ho k with q | q
      · rw [hs] at q; cases q
      · exact .inl q
    · by_cases hm : e.2.1 ∈ M
      · exact .inl hm
      · exact .inr (.step e k he ho (key _ hs hm))
end

def upd (S : Int → Bool) (v : Int) : Int → Bool := fun x => x == v || S x
theorem upd_self (S : Int → Bool) (v : Int) : upd S v v = true := by simp [upd]
theorem upd_of (S : Int → Bool) (v x : Int) : upd S v x = true ↔ x = v ∨ S x = true := by simp [upd]
theorem upd_ne {S : Int → Bool} {v x : Int} (h : x ≠ v) : upd S v x = S x := by simp [upd, h]
theorem upd_off {S : Int → Bool} {v x : Int} : upd S v x = false ↔ x ≠ v ∧ S x = false := by simp [upd]
theorem RA.via {l : List Ed3} {S : Int → Bool} (v : Int) {x y : Int} (h : RA l S x y) : RA l S x v ∨ RA l (upd S v) x y := by
  induction h with
  | refl h =>
    by_cases e : x = v
    · subst e; exact .inl (.refl h)
    · exact .inr (.refl (upd_off.2 ⟨e, h⟩))
  | step e k he ho hs ih =>
    rcases ih with q | q
    · exact .inl q
    · by_cases hv : e.2.1 = v
      · exact .inl (hv ▸ .step e k he ho hs)
      · exact .inr (.step e q he ho (upd_off.2 ⟨hv, hs⟩))

/-- y lies before z in M. -/
def Bef (M : List Int) (y z : Int) : Prop := ∃ a b, M = a ++ b ∧ y ∈ a ∧ z ∈ b
theorem Bef.left {M : List Int} {y z : Int} (h : Bef M y z) (K : List Int) : Bef (M ++ K) y z := by
  obtain ⟨a, b, rfl, h1, h2⟩ := h
  exact ⟨a, b ++ K, by simp, h1, by simp [h2]⟩
theorem Bef.right {M : List Int} {y z : Int} (h : Bef M y z) (K : List Int) : Bef (K ++ M) y z := by
  obtain ⟨a, b, rfl, h1, h2⟩ := h
  exact ⟨K ++ a, b, by simp, by simp [h1], h2⟩

/-- What a search from S gives: the new nodes M in the order in which it leaves them, and what is seen then. -/
structure Out (l : List Ed3) (N : Nat) (S : Int → Bool) (M : List Int) (S' : Int → Bool) : Prop where
  seen : ∀ x, S' x = true ↔ S x = true ∨ x ∈ M
  nodup : M.Nodup
  off : ∀ x ∈ M, S x = false
  node : ∀ x ∈ M, 0 ≤ x ∧ x < (N : Int)
  closed : ∀ e ∈ l, e.2.2 ≠ inf → e.1 ∈ M → S e.2.1 = true ∨ e.2.1 ∈ M
  ord : ∀ x y, x ∈ M → y ∈ M → RA l S x y → RA l S y x ∨ ∃ z, RA l S x z ∧ RA l S z x ∧ Bef M y z

section
variable {l : List Ed3} {N : Nat}
theorem Out.none (S : Int → Bool) : Out l N S [] S := ⟨by simp, by simp, by simp, by simp, by simp, by simp⟩
theorem Out.append {S S1 S2 : Int → Bool} {M K : List Int} (h : Out l N S M S1) (k : Out l N S1 K S2) : Out l N S (M ++ K) S2 := by
  have hk : ∀ x ∈ K, S x = false ∧ x ∉ M := fun x hx => by
    have := k.off x hx
    refine ⟨?_, fun hm => ?_⟩
    · cases hc : S x with
      | false => rfl
      | true => rw [(h.seen x).2 (.inl hc)] at this; cases this
    · rw [(h.seen x).2 (.inr hm)] at this; cases this
  refine ⟨fun x => ?_, ?_, fun x hx => ?_, fun x hx => ?_, fun e he ho hx => ?_, fun x y hx hy hr => ?_⟩
  · rw [k.seen, h.seen, List.mem_append, or_assoc]
  · rw [List.nodup_append]
    exact ⟨h.nodup, k.nodup, fun a ha b hb hab => (hk b hb).2 (hab ▸ ha)⟩
  · rcases List.mem_append.1 hx with q | q
    · exact h.off x q
    · exact (hk x q).1
  · rcases List.mem_append.1 hx with q | q
    · exact h.node x q
    · exact k.node x q
  · rcases List.mem_append.1 hx with q | q
    · rcases h.closed e he ho q with r | r
      · exact .inl r
      · exact .inr (List.mem_append_left _ r)
    · rcases k.closed e he ho q with r | r
      · rcases (h.seen _).1 r with r | r
        · exact .inl r
        · exact .inr (List.mem_append_left _ r)
      · exact .inr (List.mem_append_right _ r)
  · rcases List.mem_append.1 hx with q | q
    · have hyM := hr.stay h.closed q
      rcases h.ord x y q hyM hr with r | ⟨z, r1, r2, r3⟩
      · exact .inl r
      · exact .inr ⟨z, r1, r2, r3.left K⟩
    · rcases List.mem_append.1 hy with p | p
      · exact .inr ⟨x, .refl (hk x q).1, .refl (hk x q).1, M, K, rfl, p, q⟩
      · rcases hr.avoid (S' := S1) h.closed (fun x => (h.seen x).1) with r | r
        · exact absurd r (hk y p).2
        · have hm : ∀ x, S x = true → S1 x = true := fun x hx => (h.seen x).2 (.inl hx)
          rcases k.ord x y q p r with r | ⟨z, r1, r2, r3⟩
          · exact .inl (r.mono hm)
          · exact .inr ⟨z, r1.mono hm, r2.mono hm, r3.right M⟩
/-- The search from v: its children's, then v. -/
theorem Out.root {S S1 : Int → Bool} {M : List Int} {v : Int} (hv : 0 ≤ v ∧ v < (N : Int)) (hs : S v = false) (h : Out l N (upd S v) M S1) (hd : ∀ e ∈ l, e.2.2 ≠ inf → e.1 = v → S1 e.2.1 = true)
    (hr : ∀ x ∈ M, ∃ e ∈ l, e.2.2 ≠ inf ∧ e.1 = v ∧ RA l (upd S v) e.2.1 x) : Out l N S (M ++ [v]) S1 ∧ S1 v = true ∧ ∀ x ∈ M ++ [v], RA l S v x := by
  have hm : ∀ x, S x = true → upd S v x = true := fun x hx => (upd_of S v x).2 (.inr hx)
  have hvx : ∀ x ∈ M ++ [v], RA l S v x := fun x hx => by
    rcases List.mem_append.1 hx with q | q
    · obtain ⟨e, he, ho, rfl, r⟩ := hr x q
      exact RA.head he ho hs (r.mono hm)
    · simp at q; subst q; exact .refl hs
  refine ⟨⟨fun x => ?_, ?_, fun x hx => (hvx x hx).off.2, fun x hx => ?_, fun e he ho hx => ?_, fun x y hx hy hr => ?_⟩, (h.seen v).2 (.inl (upd_self S v)), hvx⟩
  · rw [h.seen, upd_of, List.mem_append, List.mem_singleton]
    constructor
    · rintro ((q | q) | q)
      · exact .inr (.inr q)
      · exact .inl q
      · exact .inr (.inl q)
    · rintro (q | q | q)
      · exact .inl (.inr q)
      · exact .inr q
      · exact .inl (.inl q)
  · exact nodup_snoc h.nodup fun hq => by have := h.off v hq; rw [upd_self] at this; cases this
  · rcases List.mem_append.1 hx with q | q
    · exact h.node x q
    · simp at q; subst q; exact hv
  · have key : S1 e.2.1 = true := by
      rcases List.mem_append.1 hx with q | q
      · exact (h.seen _).2 (h.closed e he ho q)
      · simp at q; exact hd e he ho q
    rcases (h.seen _).1 key with r | r
    · rcases (upd_of _ _ _).1 r with r | r
      · exact .inr (List.mem_append_right _ (by simp [r]))
      · exact .inl r
    · exact .inr (List.mem_append_left _ r)
  · rcases hr.via v with r | r
    · by_cases hyv : y = v
      · subst hyv; exact .inl (hvx x hx)
      · have hyM : y ∈ M := by
          rcases List.mem_append.1 hy with q | q
          · exact q
          · simp at q; exact absurd q hyv
        exact .inr ⟨v, r, hvx x hx, M, [v], rfl, hyM, by simp⟩
    · have hne : ∀ z, upd S v z = false → z ∈ M ++ [v] → z ∈ M := fun z hz q => by
        rcases List.mem_append.1 q with q | q
        · exact q
        · simp at q; subst q; rw [upd_self] at hz; cases hz
      rcases h.ord x y (hne x r.off.1 hx) (hne y r.off.2 hy) r with q | ⟨z, q1, q2, q3⟩
      · exact .inl (q.mono hm)
      · exact .inr ⟨z, q1.mono hm, q2.mono hm, q3.left [v]⟩
end

/-! ### The search as a function -/

abbrev St := (Int → Bool) × List Int
def eAt (l : List Ed3) (i : Int) : Ed3 := l.getD i.toNat (0, 0, 0)
def dstep (l : List Ed3) (F : Int → St → St) (s : St) (i : Int) : St := if (eAt l i).2.2 ≠ inf then F (eAt l i).2.1 s else s
def dfs (l : List Ed3) : Nat → Int → St → St
  | 0 => fun _ s => s
  | f + 1 => fun v s => if s.1 v = true then s else
    ((((outs l v).foldl (dstep l (dfs l f)) (upd s.1 v, s.2)).1, ((outs l v).foldl (dstep l (dfs l f)) (upd s.1 v, s.2)).2 ++ [v]))
theorem dfs_seen {l : List Ed3} {f : Nat} {v : Int} {s : St} (h : s.1 v = true) : dfs l f v s = s := by
  cases f with
  | zero => rfl
  | succ f => simp only [dfs]; rw [if_pos h]
theorem dfs_new {l : List Ed3} {f : Nat} {v : Int} {s : St} (h : s.1 v = false) : dfs l (f + 1) v s = (((outs l v).foldl (dstep l (dfs l f)) (upd s.1 v, s.2)).1, ((outs l v).foldl (dstep l (dfs l f)) (upd s.1 v, s.2)).2 ++ [v]) := by
  simp only [dfs]; rw [if_neg (by simp [h])]

/-- How many nodes are unseen. -/
def free (N : Nat) (S : Int → Bool) : Nat := ((List.range N).filter fun (n : Nat) => !S n).length
theorem free_le (N : Nat) (S : Int → Bool) : free N S ≤ N := by unfold free; exact Nat.le_trans (List.length_filter_le _ _) (by simp)
theorem filter_le {α : Type} {p q : α → Bool} : ∀ (L : List α), (∀ x ∈ L, p x = true → q x = true) → (L.filter p).length ≤ (L.filter q).length
  | [], _ => by simp
  | x :: r, h => by
    have ih := filter_le (p := p) (q := q) r fun y hy => h y (List.mem_cons_of_mem _ hy)
    have hx := h x List.mem_cons_self
    simp only [List.filter_cons]
    cases hp : p x <;> cases hq : q x <;> simp [hp, hq] at hx ⊢ <;> omega
theorem filter_lt {α : Type} {p q : α → Bool} {z : α} : ∀ (L : List α), z ∈ L → (∀ x ∈ L, p x = true → q x = true) → p z = false → q z = true → (L.filter p).length + 1 ≤ (L.filter q).length
  | [], hz, _, _, _ => by cases hz
  | x :: r, hz, h, h1, h2 => by
    have hr : ∀ y ∈ r, p y = true → q y = true := fun y hy => h y (List.mem_cons_of_mem _ hy)
    have hx := h x List.mem_cons_self
    simp only [List.filter_cons]
    rcases List.mem_cons.1 hz with rfl | hz
    · have := filter_le r hr
      simp [h1, h2]; omega
    · have ih := filter_lt r hz hr h1 h2
      cases hp : p x <;> cases hq : q x <;> simp [hp, hq] at hx ⊢ <;> omega
theorem free_mono {N : Nat} {S S' : Int → Bool} (h : ∀ x, S x = true → S' x = true) : free N S' ≤ free N S := by
  unfold free
  refine filter_le _ fun x _ hx => ?_
  cases hc : S x with
  | false => rfl
  | true => simp [h x hc] at hx
theorem free_upd {N : Nat} {S : Int → Bool} {v : Int} (hv : 0 ≤ v ∧ v < (N : Int)) (h : S v = false) : free N (upd S v) + 1 ≤ free N S := by
  unfold free
  refine filter_lt (z := v.toNat) _ (List.mem_range.2 (by omega)) (fun x _ hx => ?_) ?_ ?_
  · cases hc : S x with
    | false => rfl
    | true => simp [(upd_of S v x).2 (.inr hc)] at hx
  · rw [show ((v.toNat : Nat) : Int) = v by omega, upd_self]; rfl
  · rw [show ((v.toNat : Nat) : Int) = v by omega, h]; rfl
theorem free_zero {N : Nat} {S : Int → Bool} {v : Int} (hv : 0 ≤ v ∧ v < (N : Int)) (h : free N S = 0) : S v = true := by
  cases hc : S v with
  | true => rfl
  | false => have := free_upd hv hc; omega

theorem mem_outs {l : List Ed3} {v i : Int} : i ∈ outs l v ↔ ∃ j : Nat, i = j ∧ j < l.length ∧ (l.getD j (0, 0, 0)).1 = v := by
  unfold outs outsTo
  simp only [List.mem_map, List.mem_filter, List.mem_range, decide_eq_true_eq]
  constructor
  · rintro ⟨j, ⟨h1, h2⟩, rfl⟩; exact ⟨j, rfl, h1, h2⟩
  · rintro ⟨j, rfl, h1, h2⟩; exact ⟨j, ⟨h1, h2⟩, rfl⟩
theorem eAt_mem {l : List Ed3} {v i : Int} (h : i ∈ outs l v) : eAt l i ∈ l ∧ (eAt l i).1 = v := by
  obtain ⟨j, rfl, h1, h2⟩ := mem_outs.1 h
  unfold eAt
  rw [show ((j : Int)).toNat = j by omega]
  refine ⟨?_, h2⟩
  rw [List.getD_eq_getElem?_getD, List.getElem?_eq_getElem h1]; simp
theorem outs_all {l : List Ed3} {v : Int} {e : Ed3} (h : e ∈ l) (hv : e.1 = v) : ∃ i ∈ outs l v, eAt l i = e := by
  obtain ⟨j, hj⟩ := List.mem_iff_getElem?.1 h
  have hjl := (List.getElem?_eq_some_iff.1 hj).1
  have hg : l.getD j (0, 0, 0) = e := by rw [List.getD_eq_getElem?_getD, hj]; rfl
  exact ⟨(j : Int), mem_outs.2 ⟨j, rfl, hjl, by rw [hg]; exact hv⟩, by unfold eAt; rw [show ((j : Int)).toNat = j by omega]; exact hg⟩

section
variable {l : List Ed3} {N : Nat} (hF : FairR N l)
include hF
/-- THE SEARCH. -/
theorem dfs_out : ∀ (f : Nat) (v : Int) (S : Int → Bool) (L : List Int), 0 ≤ v ∧ v < (N : Int) → free N S ≤ f →
    ∃ M S', dfs l f v (S, L) = (S', L ++ M) ∧ Out l N S M S' ∧ S' v = true ∧ ∀ x ∈ M, RA l S v x
  | 0, v, S, L, hv, hf => ⟨[], S, by simp [dfs], .none S, free_zero hv (by omega), by simp⟩
  | f + 1, v, S, L, hv, hf => by
    by_cases hs : S v = true
    · exact ⟨[], S, by rw [dfs_seen (s := (S, L)) hs]; simp, .none S, hs, by simp⟩
    · have hs : S v = false := by simpa using hs
      have hfr := free_upd hv hs
      have key : ∀ (is : List Int), (∀ i ∈ is, i ∈ outs l v) → ∀ (S0 : Int → Bool) (L0 : List Int), free N S0 ≤ f →
          ∃ M S', is.foldl (dstep l (dfs l f)) (S0, L0) = (S', L0 ++ M) ∧ Out l N S0 M S' ∧ (∀ i ∈ is, (eAt l i).2.2 ≠ inf → S' (eAt l i).2.1 = true) ∧ ∀ x ∈ M, ∃ i ∈ is, (eAt l i).2.2 ≠ inf ∧ RA l S0 (eAt l i).2.1 x := by
        intro is
        induction is with
        | nil => intro _ S0 L0 _; exact ⟨[], S0, by simp, .none S0, by simp, by simp⟩
        | cons i is ih =>
          intro hi S0 L0 h0
          rw [List.foldl_cons]
          have hi1 := eAt_mem (hi i List.mem_cons_self)
          have hrest : ∀ j ∈ is, j ∈ outs l v := fun j hj => hi j (List.mem_cons_of_mem _ hj)
          by_cases ho : (eAt l i).2.2 ≠ inf
          · have hd : dstep l (dfs l f) (S0, L0) i = dfs l f (eAt l i).2.1 (S0, L0) := by unfold dstep; rw [if_pos ho]
            obtain ⟨M1, S1, e1, o1, v1, r1⟩ := dfs_out f (eAt l i).2.1 S0 L0 (hF.ends _ hi1.1).2.2 h0
            have hm1 : ∀ x, S0 x = true → S1 x = true := fun x hx => (o1.seen x).2 (.inl hx)
            obtain ⟨M2, S2, e2, o2, v2, r2⟩ := ih hrest S1 (L0 ++ M1) (Nat.le_trans (free_mono hm1) h0)
            refine ⟨M1 ++ M2, S2, by rw [hd, e1, e2, List.append_assoc], o1.append o2, fun j hj hjo => ?_, fun x hx => ?_⟩
            · rcases List.mem_cons.1 hj with rfl | hj
              · exact (o2.seen _).2 (.inl v1)
              · exact v2 j hj hjo
            · rcases List.mem_append.1 hx with q | q
              · exact ⟨i, List.mem_cons_self, ho, r1 x q⟩
              · obtain ⟨j, hj, hjo, r⟩ := r2 x q
                exact ⟨j, List.mem_cons_of_mem _ hj, hjo, r.mono hm1⟩
          · have hd : dstep l (dfs l f) (S0, L0) i = (S0, L0) := by unfold dstep; rw [if_neg ho]
            obtain ⟨M2, S2, e2, o2, v2, r2⟩ := ih hrest S0 L0 h0
            refine ⟨M2, S2, by rw [hd, e2], o2, fun j hj hjo => ?_, fun x hx => ?_⟩
            · rcases List.mem_cons.1 hj with rfl | hj
              · exact absurd hjo ho
              · exact v2 j hj hjo
            · obtain ⟨j, hj, hjo, r⟩ := r2 x hx
              exact ⟨j, List.mem_cons_of_mem _ hj, hjo, r⟩
      obtain ⟨M, S', e, o, d, r⟩ := key (outs l v) (fun i h => h) (upd S v) L (by omega)
      have hroot := o.root hv hs (fun x hx ho hxv => by
        obtain ⟨i, hi, hxe⟩ := outs_all hx hxv
        have := d i hi (by rw [hxe]; exact ho)
        rwa [hxe] at this) (fun x hx => by
        obtain ⟨i, hi, ho, q⟩ := r x hx
        exact ⟨eAt l i, (eAt_mem hi).1, ho, (eAt_mem hi).2, q⟩)
      refine ⟨M ++ [v], S', ?_, hroot.1, hroot.2.1, hroot.2.2⟩
      rw [dfs_new (s := (S, L)) hs]
      show (((outs l v).foldl (dstep l (dfs l f)) (upd S v, L)).1, ((outs l v).foldl (dstep l (dfs l f)) (upd S v, L)).2 ++ [v]) = _
      rw [e, List.append_assoc]
end
end Rg
