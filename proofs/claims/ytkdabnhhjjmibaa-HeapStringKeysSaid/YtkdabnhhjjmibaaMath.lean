import Derived.Lib.Hide
set_option linter.unusedSectionVars false
set_option linter.unusedVariables false
namespace Hp

/-! ### Order -/

structure Strict {K : Type} (lt : K → K → Bool) : Prop where
  irr : ∀ a, lt a a = false
  tri : ∀ a b, a ≠ b → lt a b = false → lt b a = true
  tr : ∀ a b c, lt a b = true → lt b c = true → lt a c = true

section
variable {K : Type} [DecidableEq K] {lt : K → K → Bool}

/-- a is popped before b. -/
def prec (lt : K → K → Bool) (a b : Int × K) : Bool := if a.2 = b.2 then decide (a.1 < b.1) else lt a.2 b.2

theorem Strict.asymm (h : Strict lt) {a b : K} (hab : lt a b = true) : lt b a = false := by
  cases hb : lt b a
  · rfl
  · have := h.tr _ _ _ hab hb; rw [h.irr] at this; cases this
theorem prec_irr (h : Strict lt) (a : Int × K) : prec lt a a = false := by simp [prec]
theorem prec_tri (h : Strict lt) {a b : Int × K} (hne : a ≠ b) (hab : prec lt a b = false) : prec lt b a = true := by
  unfold prec at *
  by_cases e : a.2 = b.2
  · rw [if_pos e] at hab
    rw [if_pos e.symm]
    have h1 : a.1 ≠ b.1 := fun h1 => hne (Prod.ext h1 e)
    simp at hab ⊢; omega
  · rw [if_neg e] at hab
    rw [if_neg (fun h => e h.symm)]
    exact h.tri _ _ e hab
theorem prec_tr (h : Strict lt) {a b c : Int × K} (hab : prec lt a b = true) (hbc : prec lt b c = true) : prec lt a c = true := by
  unfold prec at *
  by_cases e : a.2 = b.2
  · by_cases e' : b.2 = c.2
    · rw [if_pos e] at hab; rw [if_pos e'] at hbc; rw [if_pos (e.trans e')]
      simp at hab hbc ⊢; omega
    · rw [if_neg e'] at hbc; rw [if_neg (fun h => e' (e.symm.trans h)), e]; exact hbc
  · by_cases e' : b.2 = c.2
    · rw [if_neg e] at hab; rw [if_neg (fun h => e (h.trans e'.symm)), ← e']; exact hab
    · rw [if_neg e] at hab; rw [if_neg e'] at hbc
      have h3 := h.tr _ _ _ hab hbc
      rw [if_neg (fun e2 => by rw [e2] at hab; have := h.asymm hab; rw [this] at hbc; cases hbc)]
      exact h3
theorem prec_asymm (h : Strict lt) {a b : Int × K} (hab : prec lt a b = true) : prec lt b a = false := by
  cases hb : prec lt b a
  · rfl
  · have := prec_tr h hab hb; rw [prec_irr h] at this; cases this
/-- Not after: a is b or before it. -/
theorem le_tr (h : Strict lt) {a b c : Int × K} (hab : prec lt b a = false) (hbc : prec lt c b = false) : prec lt c a = false := by
  cases hc : prec lt c a
  · rfl
  · by_cases e : a = b
    · subst e; rw [hbc] at hc; cases hc
    · have h1 := prec_tri h (fun e2 => e e2.symm) hab
      have := prec_tr h hc h1
      rw [hbc] at this; cases this
theorem le_antisymm (h : Strict lt) {a b : Int × K} (hab : prec lt b a = false) (hba : prec lt a b = false) : a = b := by
  by_cases e : a = b
  · exact e
  · have := prec_tri h e hba; rw [hab] at this; cases this

/-! ### The reference: lists of IDs with keys -/

def rput (x : List (Int × K)) (id : Int) (k : K) : List (Int × K) :=
  match x with
  | [] => [(id, k)]
  | a :: t => if a.1 = id then (id, k) :: t else a :: rput t id k
def rdrop (x : List (Int × K)) (id : Int) : List (Int × K) :=
  match x with
  | [] => []
  | a :: t => if a.1 = id then t else a :: rdrop t id
def rhas (x : List (Int × K)) (id : Int) : Bool := x.any fun a => a.1 == id
def rkey (x : List (Int × K)) (id : Int) : Option K := (x.find? fun a => a.1 == id).map Prod.snd

/-- No ID twice. -/
def ND (x : List (Int × K)) : Prop := x.Pairwise fun a b => a.1 ≠ b.1

theorem nd_nil : ND ([] : List (Int × K)) := List.Pairwise.nil
theorem nd_inj {x : List (Int × K)} (h : ND x) {a b : Int × K} (ha : a ∈ x) (hb : b ∈ x) (e : a.1 = b.1) : a = b := by
  induction x with
  | nil => cases ha
  | cons c t ih =>
    obtain ⟨h1, h2⟩ := List.pairwise_cons.1 h
    rcases List.mem_cons.1 ha with rfl | ha'
    · rcases List.mem_cons.1 hb with rfl | hb'
      · rfl
      · exact absurd e (h1 b hb')
    · rcases List.mem_cons.1 hb with rfl | hb'
      · exact absurd e.symm (h1 a ha')
      · exact ih h2 ha' hb'
theorem rhas_iff {x : List (Int × K)} {id : Int} : rhas x id = true ↔ ∃ a ∈ x, a.1 = id := by simp [rhas]
theorem rhas_false {x : List (Int × K)} {id : Int} : rhas x id = false ↔ ∀ a ∈ x, a.1 ≠ id := by
  simp only [rhas, List.any_eq_false, beq_iff_eq, ne_eq]
theorem mem_rput {x : List (Int × K)} {id : Int} {k : K} (h : ND x) (a : Int × K) : a ∈ rput x id k ↔ a = (id, k) ∨ (a ∈ x ∧ a.1 ≠ id) := by
  induction x with
  | nil => simp [rput]
  | cons c t ih =>
    obtain ⟨h1, h2⟩ := List.pairwise_cons.1 h
    unfold rput
    by_cases e : c.1 = id
    · rw [if_pos e]
      simp only [List.mem_cons]
      constructor
      · rintro (rfl | h3)
        · exact .inl rfl
        · exact .inr ⟨.inr h3, fun e2 => h1 a h3 (e.trans e2.symm)⟩
      · rintro (rfl | ⟨rfl | h3, h4⟩)
        · exact .inl rfl
        · exact absurd e h4
        · exact .inr h3
    · rw [if_neg e]
      simp only [List.mem_cons, ih h2]
      constructor
      · rintro (rfl | h3 | ⟨h3, h4⟩)
        · exact .inr ⟨.inl rfl, e⟩
        · exact .inl h3
        · exact .inr ⟨.inr h3, h4⟩
      · rintro (rfl | ⟨rfl | h3, h4⟩)
        · exact .inr (.inl rfl)
        · exact .inl rfl
        · exact .inr (.inr ⟨h3, h4⟩)
theorem mem_rdrop {x : List (Int × K)} {id : Int} (h : ND x) (a : Int × K) : a ∈ rdrop x id ↔ a ∈ x ∧ a.1 ≠ id := by
  induction x with
  | nil => simp [rdrop]
  | cons c t ih =>
    obtain ⟨h1, h2⟩ := List.pairwise_cons.1 h
    unfold rdrop
    by_cases e : c.1 = id
    · rw [if_pos e]
      simp only [List.mem_cons]
      constructor
      · intro h3; exact ⟨.inr h3, fun e2 => h1 a h3 (e.trans e2.symm)⟩
      · rintro ⟨rfl | h3, h4⟩
        · exact absurd e h4
        · exact h3
    · rw [if_neg e]
      simp only [List.mem_cons, ih h2]
      constructor
      · rintro (rfl | ⟨h3, h4⟩)
        · exact ⟨.inl rfl, e⟩
        · exact ⟨.inr h3, h4⟩
      · rintro ⟨rfl | h3, h4⟩
        · exact .inl rfl
        · exact .inr ⟨h3, h4⟩
theorem nd_rput {x : List (Int × K)} (h : ND x) (id : Int) (k : K) : ND (rput x id k) := by
  induction x with
  | nil => simp [rput, ND]
  | cons c t ih =>
    obtain ⟨h1, h2⟩ := List.pairwise_cons.1 h
    unfold rput
    by_cases e : c.1 = id
    · rw [if_pos e]
      exact List.pairwise_cons.2 ⟨fun b hb => by rw [← e]; exact h1 b hb, h2⟩
    · rw [if_neg e]
      refine List.pairwise_cons.2 ⟨fun b hb => ?_, ih h2⟩
      rcases (mem_rput h2 b).1 hb with rfl | ⟨hb', _⟩
      · exact e
      · exact h1 b hb'
theorem nd_rdrop {x : List (Int × K)} (h : ND x) (id : Int) : ND (rdrop x id) := by
  induction x with
  | nil => exact h
  | cons c t ih =>
    obtain ⟨h1, h2⟩ := List.pairwise_cons.1 h
    unfold rdrop
    by_cases e : c.1 = id
    · rw [if_pos e]; exact h2
    · rw [if_neg e]
      exact List.pairwise_cons.2 ⟨fun b hb => h1 b ((mem_rdrop h2 b).1 hb).1, ih h2⟩
theorem rhas_cons (c : Int × K) (t : List (Int × K)) (id : Int) : rhas (c :: t) id = (c.1 == id || rhas t id) := rfl
theorem length_rput (x : List (Int × K)) (id : Int) (k : K) : (rput x id k).length = if rhas x id then x.length else x.length + 1 := by
  induction x with
  | nil => simp [rput, rhas]
  | cons c t ih =>
    unfold rput
    rw [rhas_cons]
    by_cases e : c.1 = id
    · rw [if_pos e]; simp [e]
    · rw [if_neg e]; simp only [List.length_cons, ih]
      have : (c.1 == id) = false := by simp [e]
      rw [this, Bool.false_or]
      split <;> rfl
theorem length_rdrop (x : List (Int × K)) (id : Int) : (rdrop x id).length = if rhas x id then x.length - 1 else x.length := by
  induction x with
  | nil => simp [rdrop, rhas]
  | cons c t ih =>
    unfold rdrop
    rw [rhas_cons]
    by_cases e : c.1 = id
    · rw [if_pos e]; simp [e]
    · rw [if_neg e]; simp only [List.length_cons, ih]
      have : (c.1 == id) = false := by simp [e]
      rw [this, Bool.false_or]
      split
      · rename_i h
        have : 0 < t.length := by
          obtain ⟨a, ha, _⟩ := rhas_iff.1 h
          exact List.length_pos_of_mem ha
        omega
      · rfl
theorem rkey_some {x : List (Int × K)} (h : ND x) {a : Int × K} (ha : a ∈ x) : rkey x a.1 = some a.2 := by
  unfold rkey
  cases hf : x.find? fun b => b.1 == a.1 with
  | none =>
    have := List.find?_eq_none.1 hf a ha
    simp at this
  | some b =>
    have h1 := List.mem_of_find?_eq_some hf
    have h2 := List.find?_some hf
    rw [nd_inj h h1 ha (by simpa using h2)]; rfl
theorem rkey_none {x : List (Int × K)} {id : Int} (h : rhas x id = false) : rkey x id = none := by
  unfold rkey
  rw [List.find?_eq_none.2]
  · rfl
  · intro a ha
    have := rhas_false.1 h a ha
    simpa using this
theorem rdrop_none {x : List (Int × K)} {id : Int} (h : rhas x id = false) : rdrop x id = x := by
  induction x with
  | nil => rfl
  | cons c t ih =>
    rw [rhas_cons, Bool.or_eq_false_iff] at h
    unfold rdrop
    rw [if_neg (by simpa using h.1), ih h.2]

/-- m is the first of x. -/
def IsTop (lt : K → K → Bool) (x : List (Int × K)) (m : Int × K) : Prop := m ∈ x ∧ ∀ a ∈ x, prec lt a m = false
theorem IsTop.unique (h : Strict lt) {x y : List (Int × K)} {m m' : Int × K} (hm : IsTop lt x m) (hm' : IsTop lt y m') (e : ∀ a, a ∈ x ↔ a ∈ y) : m = m' :=
  le_antisymm h (hm.2 m' ((e m').2 hm'.1)) (hm'.2 m ((e m).1 hm.1))

/-! ### The heap: a list with its positions -/

def upd (f : Int → Option Nat) (y : Int) (i : Nat) : Int → Option Nat := fun z => if z = y then some i else f z
def del (f : Int → Option Nat) (y : Int) : Int → Option Nat := fun z => if z = y then none else f z

structure St (K : Type) where
  l : List (Int × K)
  f : Int → Option Nat

def St.place (s : St K) (i : Nat) (e : Int × K) : St K := ⟨s.l.set i e, upd s.f e.1 i⟩

/-- The place i is free for e: what lies at it does not count. -/
structure Hole (lt : K → K → Bool) (s : St K) (i : Nat) (e : Int × K) (x : List (Int × K)) : Prop where
  ins : i < s.l.length
  len : s.l.length = x.length
  A : ∀ j a p, 0 < j → j ≠ i → (j - 1) / 2 ≠ i → s.l[j]? = some a → s.l[(j - 1) / 2]? = some p → prec lt a p = false
  B : ∀ j a p, 0 < j → 0 < i → (j - 1) / 2 = i → s.l[j]? = some a → s.l[(i - 1) / 2]? = some p → prec lt a p = false
  P1 : ∀ j a, j ≠ i → s.l[j]? = some a → s.f a.1 = some j
  P2 : ∀ y j, s.f y = some j → y = e.1 ∨ (j ≠ i ∧ ∃ a, s.l[j]? = some a ∧ a.1 = y)
  P3 : ∀ j a, j ≠ i → s.l[j]? = some a → a.1 ≠ e.1
  M : ∀ a : Int × K, a ∈ x ↔ a = e ∨ ∃ j : Nat, j ≠ i ∧ s.l[j]? = some a

structure Good (lt : K → K → Bool) (s : St K) (x : List (Int × K)) : Prop where
  len : s.l.length = x.length
  ord : ∀ j a p, 0 < j → s.l[j]? = some a → s.l[(j - 1) / 2]? = some p → prec lt a p = false
  pos : ∀ j a, s.l[j]? = some a → s.f a.1 = some j
  back : ∀ y j, s.f y = some j → ∃ a, s.l[j]? = some a ∧ a.1 = y
  M : ∀ a : Int × K, a ∈ x ↔ ∃ j : Nat, s.l[j]? = some a

/-- The place above the free one does not follow e. -/
def Up (lt : K → K → Bool) (s : St K) (i : Nat) (e : Int × K) : Prop := ∀ p, 0 < i → s.l[(i - 1) / 2]? = some p → prec lt e p = false

theorem set_at {l : List (Int × K)} {i j : Nat} {a b : Int × K} (hi : i < l.length) (h : (l.set i a)[j]? = some b) : (j = i ∧ b = a) ∨ (j ≠ i ∧ l[j]? = some b) := by
  rw [List.getElem?_set] at h
  by_cases e : i = j
  · rw [if_pos e, if_pos hi] at h
    exact .inl ⟨e.symm, by injection h with h; exact h.symm⟩
  · rw [if_neg e] at h
    exact .inr ⟨fun e2 => e e2.symm, h⟩
theorem set_same {l : List (Int × K)} {i : Nat} {a : Int × K} (hi : i < l.length) : (l.set i a)[i]? = some a := by simp [hi]
theorem set_other {l : List (Int × K)} {i j : Nat} {a : Int × K} (h : j ≠ i) : (l.set i a)[j]? = l[j]? := by
  rw [List.getElem?_set, if_neg (fun e => h e.symm)]

/-- Moving an entry from q into the free place: all but the order. -/
theorem Hole.shift {s : St K} {i : Nat} {e : Int × K} {x : List (Int × K)} (h : Hole lt s i e x) {q : Nat} {p : Int × K} (hq : q ≠ i) (hp : s.l[q]? = some p)
    (hA : ∀ j a b, 0 < j → j ≠ q → (j - 1) / 2 ≠ q → (s.l.set i p)[j]? = some a → (s.l.set i p)[(j - 1) / 2]? = some b → prec lt a b = false)
    (hB : ∀ j a b, 0 < j → 0 < q → (j - 1) / 2 = q → (s.l.set i p)[j]? = some a → (s.l.set i p)[(q - 1) / 2]? = some b → prec lt a b = false) : Hole lt (s.place i p) q e x := by
  have hql : q < s.l.length := (List.getElem?_eq_some_iff.1 hp).1
  have inj : ∀ (j : Nat) (a : Int × K), j ≠ i → s.l[j]? = some a → a.1 = p.1 → j = q := by
    intro j a hj ha e1
    have h1 := h.P1 j a hj ha
    have h2 := h.P1 q p hq hp
    rw [e1, h2] at h1
    injection h1 with h1; exact h1.symm
  refine ⟨by simpa [St.place] using hql, by simpa [St.place] using h.len, hA, hB, ?_, ?_, ?_, ?_⟩
  · intro j a hj ha
    show upd s.f p.1 i a.1 = some j
    rcases set_at h.ins ha with ⟨rfl, rfl⟩ | ⟨hji, ha'⟩
    · simp [upd]
    · unfold upd
      rw [if_neg (fun e1 => hj (inj j a hji ha' e1))]
      exact h.P1 j a hji ha'
  · intro y j hy
    change upd s.f p.1 i y = some j at hy
    unfold upd at hy
    by_cases e1 : y = p.1
    · rw [if_pos e1] at hy
      injection hy with hy; subst hy
      exact .inr ⟨fun e2 => hq e2.symm, p, set_same h.ins, e1.symm⟩
    · rw [if_neg e1] at hy
      rcases h.P2 y j hy with h1 | ⟨h1, a, ha, e2⟩
      · exact .inl h1
      · refine .inr ⟨fun e3 => ?_, a, ?_, e2⟩
        · rw [e3, hp] at ha; injection ha with ha; exact e1 (by rw [← e2, ha])
        · show (s.l.set i p)[j]? = some a
          rw [set_other h1]; exact ha
  · intro j a hj ha
    rcases set_at h.ins ha with ⟨rfl, rfl⟩ | ⟨hji, ha'⟩
    · exact h.P3 q _ hq hp
    · exact h.P3 j a hji ha'
  · intro a
    rw [h.M a]
    constructor
    · rintro (h1 | ⟨j, hj, ha⟩)
      · exact .inl h1
      · by_cases e1 : j = q
        · refine .inr ⟨i, fun e2 => hq e2.symm, ?_⟩
          rw [e1, hp] at ha; injection ha with ha; subst ha
          exact set_same h.ins
        · exact .inr ⟨j, e1, by show (s.l.set i p)[j]? = some a; rw [set_other hj]; exact ha⟩
    · rintro (h1 | ⟨j, hj, ha⟩)
      · exact .inl h1
      · rcases set_at h.ins ha with ⟨rfl, rfl⟩ | ⟨hji, ha'⟩
        · exact .inr ⟨q, hq, hp⟩
        · exact .inr ⟨j, hji, ha'⟩

theorem Hole.moveUp (o : Strict lt) {s : St K} {i : Nat} {e : Int × K} {x : List (Int × K)} (h : Hole lt s i e x) (hi : 0 < i) {p : Int × K} (hp : s.l[(i - 1) / 2]? = some p) : Hole lt (s.place i p) ((i - 1) / 2) e x := by
  have hq : (i - 1) / 2 ≠ i := by omega
  refine h.shift hq hp ?_ ?_
  · intro j a b hj h1 h2 ha hb
    rcases set_at h.ins ha with ⟨rfl, rfl⟩ | ⟨hji, ha'⟩
    · exact absurd rfl h2
    · rcases set_at h.ins hb with ⟨e1, rfl⟩ | ⟨hne, hb'⟩
      · exact h.B j a _ hj hi e1 ha' hp
      · exact h.A j a b hj hji hne ha' hb'
  · intro j a b hj hq0 hjq ha hb
    rcases set_at h.ins hb with ⟨e1, _⟩ | ⟨_, hb'⟩
    · omega
    have hpb : prec lt p b = false := h.A ((i - 1) / 2) p b hq0 hq (by omega) hp hb'
    rcases set_at h.ins ha with ⟨rfl, rfl⟩ | ⟨hji, ha'⟩
    · exact hpb
    · exact le_tr o hpb (h.A j a p hj hji (by rw [hjq]; exact hq) ha' (by rw [hjq]; exact hp))

theorem Hole.moveDown (o : Strict lt) {s : St K} {i : Nat} {e : Int × K} {x : List (Int × K)} (h : Hole lt s i e x) {c : Nat} {p : Int × K} (hc : 0 < c) (hci : (c - 1) / 2 = i) (hp : s.l[c]? = some p)
    (hmin : ∀ j b, 0 < j → (j - 1) / 2 = i → s.l[j]? = some b → prec lt b p = false) (hlt : prec lt p e = true) : Hole lt (s.place i p) c e x ∧ Up lt (s.place i p) c e := by
  have hq : c ≠ i := by omega
  refine ⟨h.shift hq hp ?_ ?_, ?_⟩
  · intro j a b hj h1 h2 ha hb
    rcases set_at h.ins ha with ⟨rfl, rfl⟩ | ⟨hji, ha'⟩
    · rcases set_at h.ins hb with ⟨e1, rfl⟩ | ⟨hne, hb'⟩
      · omega
      · exact h.B c _ b hc hj hci hp hb'
    · rcases set_at h.ins hb with ⟨e1, rfl⟩ | ⟨hne, hb'⟩
      · exact hmin j a hj e1 ha'
      · exact h.A j a b hj hji hne ha' hb'
  · intro j a b hj hq0 hjq ha hb
    rw [hci] at hb
    rcases set_at h.ins hb with ⟨_, rfl⟩ | ⟨hne, hb'⟩
    · rcases set_at h.ins ha with ⟨e1, rfl⟩ | ⟨hji, ha'⟩
      · exact prec_irr o _
      · exact h.A j a _ hj hji (by omega) ha' (by rw [hjq]; exact hp)
    · exact absurd rfl hne
  · intro b hb0 hb
    rw [hci] at hb
    rcases set_at h.ins hb with ⟨_, rfl⟩ | ⟨hne, _⟩
    · exact prec_asymm o hlt
    · exact absurd rfl hne

theorem Hole.done (o : Strict lt) {s : St K} {i : Nat} {e : Int × K} {x : List (Int × K)} (h : Hole lt s i e x) (hu : Up lt s i e) (hd : ∀ j b, 0 < j → (j - 1) / 2 = i → s.l[j]? = some b → prec lt b e = false) : Good lt (s.place i e) x := by
  refine ⟨by simpa [St.place] using h.len, ?_, ?_, ?_, ?_⟩
  · intro j a p hj ha hp
    rcases set_at h.ins ha with ⟨rfl, rfl⟩ | ⟨hji, ha'⟩
    · rcases set_at h.ins hp with ⟨e1, rfl⟩ | ⟨_, hp'⟩
      · omega
      · exact hu p hj hp'
    · rcases set_at h.ins hp with ⟨e1, rfl⟩ | ⟨hne, hp'⟩
      · exact hd j a hj e1 ha'
      · exact h.A j a p hj hji hne ha' hp'
  · intro j a ha
    show upd s.f e.1 i a.1 = some j
    rcases set_at h.ins ha with ⟨rfl, rfl⟩ | ⟨hji, ha'⟩
    · simp [upd]
    · unfold upd
      rw [if_neg (h.P3 j a hji ha')]
      exact h.P1 j a hji ha'
  · intro y j hy
    change upd s.f e.1 i y = some j at hy
    unfold upd at hy
    by_cases e1 : y = e.1
    · rw [if_pos e1] at hy
      injection hy with hy; subst hy
      exact ⟨e, set_same h.ins, e1.symm⟩
    · rw [if_neg e1] at hy
      rcases h.P2 y j hy with h1 | ⟨h1, a, ha, e2⟩
      · exact absurd h1 e1
      · exact ⟨a, by show (s.l.set i e)[j]? = some a; rw [set_other h1]; exact ha, e2⟩
  · intro a
    rw [h.M a]
    constructor
    · rintro (rfl | ⟨j, hj, ha⟩)
      · exact ⟨i, set_same h.ins⟩
      · exact ⟨j, by show (s.l.set i e)[j]? = some a; rw [set_other hj]; exact ha⟩
    · rintro ⟨j, ha⟩
      rcases set_at h.ins ha with ⟨rfl, rfl⟩ | ⟨hji, ha'⟩
      · exact .inl rfl
      · exact .inr ⟨j, hji, ha'⟩

theorem good_nil : Good lt (⟨[], fun _ => none⟩ : St K) [] := ⟨rfl, by simp, by simp, by simp, by simp⟩

/-- The free place at the end. -/
theorem Good.append {s : St K} {x : List (Int × K)} (h : Good lt s x) (nd : ND x) {e : Int × K} (z : Int × K) (hf : s.f e.1 = none) : Hole lt ⟨s.l ++ [z], s.f⟩ s.l.length e (rput x e.1 e.2) := by
  have hno : ∀ (j : Nat) (a : Int × K), s.l[j]? = some a → a.1 ≠ e.1 := fun j a ha e1 => by have := h.pos j a ha; rw [e1, hf] at this; cases this
  have hrh : rhas x e.1 = false := rhas_false.2 fun a ha => by obtain ⟨j, hj⟩ := (h.M a).1 ha; exact hno j a hj
  have old : ∀ {j : Nat} {a : Int × K}, j ≠ s.l.length → (s.l ++ [z])[j]? = some a → s.l[j]? = some a := by
    intro j a hj ha
    have hlt := (List.getElem?_eq_some_iff.1 ha).1
    rw [List.length_append, List.length_singleton] at hlt
    rwa [List.getElem?_append_left (by omega)] at ha
  refine ⟨by simp, by rw [length_rput, hrh]; simp [h.len], ?_, ?_, ?_, ?_, ?_, ?_⟩
  · intro j a p hj h1 h2 ha hp
    exact h.ord j a p hj (old h1 ha) (old h2 hp)
  · intro j a p hj _ h2 ha _
    have hlt := (List.getElem?_eq_some_iff.1 ha).1
    simp at hlt; omega
  · intro j a hj ha; exact h.pos j a (old hj ha)
  · intro y j hy
    obtain ⟨a, ha, e1⟩ := h.back y j hy
    have hlt := (List.getElem?_eq_some_iff.1 ha).1
    exact .inr ⟨by omega, a, by show (s.l ++ [z])[j]? = some a; rw [List.getElem?_append_left hlt]; exact ha, e1⟩
  · intro j a hj ha; exact hno j a (old hj ha)
  · intro a
    rw [mem_rput nd, h.M a]
    constructor
    · rintro (rfl | ⟨⟨j, ha⟩, _⟩)
      · exact .inl rfl
      · have hlt := (List.getElem?_eq_some_iff.1 ha).1
        exact .inr ⟨j, by omega, by show (s.l ++ [z])[j]? = some a; rw [List.getElem?_append_left hlt]; exact ha⟩
    · rintro (rfl | ⟨j, hj, ha⟩)
      · exact .inl rfl
      · exact .inr ⟨⟨j, old hj ha⟩, hno j a (old hj ha)⟩

/-- The free place of an ID whose key changes. -/
theorem Good.free (o : Strict lt) {s : St K} {x : List (Int × K)} (h : Good lt s x) (nd : ND x) {e : Int × K} {i : Nat} (hf : s.f e.1 = some i) : Hole lt s i e (rput x e.1 e.2) := by
  obtain ⟨a0, ha0, e0⟩ := h.back _ _ hf
  have hne : ∀ (j : Nat) (a : Int × K), j ≠ i → s.l[j]? = some a → a.1 ≠ e.1 := fun j a hj ha e1 => by
    have := h.pos j a ha; rw [e1, hf] at this; injection this with this; exact hj this.symm
  have hrh : rhas x e.1 = true := rhas_iff.2 ⟨a0, (h.M a0).2 ⟨i, ha0⟩, e0⟩
  have hil := (List.getElem?_eq_some_iff.1 ha0).1
  refine ⟨hil, by rw [length_rput, hrh]; exact h.len, ?_, ?_, ?_, ?_, ?_, ?_⟩
  · intro j a p hj _ _ ha hp; exact h.ord j a p hj ha hp
  · intro j a p hj hi0 hji ha hp
    exact le_tr o (h.ord i a0 p hi0 ha0 hp) (h.ord j a a0 hj ha (by rw [hji]; exact ha0))
  · intro j a _ ha; exact h.pos j a ha
  · intro y j hy
    obtain ⟨a, ha, e1⟩ := h.back y j hy
    by_cases e2 : j = i
    · subst e2; rw [ha0] at ha; injection ha with ha; subst ha
      exact .inl (e1.symm.trans e0)
    · exact .inr ⟨e2, a, ha, e1⟩
  · intro j a hj ha; exact hne j a hj ha
  · intro a
    rw [mem_rput nd, h.M a]
    constructor
    · rintro (rfl | ⟨⟨j, ha⟩, hn⟩)
      · exact .inl rfl
      · refine .inr ⟨j, fun e2 => ?_, ha⟩
        subst e2; rw [ha0] at ha; injection ha with ha; subst ha; exact hn e0
    · rintro (rfl | ⟨j, hj, ha⟩)
      · exact .inl rfl
      · exact .inr ⟨⟨j, ha⟩, hne j a hj ha⟩

theorem getElem?_take_some {l : List (Int × K)} {n j : Nat} {a : Int × K} : (l.take n)[j]? = some a ↔ j < n ∧ l[j]? = some a := by
  rw [List.getElem?_take]
  by_cases h : j < n
  · simp [h]
  · simp [h]

/-- Removing: the last entry, if it is the one. -/
theorem Good.dropLast (o : Strict lt) {s : St K} {x : List (Int × K)} (h : Good lt s x) (nd : ND x) {y : Int} {i : Nat} (hf : s.f y = some i) (hi : i + 1 = s.l.length) : Good lt ⟨s.l.take i, del s.f y⟩ (rdrop x y) := by
  obtain ⟨a0, ha0, e0⟩ := h.back _ _ hf
  have hne : ∀ (j : Nat) (a : Int × K), j ≠ i → s.l[j]? = some a → a.1 ≠ y := fun j a hj ha e1 => by
    have := h.pos j a ha; rw [e1, hf] at this; injection this with this; exact hj this.symm
  have hrh : rhas x y = true := rhas_iff.2 ⟨a0, (h.M a0).2 ⟨i, ha0⟩, e0⟩
  refine ⟨by rw [length_rdrop, hrh]; simp [← h.len]; omega, ?_, ?_, ?_, ?_⟩
  · intro j a p hj ha hp
    exact h.ord j a p hj (getElem?_take_some.1 ha).2 (getElem?_take_some.1 hp).2
  · intro j a ha
    obtain ⟨h1, h2⟩ := getElem?_take_some.1 ha
    show del s.f y a.1 = some j
    unfold del
    rw [if_neg (hne j a (by omega) h2)]
    exact h.pos j a h2
  · intro z j hz
    change del s.f y z = some j at hz
    unfold del at hz
    by_cases e1 : z = y
    · rw [if_pos e1] at hz; cases hz
    · rw [if_neg e1] at hz
      obtain ⟨a, ha, e2⟩ := h.back z j hz
      have hlt := (List.getElem?_eq_some_iff.1 ha).1
      refine ⟨a, getElem?_take_some.2 ⟨?_, ha⟩, e2⟩
      have : j ≠ i := fun e3 => by subst e3; rw [ha0] at ha; injection ha with ha; subst ha; exact e1 (e2.symm.trans e0)
      omega
  · intro a
    rw [mem_rdrop nd, h.M a]
    constructor
    · rintro ⟨⟨j, ha⟩, hn⟩
      have hlt := (List.getElem?_eq_some_iff.1 ha).1
      have : j ≠ i := fun e3 => by subst e3; rw [ha0] at ha; injection ha with ha; subst ha; exact hn e0
      exact ⟨j, getElem?_take_some.2 ⟨by omega, ha⟩⟩
    · rintro ⟨j, ha⟩
      obtain ⟨h1, h2⟩ := getElem?_take_some.1 ha
      exact ⟨⟨j, h2⟩, hne j a (by omega) h2⟩

/-- Removing another one: its place is free for the last entry. -/
theorem Good.dropHole (o : Strict lt) {s : St K} {x : List (Int × K)} (h : Good lt s x) (nd : ND x) {y : Int} {i n : Nat} {e : Int × K} (hf : s.f y = some i) (hn : n + 1 = s.l.length) (hi : i < n) (he : s.l[n]? = some e) :
    Hole lt ⟨s.l.take n, del s.f y⟩ i e (rdrop x y) := by
  obtain ⟨a0, ha0, e0⟩ := h.back _ _ hf
  have hne : ∀ (j : Nat) (a : Int × K), j ≠ i → s.l[j]? = some a → a.1 ≠ y := fun j a hj ha e1 => by
    have := h.pos j a ha; rw [e1, hf] at this; injection this with this; exact hj this.symm
  have hrh : rhas x y = true := rhas_iff.2 ⟨a0, (h.M a0).2 ⟨i, ha0⟩, e0⟩
  refine ⟨by simp; omega, by rw [length_rdrop, hrh]; simp [← h.len]; omega, ?_, ?_, ?_, ?_, ?_, ?_⟩
  · intro j a p hj _ _ ha hp
    exact h.ord j a p hj (getElem?_take_some.1 ha).2 (getElem?_take_some.1 hp).2
  · intro j a p hj hi0 hji ha hp
    exact le_tr o (h.ord i a0 p hi0 ha0 (getElem?_take_some.1 hp).2) (h.ord j a a0 hj (getElem?_take_some.1 ha).2 (by rw [hji]; exact ha0))
  · intro j a hj ha
    obtain ⟨h1, h2⟩ := getElem?_take_some.1 ha
    show del s.f y a.1 = some j
    unfold del
    rw [if_neg (hne j a hj h2)]
    exact h.pos j a h2
  · intro z j hz
    change del s.f y z = some j at hz
    unfold del at hz
    by_cases e1 : z = y
    · rw [if_pos e1] at hz; cases hz
    · rw [if_neg e1] at hz
      obtain ⟨a, ha, e2⟩ := h.back z j hz
      have hlt := (List.getElem?_eq_some_iff.1 ha).1
      by_cases e3 : j = n
      · subst e3; rw [he] at ha; injection ha with ha; subst ha; exact .inl e2.symm
      · refine .inr ⟨fun e4 => ?_, a, getElem?_take_some.2 ⟨by omega, ha⟩, e2⟩
        subst e4; rw [ha0] at ha; injection ha with ha; subst ha; exact e1 (e2.symm.trans e0)
  · intro j a hj ha e1
    obtain ⟨h1, h2⟩ := getElem?_take_some.1 ha
    have h3 := h.pos j a h2
    have h4 := h.pos n e he
    rw [e1, h4] at h3
    injection h3 with h3
    omega
  · intro a
    rw [mem_rdrop nd, h.M a]
    constructor
    · rintro ⟨⟨j, ha⟩, hn'⟩
      have hlt := (List.getElem?_eq_some_iff.1 ha).1
      have h3 : j ≠ i := fun e3 => by subst e3; rw [ha0] at ha; injection ha with ha; subst ha; exact hn' e0
      by_cases e4 : j = n
      · subst e4; rw [he] at ha; injection ha with ha; exact .inl ha.symm
      · exact .inr ⟨j, h3, getElem?_take_some.2 ⟨by omega, ha⟩⟩
    · rintro (rfl | ⟨j, hj, ha⟩)
      · exact ⟨⟨n, he⟩, hne n _ (by omega) he⟩
      · obtain ⟨h1, h2⟩ := getElem?_take_some.1 ha
        exact ⟨⟨j, h2⟩, hne j a hj h2⟩

theorem Good.top (o : Strict lt) {s : St K} {x : List (Int × K)} (h : Good lt s x) {m : Int × K} (hm : s.l[0]? = some m) : IsTop lt x m := by
  refine ⟨(h.M m).2 ⟨0, hm⟩, fun a ha => ?_⟩
  obtain ⟨j, hj⟩ := (h.M a).1 ha
  have key : ∀ (n j : Nat) (a : Int × K), j < n → s.l[j]? = some a → prec lt a m = false := by
    intro n
    induction n with
    | zero => intro j a h; omega
    | succ n ih =>
      intro j a hjn ha
      by_cases e : j = 0
      · subst e; rw [hm] at ha; injection ha with ha; subst ha; exact prec_irr o _
      · have hlt := (List.getElem?_eq_some_iff.1 ha).1
        have hp : s.l[(j - 1) / 2]? = some (s.l[(j - 1) / 2]'(by omega)) := List.getElem?_eq_getElem (by omega)
        exact le_tr o (ih _ _ (by omega) hp) (h.ord j a _ (by omega) ha hp)
  exact key (j + 1) j a (by omega) hj

theorem Good.has {s : St K} {x : List (Int × K)} (h : Good lt s x) (y : Int) : rhas x y = (s.f y).isSome := by
  cases hf : s.f y with
  | none =>
    rw [Option.isSome_none, rhas_false]
    intro a ha e
    obtain ⟨j, hj⟩ := (h.M a).1 ha
    have := h.pos j a hj
    rw [e, hf] at this; cases this
  | some j =>
    obtain ⟨a, ha, e⟩ := h.back _ _ hf
    rw [Option.isSome_some, rhas_iff]
    exact ⟨a, (h.M a).2 ⟨j, ha⟩, e⟩
theorem Good.key {s : St K} {x : List (Int × K)} (h : Good lt s x) (nd : ND x) {y : Int} {j : Nat} {a : Int × K} (hf : s.f y = some j) (ha : s.l[j]? = some a) : rkey x y = some a.2 := by
  obtain ⟨b, hb, e⟩ := h.back _ _ hf
  rw [ha] at hb; injection hb with hb; subst hb
  rw [← e]
  exact rkey_some nd ((h.M a).2 ⟨j, ha⟩)
end

/-! ### Two orders -/

def ilt (a b : Int) : Bool := decide (a < b)
theorem strict_int : Strict ilt := ⟨by simp [ilt], by intro a b; simp [ilt]; omega, by intro a b c; simp [ilt]; omega⟩

end Hp
