/- firstChild, moveDown, settle. -/
import Derived.Test.YtkdabnhhjjmibaaHS3
namespace Go.Proofs.Ytkdabnhhjjmibaa
open Go.RowKit Go.Lib Hp

/-- c is the child of i that comes first; 0 if there is none. -/
def IsChildS (s : St KS) (i c : Nat) : Prop :=
  (c = 0 ∧ s.l.length ≤ 2 * i + 1) ∨ (0 < c ∧ (c - 1) / 2 = i ∧ ∃ p, s.l[c]? = some p ∧ ∀ j b, 0 < j → (j - 1) / 2 = i → s.l[j]? = some b → prec ltS b p = false)

theorem child_anyS (hb : Nat) (v : Value) (m : Option Nat) (s : St KS) (n i : Nat) (w : World) (H : HeapAtS w hb v m s n) (hi : i < s.l.length) (hl : s.l.length ≤ 1000000) :
    Calls Try.prog 41 #[.pointer (some ⟨hb, 0, none⟩), .int .i64 i] w fun r w' => ∃ c : Nat, r = .returned (.int .i64 c) ∧ IsChildS s i c ∧ Below w.heap.size w w' := by
  obtain ⟨g, cap, rfl⟩ := H.row.form' (by omega)
  obtain ⟨d, hd⟩ : ∃ d, 2 * i = d := ⟨_, rfl⟩
  obtain ⟨L, hL⟩ : ∃ L, 2 * i + 1 = L := ⟨_, rfl⟩
  obtain ⟨R, hR⟩ : ∃ R, 2 * i + 2 = R := ⟨_, rfl⟩
  have e0 : IntKind.i64.wrap (2 * (i : Int)) = (d : Int) := by rw [IntKind.wrap_i64]; omega
  have e1 : IntKind.i64.wrap ((d : Int) + 1) = (L : Int) := by rw [IntKind.wrap_i64]; omega
  have e2 : IntKind.i64.wrap ((d : Int) + 2) = (R : Int) := by rw [IntKind.wrap_i64]; omega
  have c0 := H.c0
  have onlyL : R ≥ s.l.length → L < s.l.length → IsChildS s i L := fun h1 h2 => by
    obtain ⟨p, hp⟩ : ∃ p, s.l[L]? = some p := ⟨_, List.getElem?_eq_getElem h2⟩
    refine .inr ⟨by omega, by omega, p, hp, fun j b hj hj2 hb => ?_⟩
    have := (List.getElem?_eq_some_iff.1 hb).1
    obtain rfl : j = L := by omega
    rw [hp] at hb; injection hb with hb; subst hb; exact prec_irr strictS _
  by_cases hA : s.l.length ≤ L
  · have hA' : (s.l.length : Int) ≤ (L : Int) := by omega
    clear onlyL
    go_enter Try.func41, Try.ntmps41
    go_wp2
    go_ret
    exact ⟨0, rfl, .inl ⟨rfl, by omega⟩, Below.refl _ _⟩
  · have hA' : (L : Int) < (s.l.length : Int) := by omega
    have hL0 : (0 : Int) ≤ (L : Int) := by omega
    have hR0 : (0 : Int) ≤ (R : Int) := by omega
    by_cases hB : s.l.length ≤ R
    · have hB' : decide ((R : Int) < (s.l.length : Int)) = false := by rw [decide_eq_false_iff_not]; omega
      have hB2 : decide (R < s.l.length) = false := by rw [decide_eq_false_iff_not]; omega
      have ho := onlyL hB (by omega)
      clear onlyL
      go_enter Try.func41, Try.ntmps41
      go_wp2
      go_quiet (fail)
      go_wp2
      go_ret
      exact ⟨L, rfl, ho, below_drewN (Below.refl _ _) _⟩
    · have hB' : decide ((R : Int) < (s.l.length : Int)) = true := by rw [decide_eq_true_iff]; omega
      have hB2 : decide (R < s.l.length) = true := by rw [decide_eq_true_iff]; omega
      have hB3 : (R : Int) < (s.l.length : Int) := by omega
      clear onlyL
      obtain ⟨p, hp⟩ : ∃ p, s.l[L]? = some p := ⟨_, List.getElem?_eq_getElem (by omega)⟩
      obtain ⟨q, hq⟩ : ∃ q, s.l[R]? = some q := ⟨_, List.getElem?_eq_getElem (by omega)⟩
      obtain ⟨p0, p1⟩ := H.row.cell hp
      obtain ⟨q0, q1⟩ := H.row.cell hq
      have two : ∀ (c : Nat) (z : Int × KS), s.l[c]? = some z → (c = L ∨ c = R) → prec ltS p z = false → prec ltS q z = false → IsChildS s i c := by
        intro c z hc hc2 h1 h2
        refine .inr ⟨by omega, by omega, z, hc, fun j b hj hj2 hb => ?_⟩
        have hj3 : j = L ∨ j = R := by omega
        rcases hj3 with rfl | rfl
        · rw [hp] at hb; injection hb with hb; subst hb; exact h1
        · rw [hq] at hb; injection hb with hb; subst hb; exact h2
      have two := Lib.hid two
      go_enter Try.func41, Try.ntmps41
      go_wp2
      go_region_held3 (fun w' => w'.cell? ⟨hb, 0, none⟩ = some (.slice (some ⟨g, 0, none⟩) s.l.length cap) ∧ w'.cell? ⟨g, L * 2, none⟩ = some (.int .i64 p.1) ∧ w'.cell? ⟨g, L * 2 + 1, none⟩ = some (Value.string ⟨List.toArray (p.2)⟩) ∧ w'.cell? ⟨g, R * 2, none⟩ = some (.int .i64 q.1) ∧ w'.cell? ⟨g, R * 2 + 1, none⟩ = some (Value.string ⟨List.toArray (q.2)⟩) ∧ Below w.heap.size w w')
        (first | exact ⟨c0, p0, p1, q0, q1, (Below.refl _ _).drew⟩ | exact keep5 (w0 := w) (w := w.drew) ⟨c0, p0, p1, q0, q1, (Below.refl _ _).drew⟩ (by assumption))
        ((go_at_call 40; refine (precedesS q p _).mono ?_; rintro r w' ⟨rfl, hbw⟩))
      have b3 : Below w.heap.size w w' := (Below.refl _ _).drew.trans hbw
      cases hpr : prec ltS q p
      · go_wp2
        go_ret
        exact ⟨L, rfl, two.out L p hp (.inl rfl) (prec_irr strictS _) hpr, b3⟩
      · go_wp2
        go_ret
        exact ⟨R, rfl, two.out R q hq (.inr rfl) (prec_asymm strictS hpr) (prec_irr strictS _), b3⟩
end Go.Proofs.Ytkdabnhhjjmibaa
