/- The code: Parse. -/
import Derived.Test.YtopgdglcfmikiaaDoorW9
namespace Go.Proofs.YtopgdglcfmikiaaDoor
open Go.RowKit Go.Lib Cs

set_option maxRecDepth 100000 in
theorem iparse_any (l : List UInt8) (w : World) (hl : l.length ≤ 1000) : Calls Tryd.prog 36 #[.string ⟨l.toArray⟩, .int .i64 16, .int .i64 64] w fun r w' => (∃ x e, r = .returned (.tuple #[.int .u64 x, e]) ∧ (∃ u : Nat, x = (u : Int) ∧ PU l u) ∧ PE e) ∧ Below w.heap.size w w' := by
  by_cases h : l = []
  · subst h
    go_enter Tryd.func36, Tryd.ntmps36
    go_wp2
    go_ret2
    exact ⟨⟨_, _, rfl, pu_zero (fun n h => by simp [parse] at h), .inr (.inl rfl)⟩, Below.refl _ _⟩
  · exact iparse_16 l w h hl

theorem parseuint_any (l : List UInt8) (w : World) (hE : Env w) (hl : l.length ≤ 1000) : Calls Tryd.prog 28 #[.string ⟨l.toArray⟩, .int .i64 16, .int .i64 64] w fun r w' => (∃ (u : Nat) (e : Value), r = .returned (.tuple #[.int .u64 (u : Int), e]) ∧ PU l u) ∧ Below w.heap.size w w' := by
  go_enter Tryd.func28, Tryd.ntmps28
  go_wp2_with fail
  refine (iparse_any l w hl).mono ?_
  rintro r w1 ⟨⟨x, e, rfl, ⟨u, rfl, hu⟩, he⟩, b1⟩
  have hE1 := hE.of b1
  obtain ⟨ts, ps, hsyn⟩ := hE1.syn
  obtain ⟨tr, pr, hrng⟩ := hE1.rng
  rcases he with rfl | rfl | rfl
  · go_wp2
    go_ret2
    exact ⟨⟨u, _, rfl, hu⟩, b1⟩
  · have hT := Tryd.strconv_toError_syntax ⟨#[80, 97, 114, 115, 101, 85, 105, 110, 116]⟩ ⟨l.toArray⟩ 16 64 _ w1 (by simp [ByteArray.size]; omega) hsyn (.inr ⟨_, _, rfl⟩)
    have hT := Lib.hid hT
    go_wp2_with (go_at_call 37; refine (hT.out).mono ?_; rintro r w2 ⟨N, rfl, _, _, b2⟩)
    go_ret2
    exact ⟨⟨u, _, rfl, hu⟩, then_ b1 b2⟩
  · have hT := Tryd.strconv_toError_range ⟨#[80, 97, 114, 115, 101, 85, 105, 110, 116]⟩ ⟨l.toArray⟩ 16 64 _ w1 (by simp [ByteArray.size]; omega) hrng (.inr ⟨_, _, rfl⟩)
    have hT := Lib.hid hT
    go_wp2_with (go_at_call 37; refine (hT.out).mono ?_; rintro r w2 ⟨N, rfl, _, _, b2⟩)
    go_ret2
    exact ⟨⟨u, _, rfl, hu⟩, then_ b1 b2⟩

theorem hex_unhex : ∀ (k : Nat) (l : List UInt8) (m : Nat), l.length = k → unhex 0 l = some m → hex k m = l
  | 0, l, m, hk, _ => by rw [List.eq_nil_of_length_eq_zero hk]; rfl
  | k + 1, l, m, hk, h => by
    obtain ⟨t, c, rfl⟩ : ∃ t c, l = t ++ [c] := by
      rcases List.eq_nil_or_concat l with rfl | ⟨t, c, h⟩
      · cases hk
      · exact ⟨t, c, by rw [h, List.concat_eq_append]⟩
    rw [List.length_append, List.length_singleton] at hk
    rw [unhex_append] at h
    cases h1 : unhex 0 t with
    | none => rw [h1] at h; cases h
    | some n =>
      rw [h1] at h
      simp only [Option.bind, unhex] at h
      cases h2 : val c with
      | none => rw [h2] at h; cases h
      | some d =>
        rw [h2] at h
        have hd := val_lt h2
        have hc := (val_iff hd).1 h2
        simp only [Option.some.injEq] at h
        show hex k (m / 16) ++ [hexd.getD (m % 16) 0] = _
        rw [show m / 16 = n by omega, show m % 16 = d by omega, hex_unhex k t n (by omega) h1, ← hc]
theorem hex_of_parse {l : List UInt8} {n : Nat} (h : parse l = some n) : hex 16 n = l := by
  unfold parse at h
  split at h
  · exact hex_unhex 16 l n (by assumption) h
  · cases h

theorem parse_any (l : List UInt8) (w : World) (hE : Env w) (hl : l.length ≤ 1000) : Calls Tryd.prog 19 #[.string ⟨l.toArray⟩] w fun r w' => r = .returned (.tuple #[.int .u64 ((cparse l).1 : Int), .int .i64 (cparse l).2]) ∧ Below w.heap.size w w' := by
  go_enter Tryd.func19, Tryd.ntmps19
  go_wp2_with fail
  refine (parseuint_any l w hE hl).mono ?_
  rintro r w1 ⟨⟨u, e, rfl, hu⟩, b1⟩
  have hE1 := hE.of b1
  go_wp2_with fail
  refine (format_any u hu.1 _ hE1).mono ?_
  rintro r w2 ⟨rfl, b2⟩
  obtain ⟨x, hx⟩ : ∃ x, hex 16 u = x := ⟨_, rfl⟩
  rw [hx]
  by_cases hs : x = l
  · have hp : parse l = some u := by rw [← hs, ← hx]; exact parse_hex hu.1
    have hc : cparse l = (u, 0) := by unfold cparse; rw [hp]
    have hc := Lib.hid hc
    clear hp hx
    subst hs
    go_wp2
    go_ret2
    exact ⟨by rw [hc.out]; rfl, then_ b1 b2⟩
  · have hp : parse l = none := by
      cases h : parse l with
      | none => rfl
      | some n =>
        exfalso
        have h1 := hu.2 n h
        subst h1
        exact hs (hx.symm.trans (hex_of_parse h))
    have hc : cparse l = (0, 2) := by unfold cparse; rw [hp]
    have hc := Lib.hid hc
    clear hp hx
    have t1 : (x == l) = false := by simp [hs]
    go_wp2
    go_ret2
    exact ⟨by rw [hc.out]; rfl, then_ b1 b2⟩
end Go.Proofs.YtopgdglcfmikiaaDoor
