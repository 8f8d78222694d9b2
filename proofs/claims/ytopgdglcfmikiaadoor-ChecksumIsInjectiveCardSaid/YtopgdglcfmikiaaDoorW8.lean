/- The code: Format, Parse. -/
import Derived.Test.YtopgdglcfmikiaaDoorW7
import Derived.Test.YtopgdglcfmikiaaDoorShelf
namespace Go.Proofs.YtopgdglcfmikiaaDoor
open Go.RowKit Go.Lib Cs

theorem hex_zeros {k n : Nat} (h : n < 16 ^ k) : ∀ m, hex (m + k) n = repeatL [48] m ++ hex k n := by
  intro m
  induction m with
  | zero => simp [repeatL]
  | succ m ih =>
    rw [show m + 1 + k = (m + k) + 1 by omega, hex_cons, ih, Nat.div_eq_of_lt (Nat.lt_of_lt_of_le h (Nat.pow_le_pow_right (by decide) (by omega)))]
    rfl

theorem format_any (n : Nat) (hn : W64 n) (w : World) (hE : Env w) : Calls Tryd.prog 18 #[.int .u64 (n : Int)] w fun r w' => r = .returned (.string ⟨(hex 16 n).toArray⟩) ∧ Below w.heap.size w w' := by
  go_enter Tryd.func18, Tryd.ntmps18
  go_wp2_with fail
  refine (fmt_16 n hn w hE).mono ?_
  rintro r w1 ⟨⟨k, h0, h1, h2, rfl⟩, b1⟩
  obtain ⟨m, hm⟩ : ∃ m, 16 - k = m := ⟨_, rfl⟩
  have hz := hex_zeros h2 m
  rw [show m + k = 16 by omega] at hz
  obtain ⟨t, ht⟩ : ∃ t, (hex k n) = t := ⟨_, rfl⟩
  obtain ⟨u, hu⟩ : ∃ u, repeatL [48] m = u := ⟨_, rfl⟩
  have htl : t.length = k := by rw [← ht, hex_length]
  have hul : u.length = m := by rw [← hu, repeatL_length]; simp
  have hR : ∀ W : World, Calls Tryd.prog 27 #[.string ⟨#[48]⟩, .int .i64 (m : Int)] W fun r w' => r = .returned (.string ⟨u.toArray⟩) ∧ Below W.heap.size W w' := fun W => by
    rw [← hu]; exact Tryd.strings_Repeat ⟨#[48]⟩ m W (by omega) (by simp [ByteArray.size]; omega)
  have hR := Lib.hid hR
  rw [ht, hu] at hz
  have hz := Lib.hid hz
  rw [ht]
  have e1 : (16 : Int) - (t.length : Int) = (m : Int) := by omega
  have e2 : u.length + t.length ≤ 100 := by omega
  clear ht hu htl hul hm h2
  go_wp2_with fail
  refine (hR.out _).mono ?_
  rintro r w2 ⟨rfl, b2⟩
  go_wp2
  go_ret
  exact ⟨by rw [hz.out]; rfl, then_ b1 b2⟩
end Go.Proofs.YtopgdglcfmikiaaDoor
