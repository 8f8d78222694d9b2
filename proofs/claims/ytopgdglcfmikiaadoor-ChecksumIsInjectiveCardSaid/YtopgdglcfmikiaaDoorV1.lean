/- The laws on checksums. -/
import Derived.Test.YtopgdglcfmikiaaDoorWA
namespace Go.Proofs.YtopgdglcfmikiaaDoor
open Go.RowKit Go.Lib Cs

theorem rparse_any (l : List UInt8) (w : World) : Calls Tryd.prog 20 #[.string ⟨l.toArray⟩] w fun r w' => r = .returned (.tuple #[.int .u64 ((cparse l).1 : Int), .int .i64 (cparse l).2]) ∧ Below w.heap.size w w' := by
  by_cases h : l.length = 16
  · refine (rparse_16 l w h).mono ?_
    rintro r w' ⟨⟨n, ⟨h1, rfl⟩ | ⟨h1, rfl⟩⟩, hb⟩
    · exact ⟨by unfold cparse parse; rw [if_pos h, h1], hb⟩
    · exact ⟨by unfold cparse parse; rw [if_pos h, h1]; rfl, hb⟩
  · refine (rparse_len l w h).mono ?_
    rintro r w' ⟨rfl, rfl⟩
    exact ⟨by unfold cparse parse; rw [if_neg h]; rfl, Below.refl _ _⟩

theorem hex_init : hex 16 Cs.init = [99, 98, 102, 50, 57, 99, 101, 52, 56, 52, 50, 50, 50, 51, 50, 53] := by decide
theorem cparse_init : cparse [99, 98, 102, 50, 57, 99, 101, 52, 56, 52, 50, 50, 50, 51, 50, 53] = (Cs.init, 0) := by
  rw [← hex_init]; unfold cparse; rw [parse_hex init_lt]
theorem RNnil (w : World) : RN w (.slice none 0 0) [] := .inl ⟨rfl, rfl⟩

theorem alive_any (w : World) (hE : Env w) : Calls Tryd.prog 9 #[] w fun r w' => r = .returned (.bool true) ∧ Below w.heap.size w w' := by
  have hsum : ∀ W : World, Calls Tryd.prog 10 #[.slice none 0 0] W fun r w' => r = .returned (.int .u64 14695981039346656037) ∧ Below W.heap.size W w' := fun W => sum_any _ [] W (RB.nil W) (by simp)
  have hints : ∀ W : World, Calls Tryd.prog 16 #[.slice none 0 0] W fun r w' => r = .returned (.int .u64 14695981039346656037) ∧ Below W.heap.size W w' := fun W => sumints_any _ [] W (RNnil W) (by simp)
  have hfmt : ∀ W : World, Env W → Calls Tryd.prog 18 #[.int .u64 14695981039346656037] W fun r w' => r = .returned (.string ⟨#[99, 98, 102, 50, 57, 99, 101, 52, 56, 52, 50, 50, 50, 51, 50, 53]⟩) ∧ Below W.heap.size W w' := fun W hW => by
    have h := format_any Cs.init init_lt W hW
    rw [hex_init] at h
    exact h
  have hprs : ∀ W : World, Env W → Calls Tryd.prog 19 #[.string ⟨#[99, 98, 102, 50, 57, 99, 101, 52, 56, 52, 50, 50, 50, 51, 50, 53]⟩] W fun r w' => r = .returned (.tuple #[.int .u64 14695981039346656037, .int .i64 0]) ∧ Below W.heap.size W w' := fun W hW => by
    have h := parse_any [99, 98, 102, 50, 57, 99, 101, 52, 56, 52, 50, 50, 50, 51, 50, 53] W hW (by simp)
    rw [cparse_init] at h
    exact h
  have hsum := Lib.hid hsum
  have hints := Lib.hid hints
  have hfmt := Lib.hid hfmt
  have hprs := Lib.hid hprs
  have hE := Lib.hid hE
  go_enter Tryd.func9, Tryd.ntmps9
  go_wp2_with fail
  refine (hprs.out _ hE.out).mono ?_
  rintro r w1 ⟨rfl, b1⟩
  go_wp2_with fail
  refine (hsum.out _).mono ?_
  rintro r w2 ⟨rfl, b2⟩
  have b2 := then_ b1 b2
  go_wp2_with fail
  refine (hints.out _).mono ?_
  rintro r w3 ⟨rfl, b3⟩
  have b3 := then_ b2 b3
  go_wp2_with fail
  refine (hsum.out _).mono ?_
  rintro r w4 ⟨rfl, b4⟩
  have b4 := then_ b3 b4
  go_wp2_with fail
  refine (hsum.out _).mono ?_
  rintro r w5 ⟨rfl, b5⟩
  have b5 := then_ b4 b5
  go_wp2_with fail
  refine (hfmt.out _ (hE.out.of b5)).mono ?_
  rintro r w6 ⟨rfl, b6⟩
  have b6 := then_ b5 b6
  go_wp2_with fail
  refine (hsum.out _).mono ?_
  rintro r w7 ⟨rfl, b7⟩
  have b7 := then_ b6 b7
  go_wp2
  go_ret
  exact ⟨rfl, b7⟩

theorem lawSums (c : Nat) (v : Value) (l : List Nat) (w : World) (hE : Env w) (hc : W64 c) (H : RB w v l) (hl : l.length ≤ 9223372036854775807) : Calls Tryd.prog 3 #[.int .u64 (c : Int), v] w fun r w' => r = .returned (.bool true) ∧ Below w.heap.size w w' := by
  obtain ⟨A, cap, rfl⟩ := H.form
  have H' := Lib.hid H
  clear H
  by_cases hbig : 2000 < l.length
  · have hb1 : (2000 : Int) < (l.length : Int) := by omega
    go_enter Tryd.func3, Tryd.ntmps3
    go_wp2_with (go_at_call 9; refine (alive_any _ hE).mono ?_; rintro r w1 ⟨rfl, b1⟩)
    go_ret
    exact ⟨rfl, b1⟩
  · have hb1 : (l.length : Int) ≤ 2000 := by omega
    go_enter Tryd.func3, Tryd.ntmps3
    go_wp2_with fail
    refine (alive_any _ hE).mono ?_
    rintro r w1 ⟨rfl, b1⟩
    go_wp2_with fail
    refine (sum_any _ l w1 (H'.out.below b1) (by omega)).mono ?_
    rintro r w2 ⟨rfl, b2⟩
    have b2 := then_ b1 b2
    go_wp2_with fail
    refine (rof_any _ l w2 (H'.out.below b2) hl).mono ?_
    rintro r w3 ⟨rfl, b3⟩
    have b3 := then_ b2 b3
    generalize more Cs.init l = q
    go_wp2_with fail
    refine (update_any c _ l w3 hc (H'.out.below b3) (by omega)).mono ?_
    rintro r w4 ⟨rfl, b4⟩
    have b4 := then_ b3 b4
    go_wp2_with fail
    refine (rmore_any c _ l w4 hc (H'.out.below b4) hl).mono ?_
    rintro r w5 ⟨rfl, b5⟩
    generalize more c l = q
    go_wp2
    go_ret
    exact ⟨rfl, then_ b4 b5⟩

theorem lawInj (x y : Nat) (v : Value) (l : List Nat) (w : World) (hE : Env w) (hx : W64 x) (hy : W64 y) (H : RB w v l) (hl : l.length ≤ 9223372036854775807) : Calls Tryd.prog 8 #[.int .u64 (x : Int), .int .u64 (y : Int), v] w fun r w' => r = .returned (.bool true) ∧ Below w.heap.size w w' := by
  obtain ⟨A, cap, rfl⟩ := H.form
  have hby := H.1
  have H' := Lib.hid H
  clear H
  by_cases hbig : 1000 < l.length
  · have hb1 : (1000 : Int) < (l.length : Int) := by omega
    go_enter Tryd.func8, Tryd.ntmps8
    go_wp2_with (go_at_call 9; refine (alive_any _ hE).mono ?_; rintro r w1 ⟨rfl, b1⟩)
    go_ret
    exact ⟨rfl, b1⟩
  · have hb1 : (l.length : Int) ≤ 1000 := by omega
    go_enter Tryd.func8, Tryd.ntmps8
    go_wp2_with fail
    refine (alive_any _ hE).mono ?_
    rintro r w1 ⟨rfl, b1⟩
    go_wp2_with fail
    refine (update_any x _ l w1 hx (H'.out.below b1) (by omega)).mono ?_
    rintro r w2 ⟨rfl, b2⟩
    have b2 := then_ b1 b2
    obtain ⟨p, hp⟩ : ∃ p, more x l = p := ⟨_, rfl⟩
    rw [hp]
    go_wp2_with fail
    refine (update_any y _ l w2 hy (H'.out.below b2) (by omega)).mono ?_
    rintro r w3 ⟨rfl, b3⟩
    have b3 := then_ b2 b3
    obtain ⟨q, hq⟩ : ∃ q, more y l = q := ⟨_, rfl⟩
    rw [hq]
    have hiff : (p = q) ↔ (x = y) := by
      rw [← hp, ← hq]
      exact ⟨fun h => more_inj hx hy hby h, fun h => by rw [h]⟩
    clear hp hq
    by_cases hxy : x = y
    · have hpq := hiff.2 hxy
      subst hxy hpq
      clear hiff
      go_wp2
      go_ret
      exact ⟨rfl, b3⟩
    · have hpq : ¬ p = q := fun h => hxy (hiff.1 h)
      have t1 : ((p : Int) == (q : Int)) = false := by simp; omega
      have t2 : ((x : Int) == (y : Int)) = false := by simp; omega
      have t3 : (p == q) = false := by simpa using hpq
      have t4 : (x == y) = false := by simpa using hxy
      clear hiff
      go_wp2
      go_ret
      exact ⟨ret_b (by simp [hpq, hxy]), b3⟩
end Go.Proofs.YtopgdglcfmikiaaDoor
