/- The fixed examples that each law of the clock looks at first. -/
import Derived.Test.YtpndgjhednfpdaaDoorW7
namespace Go.Proofs.YtpndgjhednfpdaaDoor
open Go.RowKit Go.Lib Go.Sort Clk

theorem pT_text (n : Nat) (h : n < 4611686018427387904) : pT (text n) = ((n : Int), 0) := by
  unfold pT
  rw [readT_text n h, hold_id (by omega) (by omega), if_pos (by rw [Int.toNat_natCast])]

theorem pD_span (n : Nat) (h : n < 4611686018427387904) : pD (span n) = ((n : Int), 0) := by
  unfold pD
  rw [readD_span n h, hold_id (by omega) (by omega), if_pos (by rw [Int.toNat_natCast])]

theorem dd1 : decDigits 1 = [49] := by rw [dd_small (by omega)]; rfl
theorem dd2 : decDigits 2 = [50] := by rw [dd_small (by omega)]; rfl
theorem dd3 : decDigits 3 = [51] := by rw [dd_small (by omega)]; rfl
theorem dd0 : decDigits 0 = [48] := by rw [dd_small (by omega)]; rfl

theorem ex1 : text 183845 = [50, 100, 32, 48, 51, 58, 48, 52, 58, 48, 53] := by
  unfold text
  rw [if_neg (by omega), show 183845 / 86400 = 2 from rfl, dd2]; rfl
theorem ex2 : span 3723 = [49, 104, 32, 50, 109, 32, 51, 115] := by
  unfold span parts
  rw [if_neg (by omega), if_neg (by omega), if_pos (by omega), if_pos (by omega), if_pos (by omega), show 3723 / 3600 = 1 from rfl, show 3723 % 3600 / 60 = 2 from rfl, show 3723 % 60 = 3 from rfl, dd1, dd2, dd3]; rfl
theorem ex3 : span 7200 = [50, 104] := by
  unfold span parts
  rw [if_neg (by omega), if_neg (by omega), if_pos (by omega), if_neg (by omega), if_neg (by omega), show 7200 / 3600 = 2 from rfl, dd2]; rfl
theorem ex4 : span 0 = [48, 115] := by
  unfold span; rw [if_neg (by omega), if_pos rfl]
theorem ex5 : text 0 = [48, 100, 32, 48, 48, 58, 48, 48, 58, 48, 48] := by
  unfold text
  rw [if_neg (by omega), show 0 / 86400 = 0 from rfl, dd0]; rfl
theorem ex6 : readT [50, 100, 32, 51, 58, 48, 52, 58, 48, 53] = 183845 := by decide +kernel
theorem ex7 : pT [50, 100, 32, 51, 58, 48, 52, 58, 48, 53] = (0, 2) := by
  unfold pT
  rw [ex6, hold_id (by omega) (by omega), show (183845 : Int).toNat = 183845 from rfl, ex1, if_neg (by decide)]
theorem ex8 : pT [50, 100, 32, 48, 51, 58, 48, 52, 58, 48, 53] = (183845, 0) := by rw [← ex1]; exact pT_text 183845 (by omega)
theorem ex9 : pD [49, 104, 32, 50, 109, 32, 51, 115] = (3723, 0) := by rw [← ex2]; exact pD_span 3723 (by omega)
theorem ex10 : pD [110, 101, 118, 101, 114] = (4611686018427387904, 0) := by rw [pD_ref]; rfl

set_option maxRecDepth 100000 in
set_option maxHeartbeats 1000000 in
theorem awake_any (w : World) (hE : Env w) : Calls Tryd.prog 10 #[] w fun e w' => e = .returned (.bool true) ∧ Below w.heap.size w w' := by
  have a1 : sadd 4611686018427387904 1 = 4611686018427387904 := by decide
  have a2 : sadd (-5) 7 = 7 := by decide
  have a3 : hold (hold 9 - hold 4) = 5 := by decide
  have a4 : hold (hold 4 - hold 9) = 0 := by decide
  have a5 : text (hold 183845).toNat = [50, 100, 32, 48, 51, 58, 48, 52, 58, 48, 53] := ex1
  have a6 : span (hold 3723).toNat = [49, 104, 32, 50, 109, 32, 51, 115] := ex2
  have a7 : span (hold 7200).toNat = [50, 104] := ex3
  have a8 : span (hold 0).toNat = [48, 115] := ex4
  have a9 : text (hold (-1)).toNat = [48, 100, 32, 48, 48, 58, 48, 48, 58, 48, 48] := ex5
  have p1 := ex7
  have p2 := ex8
  have p3 := ex9
  have p4 := ex10
  go_enter Tryd.func10, Tryd.ntmps10
  go_wp2_with fail
  refine (parse_any _ _ hE (by decide)).mono ?_
  rintro e w1 ⟨rfl, b1⟩
  have E1 := hE.of b1
  go_wp2_with fail
  refine (parseDur_any _ _ E1 (by decide)).mono ?_
  rintro e w2 ⟨rfl, b2⟩
  have E2 := E1.of b2
  go_wp2_with fail
  refine (parse_any _ _ E2 (by decide)).mono ?_
  rintro e w3 ⟨rfl, b3⟩
  have E3 := E2.of b3
  go_wp2_with fail
  refine (parseDur_any _ _ E3 (by decide)).mono ?_
  rintro e w4 ⟨rfl, b4⟩
  have E4 := E3.of b4
  go_wp2_with (first | (go_at_call 11; refine (add_any _ _ _).mono ?_; rintro e w' ⟨rfl, rfl⟩) | (go_at_call 13; refine (elapsed_any _ _ _).mono ?_; rintro e w' ⟨rfl, rfl⟩))
  refine (format_any _ _ E4).mono ?_
  rintro e w5 ⟨rfl, b5⟩
  have E5 := E4.of b5
  go_wp2_with fail
  refine (fmtDur_any _ _ E5).mono ?_
  rintro e w6 ⟨rfl, b6⟩
  have E6 := E5.of b6
  go_wp2_with fail
  refine (fmtDur_any _ _ E6).mono ?_
  rintro e w7 ⟨rfl, b7⟩
  have E7 := E6.of b7
  go_wp2_with fail
  refine (fmtDur_any _ _ E7).mono ?_
  rintro e w8 ⟨rfl, b8⟩
  have E8 := E7.of b8
  go_wp2_with fail
  refine (format_any _ _ E8).mono ?_
  rintro e w9 ⟨rfl, b9⟩
  go_wp2_with fail
  go_ret
  exact ⟨rfl, then_ (then_ (then_ (then_ (then_ (then_ (then_ (then_ b1 b2) b3) b4) b5) b6) b7) b8) b9⟩

theorem sadd_bd (a b : Int) : hold a ≤ sadd a b ∧ hold b ≤ sadd a b ∧ sadd a b ≤ 4611686018427387904 ∧ 0 ≤ sadd a b := by
  have := hold_bd a; have := hold_bd b
  unfold sadd; split <;> omega
theorem sadd_comm (a b : Int) : sadd a b = sadd b a := by
  unfold sadd; rw [Int.add_comm]
theorem hold_sadd (a b : Int) : hold (sadd a b) = sadd a b := hold_id (sadd_bd a b).2.2.2 (sadd_bd a b).2.2.1
theorem sadd_assoc (a b c : Int) : sadd (sadd a b) c = sadd a (sadd b c) := by
  have h1 := hold_bd a; have h2 := hold_bd b; have h3 := hold_bd c
  have e1 := hold_sadd a b
  have e2 := hold_sadd b c
  rw [show sadd (sadd a b) c = if 4611686018427387904 < hold (sadd a b) + hold c then 4611686018427387904 else hold (sadd a b) + hold c from rfl,
    show sadd a (sadd b c) = if 4611686018427387904 < hold a + hold (sadd b c) then 4611686018427387904 else hold a + hold (sadd b c) from rfl, e1, e2]
  unfold sadd
  repeat' split
  all_goals omega

theorem lawAdd (t d : Int) (w : World) (hE : Env w) : Calls Tryd.prog 3 #[.int .i64 t, .int .i64 d] w fun e w' => e = .returned (.bool true) ∧ Below w.heap.size w w' := by
  go_enter Tryd.func3, Tryd.ntmps3
  go_wp2_with fail
  refine (awake_any _ hE).mono ?_
  rintro e w1 ⟨rfl, b1⟩
  go_wp2_with (first | (go_at_call 11; refine (add_any _ _ _).mono ?_; rintro e w' ⟨rfl, rfl⟩) | (go_at_call 12; refine (refAdd_any _ _ _).mono ?_; rintro e w' ⟨rfl, rfl⟩) | (go_at_call 13; refine (elapsed_any _ _ _).mono ?_; rintro e w' ⟨rfl, rfl⟩) | (go_at_call 14; refine (ago_any _ _ _).mono ?_; rintro e w' ⟨rfl, rfl⟩))
  go_ret
  exact ⟨rfl, b1⟩

theorem lawAssoc (a b c : Int) (w : World) (hE : Env w) : Calls Tryd.prog 8 #[.int .i64 a, .int .i64 b, .int .i64 c] w fun e w' => e = .returned (.bool true) ∧ Below w.heap.size w w' := by
  have h1 : (sadd (sadd a b) c == sadd a (sadd b c)) = true := by rw [beq_iff_eq, sadd_assoc]
  have h2 : (sadd a b == sadd b a) = true := by rw [beq_iff_eq, sadd_comm]
  obtain ⟨h3, h4, h5, _⟩ := sadd_bd a b
  go_enter Tryd.func8, Tryd.ntmps8
  go_wp2_with fail
  refine (add_any _ _ _).mono ?_
  rintro e w' ⟨rfl, rfl⟩
  go_wp2_with fail
  refine (awake_any _ hE).mono ?_
  rintro e w1 ⟨rfl, b1⟩
  go_wp2_with (first | (go_at_call 11; refine (add_any _ _ _).mono ?_; rintro e w' ⟨rfl, rfl⟩) | (go_at_call 18; refine (hold_any _ _).mono ?_; rintro e w' ⟨rfl, rfl⟩))
  go_ret
  exact ⟨rfl, b1⟩

theorem hold_hold (a : Int) : hold (hold a) = hold a := hold_id (hold_bd a).1 (hold_bd a).2
theorem back1 (t d : Int) (h : sadd t d < 4611686018427387904) : hold (hold (sadd t d) - hold t) = hold d := by
  have h1 := hold_bd t; have h2 := hold_bd d
  have h3 : sadd t d = hold t + hold d := by unfold sadd at *; split at h <;> split <;> omega
  rw [hold_sadd, h3, hold_id (by omega) (by omega)]; omega
theorem back2 (t d : Int) (h : hold d ≤ hold t) : sadd (hold d) (hold (hold (hold t) - hold (hold d))) = hold t := by
  have h1 := hold_bd t; have h2 := hold_bd d
  rw [hold_hold, hold_hold, hold_id (t := hold t - hold d) (by omega) (by omega), sadd_small h2.1 (by omega) (by omega)]; omega

theorem lawInverse (t d : Int) (w : World) (hE : Env w) : Calls Tryd.prog 9 #[.int .i64 t, .int .i64 d] w fun e w' => e = .returned (.bool true) ∧ Below w.heap.size w w' := by
  have hb := sadd_bd t d
  by_cases hx : sadd t d < 4611686018427387904
  · have e1 : (hold (hold (sadd t d) - hold t) != hold d) = false := by rw [back1 t d hx]; simp
    by_cases hab : hold t < hold d
    · go_enter Tryd.func9, Tryd.ntmps9
      go_wp2_with (first | (go_at_call 11; refine (add_any _ _ _).mono ?_; rintro e w' ⟨rfl, rfl⟩) | (go_at_call 10; refine (awake_any _ hE).mono ?_; rintro e w1 ⟨rfl, b1⟩) | (go_at_call 13; refine (elapsed_any _ _ _).mono ?_; rintro e w' ⟨rfl, rfl⟩) | (go_at_call 18; refine (hold_any _ _).mono ?_; rintro e w' ⟨rfl, rfl⟩))
      go_ret
      exact ⟨rfl, b1⟩
    · have e2 : (sadd (hold d) (hold (hold (hold t) - hold (hold d))) == hold t) = true := by rw [back2 t d (by omega)]; simp
      go_enter Tryd.func9, Tryd.ntmps9
      go_wp2_with (first | (go_at_call 11; refine (add_any _ _ _).mono ?_; rintro e w' ⟨rfl, rfl⟩) | (go_at_call 10; refine (awake_any _ hE).mono ?_; rintro e w1 ⟨rfl, b1⟩) | (go_at_call 13; refine (elapsed_any _ _ _).mono ?_; rintro e w' ⟨rfl, rfl⟩) | (go_at_call 18; refine (hold_any _ _).mono ?_; rintro e w' ⟨rfl, rfl⟩))
      go_ret
      exact ⟨rfl, b1⟩
  · by_cases hab : hold t < hold d
    · go_enter Tryd.func9, Tryd.ntmps9
      go_wp2_with (first | (go_at_call 11; refine (add_any _ _ _).mono ?_; rintro e w' ⟨rfl, rfl⟩) | (go_at_call 10; refine (awake_any _ hE).mono ?_; rintro e w1 ⟨rfl, b1⟩) | (go_at_call 13; refine (elapsed_any _ _ _).mono ?_; rintro e w' ⟨rfl, rfl⟩) | (go_at_call 18; refine (hold_any _ _).mono ?_; rintro e w' ⟨rfl, rfl⟩))
      go_ret
      exact ⟨rfl, b1⟩
    · have e2 : (sadd (hold d) (hold (hold (hold t) - hold (hold d))) == hold t) = true := by rw [back2 t d (by omega)]; simp
      go_enter Tryd.func9, Tryd.ntmps9
      go_wp2_with (first | (go_at_call 11; refine (add_any _ _ _).mono ?_; rintro e w' ⟨rfl, rfl⟩) | (go_at_call 10; refine (awake_any _ hE).mono ?_; rintro e w1 ⟨rfl, b1⟩) | (go_at_call 13; refine (elapsed_any _ _ _).mono ?_; rintro e w' ⟨rfl, rfl⟩) | (go_at_call 18; refine (hold_any _ _).mono ?_; rintro e w' ⟨rfl, rfl⟩))
      go_ret
      exact ⟨rfl, b1⟩

theorem pT_any (n : Nat) (h : n ≤ 4611686018427387904) : pT (text n) = ((n : Int), 0) := by
  by_cases h1 : n = 4611686018427387904
  · rw [pT_ref, h1, show text 4611686018427387904 = never from by unfold text; rw [if_pos rfl]]; rfl
  · exact pT_text n (by omega)
theorem pD_any (n : Nat) (h : n ≤ 4611686018427387904) : pD (span n) = ((n : Int), 0) := by
  by_cases h1 : n = 4611686018427387904
  · rw [pD_ref, h1, show span 4611686018427387904 = never from by unfold span; rw [if_pos rfl]]; rfl
  · exact pD_span n (by omega)

theorem lawFormat (t : Int) (w : World) (hE : Env w) : Calls Tryd.prog 4 #[.int .i64 t] w fun e w' => e = .returned (.bool true) ∧ Below w.heap.size w w' := by
  have hb := hold_bd t
  have hp : pT (text (hold t).toNat) = (hold t, 0) := by rw [pT_any _ (by omega)]; congr 1; omega
  have hl := text_len (hold t).toNat (by omega)
  go_enter Tryd.func4, Tryd.ntmps4
  go_wp2_with fail
  refine (format_any _ _ hE).mono ?_
  rintro e w1 ⟨rfl, b1⟩
  have E1 := hE.of b1
  go_wp2_with fail
  refine (parse_any _ _ E1 (by omega)).mono ?_
  rintro e w2 ⟨rfl, b2⟩
  have E2 := E1.of b2
  go_wp2_with fail
  refine (awake_any _ E2).mono ?_
  rintro e w3 ⟨rfl, b3⟩
  go_wp2_with (first | (go_at_call 17; refine (refText_any _ _).mono ?_; rintro e w4 ⟨rfl, b4⟩) | (go_at_call 18; refine (hold_any _ _).mono ?_; rintro e w' ⟨rfl, rfl⟩))
  go_ret
  exact ⟨rfl, then_ (then_ (then_ b1 b2) b3) b4⟩

theorem lawFormatDuration (t : Int) (w : World) (hE : Env w) : Calls Tryd.prog 6 #[.int .i64 t] w fun e w' => e = .returned (.bool true) ∧ Below w.heap.size w w' := by
  have hb := hold_bd t
  have hp : pD (span (hold t).toNat) = (hold t, 0) := by rw [pD_any _ (by omega)]; congr 1; omega
  have hl := span_len (hold t).toNat (by omega)
  go_enter Tryd.func6, Tryd.ntmps6
  go_wp2_with fail
  refine (fmtDur_any _ _ hE).mono ?_
  rintro e w1 ⟨rfl, b1⟩
  have E1 := hE.of b1
  go_wp2_with fail
  refine (parseDur_any _ _ E1 (by omega)).mono ?_
  rintro e w2 ⟨rfl, b2⟩
  have E2 := E1.of b2
  go_wp2_with fail
  refine (awake_any _ E2).mono ?_
  rintro e w3 ⟨rfl, b3⟩
  go_wp2_with (first | (go_at_call 22; refine (refSpan_any _ _).mono ?_; rintro e w4 ⟨rfl, b4⟩) | (go_at_call 18; refine (hold_any _ _).mono ?_; rintro e w' ⟨rfl, rfl⟩))
  go_ret
  exact ⟨rfl, then_ (then_ (then_ b1 b2) b3) b4⟩

theorem pT_case (l : Bs) : ((pT l).2 = 2 ∧ (pT l).1 = 0) ∨ ((pT l).2 = 0 ∧ text (hold (pT l).1).toNat = l) := by
  unfold pT; split
  · rename_i h; exact Or.inr ⟨rfl, h⟩
  · exact Or.inl ⟨rfl, rfl⟩
theorem pD_case (l : Bs) : ((pD l).2 = 2 ∧ (pD l).1 = 0) ∨ ((pD l).2 = 0 ∧ span (hold (pD l).1).toNat = l) := by
  unfold pD; split
  · rename_i h; exact Or.inr ⟨rfl, h⟩
  · exact Or.inl ⟨rfl, rfl⟩

theorem lawParse (l : Bs) (w : World) (hE : Env w) (_hm : l.length ≤ 9223372036854775807) : Calls Tryd.prog 5 #[.string ⟨l.toArray⟩] w fun e w' => e = .returned (.bool true) ∧ Below w.heap.size w w' := by
  by_cases hl : 100 < l.length
  · go_enter Tryd.func5, Tryd.ntmps5
    go_wp2_with fail
    refine (awake_any _ hE).mono ?_
    rintro e w1 ⟨rfl, b1⟩
    have E1 := hE.of b1
    go_wp2_with fail
    refine (awake_any _ E1).mono ?_
    rintro e w2 ⟨rfl, b2⟩
    go_wp2_with fail
    go_ret
    exact ⟨rfl, then_ b1 b2⟩
  · go_enter Tryd.func5, Tryd.ntmps5
    go_wp2_with fail
    refine (awake_any _ hE).mono ?_
    rintro e w1 ⟨rfl, b1⟩
    have E1 := hE.of b1
    go_wp2_with fail
    refine (parse_any _ _ E1 (by omega)).mono ?_
    rintro e w2 ⟨rfl, b2⟩
    have E2 := E1.of b2
    go_wp2_with fail
    refine (refParse_any _ _ (by omega)).mono ?_
    rintro e w3 ⟨rfl, b3⟩
    have E3 := E2.of b3
    rw [← pT_ref]
    rcases pT_case l with ⟨c1, c2⟩ | ⟨c1, c2⟩
    · rw [c1, c2]
      go_wp2_with fail
      go_ret
      exact ⟨rfl, then_ (then_ b1 b2) b3⟩
    · have hq : (text (hold (pT l).1).toNat == l) = true := by rw [beq_iff_eq]; exact c2
      rw [c1]
      clear c1 c2
      go_wp2_with fail
      refine (format_any _ _ E3).mono ?_
      rintro e w4 ⟨rfl, b4⟩
      go_wp2_with fail
      go_ret
      exact ⟨rfl, then_ (then_ (then_ b1 b2) b3) b4⟩

theorem lawParseDuration (l : Bs) (w : World) (hE : Env w) (_hm : l.length ≤ 9223372036854775807) : Calls Tryd.prog 7 #[.string ⟨l.toArray⟩] w fun e w' => e = .returned (.bool true) ∧ Below w.heap.size w w' := by
  by_cases hl : 100 < l.length
  · go_enter Tryd.func7, Tryd.ntmps7
    go_wp2_with fail
    refine (awake_any _ hE).mono ?_
    rintro e w1 ⟨rfl, b1⟩
    have E1 := hE.of b1
    go_wp2_with fail
    refine (awake_any _ E1).mono ?_
    rintro e w2 ⟨rfl, b2⟩
    go_wp2_with fail
    go_ret
    exact ⟨rfl, then_ b1 b2⟩
  · go_enter Tryd.func7, Tryd.ntmps7
    go_wp2_with fail
    refine (awake_any _ hE).mono ?_
    rintro e w1 ⟨rfl, b1⟩
    have E1 := hE.of b1
    go_wp2_with fail
    refine (parseDur_any _ _ E1 (by omega)).mono ?_
    rintro e w2 ⟨rfl, b2⟩
    have E2 := E1.of b2
    go_wp2_with fail
    refine (refLength_any _ _ (by omega)).mono ?_
    rintro e w3 ⟨rfl, b3⟩
    have E3 := E2.of b3
    rw [← pD_ref]
    rcases pD_case l with ⟨c1, c2⟩ | ⟨c1, c2⟩
    · rw [c1, c2]
      go_wp2_with fail
      go_ret
      exact ⟨rfl, then_ (then_ b1 b2) b3⟩
    · have hq : (span (hold (pD l).1).toNat == l) = true := by rw [beq_iff_eq]; exact c2
      rw [c1]
      clear c1 c2
      go_wp2_with fail
      refine (fmtDur_any _ _ E3).mono ?_
      rintro e w4 ⟨rfl, b4⟩
      go_wp2_with fail
      go_ret
      exact ⟨rfl, then_ (then_ (then_ b1 b2) b3) b4⟩

end Go.Proofs.YtpndgjhednfpdaaDoor
