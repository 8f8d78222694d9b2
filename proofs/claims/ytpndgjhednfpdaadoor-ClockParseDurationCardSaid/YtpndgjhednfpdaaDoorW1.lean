/- The clock's small functions and the reference's: what each call does. -/
import Derived.Test.YtpndgjhednfpdaaDoorRows
import Derived.Test.YtpndgjhednfpdaaDoorMath
import Derived.WalkKit
import Derived.ProofKit
import Derived.WalkLawsBesides
import Derived.WalkSpells
import Derived.Outline
namespace Go.Proofs.YtpndgjhednfpdaaDoor
open Go.RowKit Go.Lib Clk

theorem ret_i {k : IntKind} {a b : Int} (h : a = b) : Ending.returned (.int k a) = .returned (.int k b) := by rw [h]
theorem ret_b {a b : Bool} (h : a = b) : Ending.returned (.bool a) = .returned (.bool b) := by rw [h]

theorem never_any (w : World) : Calls Tryd.prog 25 #[] w fun e w' => e = .returned (.int .i64 4611686018427387904) ∧ w = w' := by
  go_enter Tryd.func25, Tryd.ntmps25
  go_wp2
  go_ret
  exact ⟨rfl, rfl⟩

theorem hold_any (t : Int) (w : World) : Calls Tryd.prog 18 #[.int .i64 t] w fun e w' => e = .returned (.int .i64 (hold t)) ∧ w = w' := by
  go_enter Tryd.func18, Tryd.ntmps18
  go_wp2_with (go_at_call 25; refine (never_any _).mono ?_; rintro e w' ⟨rfl, rfl⟩)
  all_goals go_ret
  all_goals exact ⟨ret_i (by unfold hold; repeat' split <;> omega), rfl⟩

theorem clamp_any (t : Int) (w : World) : Calls Tryd.prog 24 #[.int .i64 t] w fun e w' => e = .returned (.int .i64 (hold t)) ∧ w = w' := by
  go_enter Tryd.func24, Tryd.ntmps24
  go_wp2
  all_goals go_ret
  all_goals exact ⟨ret_i (by unfold hold; repeat' split <;> omega), rfl⟩

theorem add_any (t d : Int) (w : World) : Calls Tryd.prog 11 #[.int .i64 t, .int .i64 d] w fun e w' => e = .returned (.int .i64 (sadd t d)) ∧ w = w' := by
  have h1 := hold_bd t
  have h2 := hold_bd d
  go_enter Tryd.func11, Tryd.ntmps11
  go_wp2_with (go_at_call 24; refine (clamp_any _ _).mono ?_; rintro e w' ⟨rfl, rfl⟩)
  all_goals go_ret
  all_goals exact ⟨ret_i (by unfold sadd; split <;> omega), rfl⟩

theorem refAdd_any (t d : Int) (w : World) : Calls Tryd.prog 12 #[.int .i64 t, .int .i64 d] w fun e w' => e = .returned (.int .i64 (sadd t d)) ∧ w = w' := by
  have h1 := hold_bd t
  have h2 := hold_bd d
  go_enter Tryd.func12, Tryd.ntmps12
  go_wp2_with (first | (go_at_call 18; refine (hold_any _ _).mono ?_; rintro e w' ⟨rfl, rfl⟩) | (go_at_call 25; refine (never_any _).mono ?_; rintro e w' ⟨rfl, rfl⟩))
  all_goals go_ret
  all_goals exact ⟨ret_i (by unfold sadd; split <;> omega), rfl⟩

theorem elapsed_any (a b : Int) (w : World) : Calls Tryd.prog 13 #[.int .i64 a, .int .i64 b] w fun e w' => e = .returned (.int .i64 (hold (hold a - hold b))) ∧ w = w' := by
  have h1 := hold_bd a
  have h2 := hold_bd b
  go_enter Tryd.func13, Tryd.ntmps13
  go_wp2_with (go_at_call 24; refine (clamp_any _ _).mono ?_; rintro e w' ⟨rfl, rfl⟩)
  go_ret
  exact ⟨rfl, rfl⟩

theorem ago_any (a b : Int) (w : World) : Calls Tryd.prog 14 #[.int .i64 a, .int .i64 b] w fun e w' => e = .returned (.int .i64 (hold (hold a - hold b))) ∧ w = w' := by
  have h1 := hold_bd a
  have h2 := hold_bd b
  go_enter Tryd.func14, Tryd.ntmps14
  go_wp2_with (go_at_call 18; refine (hold_any _ _).mono ?_; rintro e w' ⟨rfl, rfl⟩)
  go_ret
  exact ⟨rfl, rfl⟩

theorem worth_w (s b n : Int) (h0 : 0 ≤ s) (h1 : s ≤ 4611686018427387904) (hb : 1 ≤ b) (hn : 0 ≤ n) (h : n ≤ (4611686018427387904 - s) / b) : wrap64 (s + wrap64 (b * n)) = worth s b n := by
  have h2 : n * b ≤ 4611686018427387904 - s := (Int.le_ediv_iff_mul_le (by omega)).1 h
  have h3 : 0 ≤ n * b := Int.mul_nonneg hn (by omega)
  rw [Int.mul_comm] at h2 h3
  rw [worth_ok s b n h0 hb (by omega), IntWalk.wrap64_in (b * n) (by omega), IntWalk.wrap64_in _ (by omega)]

theorem worth_any (s b n : Int) (w : World) (h0 : -1 ≤ s) (h1 : s ≤ 4611686018427387904) (hb : 1 ≤ b) (hb2 : b ≤ 86400) (hn : 0 ≤ n) (_hn2 : n ≤ 1000000000000000009) :
    Calls Tryd.prog 38 #[.int .i64 s, .int .i64 b, .int .i64 n] w fun e w' => e = .returned (.int .i64 (worth s b n)) ∧ w = w' := by
  go_enter Tryd.func38, Tryd.ntmps38
  go_wp2_with (go_at_call 25; refine (never_any _).mono ?_; rintro e w' ⟨rfl, rfl⟩)
  all_goals go_ret
  · exact ⟨ret_i (by unfold worth; rw [if_pos (by assumption)]), rfl⟩
  · rename_i h
    exact ⟨ret_i (worth_w s b n h.1 h1 hb hn h.2), rfl⟩
  · exact ⟨ret_i (by unfold worth; rw [if_pos (Or.inl (by assumption))]), rfl⟩

theorem then_ {w a b : World} (h : Below w.heap.size w a) (k : Below a.heap.size a b) : Below w.heap.size w b := h.trans (k.mono h.size)

theorem mk_app (a b : Bs) : (⟨a.toArray⟩ : ByteArray) ++ ⟨b.toArray⟩ = ⟨(a ++ b).toArray⟩ := by
  apply ByteArray.ext; simp
theorem ret_s {a b : ByteArray} (h : a = b) : Ending.returned (.string a) = .returned (.string b) := by rw [h]

theorem digit_back (n : Int) (w : World) (h0 : 0 ≤ n) (hn : n < 10) : (convert 43 9 (.slice (some ⟨w.heap.size, 0, none⟩) 1 1)).run Tryd.prog (w.alloc (.cells #[.int .u8 (48 + n)] 5)) = .ok (.string ⟨#[UInt8.ofNat (48 + n.toNat)]⟩) (w.alloc (.cells #[.int .u8 (48 + n)] 5)) :=
  run_convert_bytes_back (P := Tryd.prog) _ 43 9 5 ⟨w.heap.size, 0, none⟩ 1 [UInt8.ofNat (48 + n.toNat)] Tryd.underlying43 Tryd.underlying5 Tryd.underlying9 (fun j hj => by
    have : j = 0 := by simpa using hj
    subst this
    simp only [List.getElem_cons_zero]
    rw [ofNat_toNat (by omega), show ((48 + n.toNat : Nat) : Int) = 48 + n by omega]
    exact cell_one_new _ _ _ 0 _ rfl)

theorem len_dd (u : Nat) (h : u ≤ 4611686018427387904) : (decDigits u).length ≤ 19 := by
  rw [decDigits_length]
  have h19 : (10 : Nat) ^ 19 = 10000000000000000000 := by decide
  exact nDigits_le 19 u (by omega) (by rw [h19]; omega)

set_option maxRecDepth 100000 in
theorem refNum_small (n : Int) (w : World) (h0 : 0 ≤ n) (hn : n < 10) :
    Calls Tryd.prog 29 #[.int .i64 n] w fun e w' => e = .returned (.string ⟨(decDigits n.toNat).toArray⟩) ∧ Below w.heap.size w w' := by
  have hcv := digit_back n w h0 hn
  go_enter Tryd.func29, Tryd.ntmps29
  go_wp2_with fail
  go_ret
  exact ⟨ret_s (by rw [dd_small (by omega), UInt8.ofNat_add]; rfl), (Below.refl _ _).alloc (Nat.le_refl _) _⟩

set_option maxRecDepth 100000 in
theorem refNum_any (k : Nat) : ∀ (n : Int) (w : World), n ≤ k → 0 ≤ n → n ≤ 4611686018427387904 →
    Calls Tryd.prog 29 #[.int .i64 n] w fun e w' => e = .returned (.string ⟨(decDigits n.toNat).toArray⟩) ∧ Below w.heap.size w w' := by
  induction k with
  | zero => exact fun n w hk h0 _ => refNum_small n w h0 (by omega)
  | succ k ih =>
    intro n w hk h0 h1
    by_cases hn : n < 10
    · exact refNum_small n w h0 hn
    · have l1 := len_dd (n / 10).toNat (by omega)
      have l2 := len_dd (n % 10).toNat (by omega)
      go_enter Tryd.func29, Tryd.ntmps29
      go_wp2_with fail
      refine (ih _ _ (by omega) (by omega) (by omega)).mono ?_
      rintro e w1 ⟨rfl, hb1⟩
      go_wp2_with fail
      refine (ih _ _ (by omega) (by omega) (by omega)).mono ?_
      rintro e w2 ⟨rfl, hb2⟩
      go_wp2_with fail
      go_ret
      refine ⟨ret_s ?_, then_ hb1 hb2⟩
      rw [mk_app, dd_big (u := n.toNat) (by omega), show (n % 10).toNat = n.toNat % 10 by omega, show (n / 10).toNat = n.toNat / 10 by omega, dd_small (u := n.toNat % 10) (by omega)]

theorem num_any (n : Int) (w : World) (h0 : 0 ≤ n) (h1 : n ≤ 4611686018427387904) :
    Calls Tryd.prog 29 #[.int .i64 n] w fun e w' => e = .returned (.string ⟨(decDigits n.toNat).toArray⟩) ∧ Below w.heap.size w w' :=
  refNum_any n.toNat n w (by omega) h0 h1

theorem refTwo_any (n : Int) (w : World) (h0 : 0 ≤ n) (h1 : n < 100) :
    Calls Tryd.prog 30 #[.int .i64 n] w fun e w' => e = .returned (.string ⟨(two n.toNat).toArray⟩) ∧ Below w.heap.size w w' := by
  have l1 := len_dd (n / 10).toNat (by omega)
  have l2 := len_dd (n % 10).toNat (by omega)
  go_enter Tryd.func30, Tryd.ntmps30
  go_wp2_with fail
  refine (num_any _ _ (by omega) (by omega)).mono ?_
  rintro e w1 ⟨rfl, hb1⟩
  go_wp2_with fail
  refine (num_any _ _ (by omega) (by omega)).mono ?_
  rintro e w2 ⟨rfl, hb2⟩
  go_wp2_with fail
  go_ret
  refine ⟨ret_s ?_, then_ hb1 hb2⟩
  rw [mk_app, dd_small (u := (n / 10).toNat) (by omega), dd_small (u := (n % 10).toNat) (by omega)]
  unfold two
  rw [show (n % 10).toNat = n.toNat % 10 by omega, show (n / 10).toNat = n.toNat / 10 by omega]; rfl

end Go.Proofs.YtpndgjhednfpdaaDoor
