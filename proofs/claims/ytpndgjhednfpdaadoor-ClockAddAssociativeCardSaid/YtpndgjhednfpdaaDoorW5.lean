/- The reference's durations and readers. -/
import Derived.Test.YtpndgjhednfpdaaDoorW4
namespace Go.Proofs.YtpndgjhednfpdaaDoor
open Go.RowKit Go.Lib Go.Sort Clk

theorem app_ne (x : ByteArray) (c : UInt8) : (x ++ ⟨#[c]⟩).toList.isEmpty = false := by
  rw [toList_data]
  simp

theorem jc32 (x y : Bs) (r : List Bs) : join (x :: y :: r) [32] = x ++ ([32] ++ join (y :: r) [32]) := by
  rw [join_cons, join_cons]; simp [joinTail]

set_option maxRecDepth 100000 in
set_option maxHeartbeats 1000000 in
theorem refSpan_hms (t : Int) (w : World) (hq1 : (hold t == 4611686018427387904) = false) (a : 3600 ≤ hold t) (b : 0 < hold t % 3600 / 60) (c : 0 < hold t % 60) :
    Calls Tryd.prog 22 #[.int .i64 t] w fun e w' => e = .returned (.string ⟨(span (hold t).toNat).toArray⟩) ∧ Below w.heap.size w w' := by
  have hb := hold_bd t
  have l1 := len_dd (hold t / 3600).toNat (by omega)
  have l2 := len_dd (hold t % 3600 / 60).toNat (by omega)
  have l3 := len_dd (hold t % 60).toNat (by omega)
  have n1 := fun x => app_ne x 104
  have n2 := fun x => app_ne x 109
  go_enter Tryd.func22, Tryd.ntmps22
  go_wp2_with (first | (go_at_call 18; refine (hold_any _ _).mono ?_; rintro e w' ⟨rfl, rfl⟩) | (go_at_call 25; refine (never_any _).mono ?_; rintro e w' ⟨rfl, rfl⟩))
  refine (num_any _ _ (by omega) (by omega)).mono ?_
  rintro e w1 ⟨rfl, b1⟩
  go_wp2_with fail
  refine (num_any _ _ (by omega) (by omega)).mono ?_
  rintro e w2 ⟨rfl, b2⟩
  go_wp2_with fail
  refine (num_any _ _ (by omega) (by omega)).mono ?_
  rintro e w3 ⟨rfl, b3⟩
  go_wp2_with fail
  go_ret
  refine ⟨ret_s ?_, (then_ (then_ b1 b2) b3)⟩
  have hq2 : hold t ≠ 4611686018427387904 := by simpa using hq1
  have a' : 0 < (hold t).toNat / 3600 := by omega
  have b' : 0 < (hold t).toNat % 3600 / 60 := by omega
  have c' : 0 < (hold t).toNat % 60 := by omega
  rw [show (hold t / 3600).toNat = (hold t).toNat / 3600 by omega, show (hold t % 3600 / 60).toNat = (hold t).toNat % 3600 / 60 by omega, show (hold t % 60).toNat = (hold t).toNat % 60 by omega]
  unfold span parts
  rw [if_neg (by omega), if_neg (by omega)]
  apply ByteArray.ext
  simp [a', b', c', jc32, join_one]

set_option maxRecDepth 100000 in
set_option maxHeartbeats 1000000 in
theorem refSpan_hm (t : Int) (w : World) (hq1 : (hold t == 4611686018427387904) = false) (a : 3600 ≤ hold t) (b : 0 < hold t % 3600 / 60) (c : hold t % 60 ≤ 0) (d : (hold t == 0) = false) :
    Calls Tryd.prog 22 #[.int .i64 t] w fun e w' => e = .returned (.string ⟨(span (hold t).toNat).toArray⟩) ∧ Below w.heap.size w w' := by
  have hb := hold_bd t
  have l1 := len_dd (hold t / 3600).toNat (by omega)
  have l2 := len_dd (hold t % 3600 / 60).toNat (by omega)
  have l3 := len_dd (hold t % 60).toNat (by omega)
  have n1 := fun x => app_ne x 104
  have n2 := fun x => app_ne x 109
  go_enter Tryd.func22, Tryd.ntmps22
  go_wp2_with (first | (go_at_call 18; refine (hold_any _ _).mono ?_; rintro e w' ⟨rfl, rfl⟩) | (go_at_call 25; refine (never_any _).mono ?_; rintro e w' ⟨rfl, rfl⟩))
  refine (num_any _ _ (by omega) (by omega)).mono ?_
  rintro e w1 ⟨rfl, b1⟩
  go_wp2_with fail
  refine (num_any _ _ (by omega) (by omega)).mono ?_
  rintro e w2 ⟨rfl, b2⟩
  go_wp2_with fail
  go_ret
  refine ⟨ret_s ?_, (then_ b1 b2)⟩
  have hq2 : hold t ≠ 4611686018427387904 := by simpa using hq1
  have a' : 0 < (hold t).toNat / 3600 := by omega
  have b' : 0 < (hold t).toNat % 3600 / 60 := by omega
  have c' : ¬ 0 < (hold t).toNat % 60 := by omega
  rw [show (hold t / 3600).toNat = (hold t).toNat / 3600 by omega, show (hold t % 3600 / 60).toNat = (hold t).toNat % 3600 / 60 by omega]
  unfold span parts
  rw [if_neg (by omega), if_neg (by omega)]
  apply ByteArray.ext
  simp [a', b', c', jc32, join_one]

set_option maxRecDepth 100000 in
set_option maxHeartbeats 1000000 in
theorem refSpan_hs (t : Int) (w : World) (hq1 : (hold t == 4611686018427387904) = false) (a : 3600 ≤ hold t) (b : hold t % 3600 / 60 ≤ 0) (c : 0 < hold t % 60) :
    Calls Tryd.prog 22 #[.int .i64 t] w fun e w' => e = .returned (.string ⟨(span (hold t).toNat).toArray⟩) ∧ Below w.heap.size w w' := by
  have hb := hold_bd t
  have l1 := len_dd (hold t / 3600).toNat (by omega)
  have l2 := len_dd (hold t % 3600 / 60).toNat (by omega)
  have l3 := len_dd (hold t % 60).toNat (by omega)
  have n1 := fun x => app_ne x 104
  have n2 := fun x => app_ne x 109
  go_enter Tryd.func22, Tryd.ntmps22
  go_wp2_with (first | (go_at_call 18; refine (hold_any _ _).mono ?_; rintro e w' ⟨rfl, rfl⟩) | (go_at_call 25; refine (never_any _).mono ?_; rintro e w' ⟨rfl, rfl⟩))
  refine (num_any _ _ (by omega) (by omega)).mono ?_
  rintro e w1 ⟨rfl, b1⟩
  go_wp2_with fail
  refine (num_any _ _ (by omega) (by omega)).mono ?_
  rintro e w2 ⟨rfl, b2⟩
  go_wp2_with fail
  go_ret
  refine ⟨ret_s ?_, (then_ b1 b2)⟩
  have hq2 : hold t ≠ 4611686018427387904 := by simpa using hq1
  have a' : 0 < (hold t).toNat / 3600 := by omega
  have b' : ¬ 0 < (hold t).toNat % 3600 / 60 := by omega
  have c' : 0 < (hold t).toNat % 60 := by omega
  rw [show (hold t / 3600).toNat = (hold t).toNat / 3600 by omega, show (hold t % 60).toNat = (hold t).toNat % 60 by omega]
  unfold span parts
  rw [if_neg (by omega), if_neg (by omega)]
  apply ByteArray.ext
  simp [a', b', c', jc32, join_one]

set_option maxRecDepth 100000 in
set_option maxHeartbeats 1000000 in
theorem refSpan_h (t : Int) (w : World) (hq1 : (hold t == 4611686018427387904) = false) (a : 3600 ≤ hold t) (b : hold t % 3600 / 60 ≤ 0) (c : hold t % 60 ≤ 0) (d : (hold t == 0) = false) :
    Calls Tryd.prog 22 #[.int .i64 t] w fun e w' => e = .returned (.string ⟨(span (hold t).toNat).toArray⟩) ∧ Below w.heap.size w w' := by
  have hb := hold_bd t
  have l1 := len_dd (hold t / 3600).toNat (by omega)
  have l2 := len_dd (hold t % 3600 / 60).toNat (by omega)
  have l3 := len_dd (hold t % 60).toNat (by omega)
  have n1 := fun x => app_ne x 104
  have n2 := fun x => app_ne x 109
  go_enter Tryd.func22, Tryd.ntmps22
  go_wp2_with (first | (go_at_call 18; refine (hold_any _ _).mono ?_; rintro e w' ⟨rfl, rfl⟩) | (go_at_call 25; refine (never_any _).mono ?_; rintro e w' ⟨rfl, rfl⟩))
  refine (num_any _ _ (by omega) (by omega)).mono ?_
  rintro e w1 ⟨rfl, b1⟩
  go_wp2_with fail
  go_ret
  refine ⟨ret_s ?_, b1⟩
  have hq2 : hold t ≠ 4611686018427387904 := by simpa using hq1
  have a' : 0 < (hold t).toNat / 3600 := by omega
  have b' : ¬ 0 < (hold t).toNat % 3600 / 60 := by omega
  have c' : ¬ 0 < (hold t).toNat % 60 := by omega
  rw [show (hold t / 3600).toNat = (hold t).toNat / 3600 by omega]
  unfold span parts
  rw [if_neg (by omega), if_neg (by omega)]
  apply ByteArray.ext
  simp [a', b', c', join_one]

set_option maxRecDepth 100000 in
set_option maxHeartbeats 1000000 in
theorem refSpan_ms (t : Int) (w : World) (hq1 : (hold t == 4611686018427387904) = false) (a : hold t < 3600) (b : 0 < hold t % 3600 / 60) (c : 0 < hold t % 60) :
    Calls Tryd.prog 22 #[.int .i64 t] w fun e w' => e = .returned (.string ⟨(span (hold t).toNat).toArray⟩) ∧ Below w.heap.size w w' := by
  have hb := hold_bd t
  have l1 := len_dd (hold t / 3600).toNat (by omega)
  have l2 := len_dd (hold t % 3600 / 60).toNat (by omega)
  have l3 := len_dd (hold t % 60).toNat (by omega)
  have n1 := fun x => app_ne x 104
  have n2 := fun x => app_ne x 109
  go_enter Tryd.func22, Tryd.ntmps22
  go_wp2_with (first | (go_at_call 18; refine (hold_any _ _).mono ?_; rintro e w' ⟨rfl, rfl⟩) | (go_at_call 25; refine (never_any _).mono ?_; rintro e w' ⟨rfl, rfl⟩))
  refine (num_any _ _ (by omega) (by omega)).mono ?_
  rintro e w1 ⟨rfl, b1⟩
  go_wp2_with fail
  refine (num_any _ _ (by omega) (by omega)).mono ?_
  rintro e w2 ⟨rfl, b2⟩
  go_wp2_with fail
  go_ret
  refine ⟨ret_s ?_, (then_ b1 b2)⟩
  have hq2 : hold t ≠ 4611686018427387904 := by simpa using hq1
  have a' : ¬ 0 < (hold t).toNat / 3600 := by omega
  have b' : 0 < (hold t).toNat % 3600 / 60 := by omega
  have c' : 0 < (hold t).toNat % 60 := by omega
  rw [show (hold t % 3600 / 60).toNat = (hold t).toNat % 3600 / 60 by omega, show (hold t % 60).toNat = (hold t).toNat % 60 by omega]
  unfold span parts
  rw [if_neg (by omega), if_neg (by omega)]
  apply ByteArray.ext
  simp [a', b', c', jc32, join_one]

set_option maxRecDepth 100000 in
set_option maxHeartbeats 1000000 in
theorem refSpan_m (t : Int) (w : World) (hq1 : (hold t == 4611686018427387904) = false) (a : hold t < 3600) (b : 0 < hold t % 3600 / 60) (c : hold t % 60 ≤ 0) (d : (hold t == 0) = false) :
    Calls Tryd.prog 22 #[.int .i64 t] w fun e w' => e = .returned (.string ⟨(span (hold t).toNat).toArray⟩) ∧ Below w.heap.size w w' := by
  have hb := hold_bd t
  have l1 := len_dd (hold t / 3600).toNat (by omega)
  have l2 := len_dd (hold t % 3600 / 60).toNat (by omega)
  have l3 := len_dd (hold t % 60).toNat (by omega)
  have n1 := fun x => app_ne x 104
  have n2 := fun x => app_ne x 109
  go_enter Tryd.func22, Tryd.ntmps22
  go_wp2_with (first | (go_at_call 18; refine (hold_any _ _).mono ?_; rintro e w' ⟨rfl, rfl⟩) | (go_at_call 25; refine (never_any _).mono ?_; rintro e w' ⟨rfl, rfl⟩))
  refine (num_any _ _ (by omega) (by omega)).mono ?_
  rintro e w1 ⟨rfl, b1⟩
  go_wp2_with fail
  go_ret
  refine ⟨ret_s ?_, b1⟩
  have hq2 : hold t ≠ 4611686018427387904 := by simpa using hq1
  have a' : ¬ 0 < (hold t).toNat / 3600 := by omega
  have b' : 0 < (hold t).toNat % 3600 / 60 := by omega
  have c' : ¬ 0 < (hold t).toNat % 60 := by omega
  rw [show (hold t % 3600 / 60).toNat = (hold t).toNat % 3600 / 60 by omega]
  unfold span parts
  rw [if_neg (by omega), if_neg (by omega)]
  apply ByteArray.ext
  simp [a', b', c', join_one]

set_option maxRecDepth 100000 in
set_option maxHeartbeats 1000000 in
theorem refSpan_s (t : Int) (w : World) (hq1 : (hold t == 4611686018427387904) = false) (a : hold t < 3600) (b : hold t % 3600 / 60 ≤ 0) (c : 0 < hold t % 60) :
    Calls Tryd.prog 22 #[.int .i64 t] w fun e w' => e = .returned (.string ⟨(span (hold t).toNat).toArray⟩) ∧ Below w.heap.size w w' := by
  have hb := hold_bd t
  have l1 := len_dd (hold t / 3600).toNat (by omega)
  have l2 := len_dd (hold t % 3600 / 60).toNat (by omega)
  have l3 := len_dd (hold t % 60).toNat (by omega)
  have n1 := fun x => app_ne x 104
  have n2 := fun x => app_ne x 109
  go_enter Tryd.func22, Tryd.ntmps22
  go_wp2_with (first | (go_at_call 18; refine (hold_any _ _).mono ?_; rintro e w' ⟨rfl, rfl⟩) | (go_at_call 25; refine (never_any _).mono ?_; rintro e w' ⟨rfl, rfl⟩))
  refine (num_any _ _ (by omega) (by omega)).mono ?_
  rintro e w1 ⟨rfl, b1⟩
  go_wp2_with fail
  go_ret
  refine ⟨ret_s ?_, b1⟩
  have hq2 : hold t ≠ 4611686018427387904 := by simpa using hq1
  have a' : ¬ 0 < (hold t).toNat / 3600 := by omega
  have b' : ¬ 0 < (hold t).toNat % 3600 / 60 := by omega
  have c' : 0 < (hold t).toNat % 60 := by omega
  rw [show (hold t % 60).toNat = (hold t).toNat % 60 by omega]
  unfold span parts
  rw [if_neg (by omega), if_neg (by omega)]
  apply ByteArray.ext
  simp [a', b', c', join_one]

set_option maxRecDepth 100000 in
set_option maxHeartbeats 1000000 in
theorem refSpan_z (t : Int) (w : World) (hq1 : (hold t == 4611686018427387904) = false) (a : hold t < 3600) (b : hold t % 3600 / 60 ≤ 0) (c : hold t % 60 ≤ 0) (d : (hold t == 0) = true) :
    Calls Tryd.prog 22 #[.int .i64 t] w fun e w' => e = .returned (.string ⟨(span (hold t).toNat).toArray⟩) ∧ Below w.heap.size w w' := by
  have hb := hold_bd t
  have l1 := len_dd (hold t / 3600).toNat (by omega)
  have l2 := len_dd (hold t % 3600 / 60).toNat (by omega)
  have l3 := len_dd (hold t % 60).toNat (by omega)
  have n1 := fun x => app_ne x 104
  have n2 := fun x => app_ne x 109
  go_enter Tryd.func22, Tryd.ntmps22
  go_wp2_with (first | (go_at_call 18; refine (hold_any _ _).mono ?_; rintro e w' ⟨rfl, rfl⟩) | (go_at_call 25; refine (never_any _).mono ?_; rintro e w' ⟨rfl, rfl⟩))
  refine (num_any _ _ (by omega) (by omega)).mono ?_
  rintro e w1 ⟨rfl, b1⟩
  go_wp2_with fail
  go_ret
  refine ⟨ret_s ?_, b1⟩
  have h0 : hold t = 0 := by simpa using d
  rw [h0]
  show _ = (⟨([48, 115] : Bs).toArray⟩ : ByteArray)
  rw [show ((0 : Int) % 60).toNat = 0 by decide, dd_small (by omega)]; rfl

theorem refSpan_never (t : Int) (w : World) (h : hold t = 4611686018427387904) :
    Calls Tryd.prog 22 #[.int .i64 t] w fun e w' => e = .returned (.string ⟨(span (hold t).toNat).toArray⟩) ∧ Below w.heap.size w w' := by
  have H := Lib.hid h; clear h
  have hbeq : (hold t == 4611686018427387904) = true := by rw [H.out]; rfl
  go_enter Tryd.func22, Tryd.ntmps22
  go_wp2_with (first | (go_at_call 18; refine (hold_any _ _).mono ?_; rintro e w' ⟨rfl, rfl⟩) | (go_at_call 25; refine (never_any _).mono ?_; rintro e w' ⟨rfl, rfl⟩))
  go_ret
  exact ⟨ret_s (by unfold span; rw [H.out]; rfl), Below.refl _ _⟩

theorem refSpan_any (t : Int) (w : World) :
    Calls Tryd.prog 22 #[.int .i64 t] w fun e w' => e = .returned (.string ⟨(span (hold t).toNat).toArray⟩) ∧ Below w.heap.size w w' := by
  have hb := hold_bd t
  by_cases h1 : hold t = 4611686018427387904
  · exact refSpan_never t w h1
  · have hq1 : (hold t == 4611686018427387904) = false := by simpa using h1
    by_cases a : 3600 ≤ hold t <;> by_cases b : 0 < hold t % 3600 / 60 <;> by_cases c : 0 < hold t % 60
    · exact refSpan_hms t w hq1 a b c
    · exact refSpan_hm t w hq1 a b (by omega) (by rw [beq_eq_false_iff_ne]; omega)
    · exact refSpan_hs t w hq1 a (by omega) c
    · exact refSpan_h t w hq1 a (by omega) (by omega) (by rw [beq_eq_false_iff_ne]; omega)
    · exact refSpan_ms t w hq1 (by omega) b c
    · exact refSpan_m t w hq1 (by omega) b (by omega) (by rw [beq_eq_false_iff_ne]; omega)
    · exact refSpan_s t w hq1 (by omega) (by omega) c
    · exact refSpan_z t w hq1 (by omega) (by omega) (by omega) (by rw [beq_iff_eq]; omega)

end Go.Proofs.YtpndgjhednfpdaaDoor
