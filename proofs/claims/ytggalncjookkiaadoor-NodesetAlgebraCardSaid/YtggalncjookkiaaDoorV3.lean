/- The reference's Text: walk. -/
import Derived.Test.YtggalncjookkiaaDoorV1
import Derived.Test.YtggalncjookkiaaDoorV2a
namespace Go.Proofs.YtggalncjookkiaaDoor
open Go.RowKit Go.Lib Nds

theorem str_eq (b : ByteArray) (l : List UInt8) (h : b.data.toList = l) : Value.string b = .string ⟨l.toArray⟩ := by
  subst h; rfl

set_option maxRecDepth 100000 in
set_option maxHeartbeats 4000000 in
theorem rtext_any (A : Option Addr) (c n : Nat) (R : List (Nat × Nat)) (w : World) (hr : Rd w A n (ints' (elsR R))) (hv : RV 0 R) (hn : n ≤ 4096) :
    Calls Tryd.prog 31 #[.slice A n c] w fun e w' => e = .returned (.string ⟨(textR R).toArray⟩) ∧ Below w.heap.size w w' := by
  have HNL := Lib.hid hr.1
  go_enter Tryd.func31, Tryd.ntmps31
  go_wp2
  go_loopw [3, 4] (fun s i w' => ∃ R1 R2, R = R1 ++ R2 ∧ s = .string ⟨(textR R1).toArray⟩ ∧ i = .int .i64 ((elsR R1).length : Nat) ∧ Below w.heap.size w w') (fun _ i _ => n - (RowKit.intOf i).toNat)
  case atStart => exact ⟨[], R, rfl, rfl, rfl, Below.refl _ _⟩
  case round =>
    obtain ⟨R1, R2, hR, rfl, rfl, hb⟩ := hrel
    cases R2 with
    | nil =>
      rw [List.append_nil] at hR
      subst hR
      have he : n = (elsR R).length := by rw [HNL.out]; unfold ints'; rw [List.length_map]
      clear hr hv
      generalize (elsR R).length = a at he ⊢
      have h1 : decide (a < n) = false := by rw [decide_eq_false_iff_not]; omega
      go_wp2
      go_ret
      exact ⟨rfl, hb⟩
    | cons r R2 =>
      subst hR
      obtain ⟨g1, g2, g3⟩ := mid_inv hv
      have hlt := mid_len R1 R2 r g1
      have hat := fun j hj => mid_at R1 R2 r j hj g1
      have hnx := mid_next R1 R2 r hv
      have htl := mid_textlen (R1 := R1) (R2 := r :: R2) hv n hn HNL.out.symm
      have hsn := elsR_snoc R1 r g1
      have htx := textR_snoc R1 r
      have hd1 := dd_len r.1 (by omega)
      have hd2 := dd_len r.2 (by omega)
      rw [← HNL.out] at hlt hnx
      have HR : (R1 ++ r :: R2) = (R1 ++ [r]) ++ R2 := by simp
      unfold addRun runText at htx
      have HSN := Lib.hid hsn; clear hsn
      have HTX := Lib.hid htx; clear htx
      have HNX := Lib.hid hnx; clear hnx
      have HAT := Lib.hid hat; clear hat
      have HV := Lib.hid hv; clear hv
      have HRD := Lib.hid hr; clear hr
      generalize hxs : ints' (elsR (R1 ++ r :: R2)) = xs at HNL HNX HAT HRD
      have HX := Lib.hid hxs; clear hxs
      generalize haa : (elsR R1).length = a at hlt HSN HNX HAT ⊢
      have HA := Lib.hid haa; clear haa
      generalize hSS : textR R1 = S at HTX htl ⊢
      have HS := Lib.hid hSS; clear hSS
      obtain ⟨lo, hi⟩ := r
      simp only at g1 g2 g3 hlt hd1 hd2 HSN HTX HNX HAT
      obtain ⟨d, rfl⟩ : ∃ d, hi = lo + d := ⟨hi - lo, by omega⟩
      have hdd : lo + d - lo = d := by omega
      rw [hdd] at hlt HSN HNX HAT
      have h1 : decide (a < n) = true := by rw [decide_eq_true_iff]; omega
      go_wp2_with fail
      go_loopw [5] (fun k w' => ∃ j : Nat, k = .int .i64 ((a + j : Nat) : Int) ∧ j ≤ d ∧ Below w.heap.size w w') (fun k _ => n - (RowKit.intOf k).toNat)
      case atStart => exact ⟨0, rfl, by omega, hb⟩
      case round =>
        obtain ⟨j, rfl, hj, hb1⟩ := hrel
        clear hb
        obtain ⟨ad, rfl, hc⟩ := (HRD.out.below hb1).at_ (k := a + j) (by omega)
        rw [HAT.out j hj] at hc
        have hz1 := hb1.size
        have kj := Nat.le_trans (show a + j ≤ a + d by omega) (Nat.le_of_lt hlt)
        have i1 : a + j < n := by omega
        by_cases hjd : j < d
        · obtain ⟨ad2, e2, hc2⟩ := (HRD.out.below hb1).at_ (k := a + j + 1) (by omega)
          cases e2
          rw [show a + j + 1 = a + (j + 1) by omega, HAT.out (j + 1) (by omega), show a + (j + 1) = a + j + 1 by omega, show ((lo + (j + 1) : Nat) : Int) = ((lo + j : Nat) : Int) + 1 by omega] at hc2
          have i2 : a + j + 1 < n := by omega
          have i5 : lo + j < 4096 := by omega
          have ek : ∃ k, k = a + j := ⟨_, rfl⟩
          obtain ⟨k, ek⟩ := ek
          rw [← ek] at i1 i2 hc hc2 ⊢
          have EK := Lib.hid ek; clear ek
          generalize lo + j = v at hc hc2 i5
          have w1 : IntKind.i64.wrap ((k : Int) + 1) = ((k + 1 : Nat) : Int) := by rw [IntKind.wrap_i64]; omega
          generalize hk1 : k + 1 = k' at w1 i2 hc2
          have i3 : decide (k' < n) = true := by rw [decide_eq_true_iff]; omega
          have HK1 := Lib.hid hk1; clear hk1
          have w2 : IntKind.i64.wrap ((v : Int) + 1) = (v : Int) + 1 := by rw [IntKind.wrap_i64]; omega
          clear hlt kj h1
          go_wp2
          go_quiet (fail)
          go_wp2
          go_roundw
          case rel => exact ⟨j + 1, by rw [← HK1.out, EK.out, Nat.add_assoc], by omega, below_drewN hb1 _⟩
          case measure => have m1 := HK1.out; have m2 := EK.out; simp [RowKit.intOf]; omega
        · obtain rfl : j = d := by omega
          have ek : ∃ k, k = a + j := ⟨_, rfl⟩
          obtain ⟨k, ek⟩ := ek
          rw [← ek] at i1 hc ⊢
          have i6 : a ≤ k := by omega
          obtain ⟨_, e0, hc0⟩ := (HRD.out.below hb1).at_ (k := a) (by omega)
          cases e0
          have hv0 := HAT.out 0 (by omega)
          rw [Nat.add_zero, Nat.add_zero] at hv0
          rw [hv0] at hc0
          clear hv0
          have i7 : a < n := by omega
          have hnx : k + 1 < n → ((lo + j : Nat) : Int) + 1 < xs.getD (k + 1) 0 := by rw [ek]; exact HNX.out
          have hcn : k + 1 < n → wr.cell? (ad.add (k + 1)) = some (.int .i64 (xs.getD (k + 1) 0)) := fun hk => by
            obtain ⟨_, e1, h⟩ := (HRD.out.below hb1).at_ (k := k + 1) hk
            cases e1
            exact h
          have EK := Lib.hid ek; clear ek
          generalize xs.getD (k + 1) 0 = y at hnx hcn
          have w1 : IntKind.i64.wrap ((k : Int) + 1) = ((k + 1 : Nat) : Int) := by rw [IntKind.wrap_i64]; omega
          generalize hk1 : k + 1 = k' at w1 hnx hcn
          have HK1 := Lib.hid hk1; clear hk1
          have HG := Lib.hid (show lo + j < 4096 from g2); clear g2
          generalize hvv : lo + j = v at hc hnx HG HSN HTX hd2
          have HVV := Lib.hid hvv; clear hvv
          have w2 : IntKind.i64.wrap ((v : Int) + 1) = ((v + 1 : Nat) : Int) := by have := HG.out; rw [IntKind.wrap_i64]; omega
          generalize hv1 : v + 1 = v' at w2
          have HV1 := Lib.hid hv1; clear hv1
          clear hlt kj h1 hjd hj g1 g3
          by_cases hk' : k' < n
          · have hcm := hcn hk'
            have hny : (y == (v' : Int)) = false := by have := hnx hk'; have := HV1.out; rw [beq_eq_false_iff_ne]; omega
            clear hnx hcn
            have i3 : decide (k' < n) = true := by rw [decide_eq_true_iff]; omega
            go_wp2
            go_quiet (fail)
            rcases S with _ | ⟨s0, S'⟩
            · go_wp2_with fail
              refine (digits_any lo (by have := HG.out; have := HVV.out; omega) _).mono ?_
              rintro e _ ⟨rfl, m1, rfl⟩
              by_cases hj0 : j = 0
              · have i8 : decide (a < k) = false := by have := EK.out; rw [decide_eq_false_iff_not]; omega
                go_wp2_with fail
                go_roundw
                case rel =>
                  refine ⟨R1 ++ [(lo, v)], R2, by rw [HR, HVV.out], str_eq _ _ ?_, ?_, below_drewN hb1 _⟩
                  · have hlv : lo = v := (by have := HVV.out; omega); rw [HTX.out]; simp [hlv, ByteArray.data_append]
                  · rw [HSN.out, ← HK1.out, EK.out]
                case measure => have m1 := HK1.out; simp [RowKit.intOf]; omega
              · have i8 : decide (a < k) = true := by have := EK.out; rw [decide_eq_true_iff]; omega
                go_wp2_with fail
                refine (digits_any v (by have := HG.out; omega) _).mono ?_
                rintro e _ ⟨rfl, m2, rfl⟩
                go_wp2_with fail
                go_roundw
                case rel =>
                  refine ⟨R1 ++ [(lo, v)], R2, by rw [HR, HVV.out], str_eq _ _ ?_, ?_, below_drewN hb1 _⟩
                  · have hlv : ¬ lo = v := (by have := HVV.out; omega); rw [HTX.out]; simp [hlv, ByteArray.data_append]
                  · rw [HSN.out, ← HK1.out, EK.out]
                case measure => have m1 := HK1.out; simp [RowKit.intOf]; omega
            · have hS2 : S'.length ≤ 40959 := by simp at htl; omega
              clear htl
              go_wp2_with fail
              refine (digits_any lo (by have := HG.out; have := HVV.out; omega) _).mono ?_
              rintro e _ ⟨rfl, m1, rfl⟩
              by_cases hj0 : j = 0
              · have i8 : decide (a < k) = false := by have := EK.out; rw [decide_eq_false_iff_not]; omega
                go_wp2_with fail
                go_roundw
                case rel =>
                  refine ⟨R1 ++ [(lo, v)], R2, by rw [HR, HVV.out], str_eq _ _ ?_, ?_, below_drewN hb1 _⟩
                  · have hlv : lo = v := (by have := HVV.out; omega); rw [HTX.out]; simp [hlv, ByteArray.data_append]
                  · rw [HSN.out, ← HK1.out, EK.out]
                case measure => have m1 := HK1.out; simp [RowKit.intOf]; omega
              · have i8 : decide (a < k) = true := by have := EK.out; rw [decide_eq_true_iff]; omega
                go_wp2_with fail
                refine (digits_any v (by have := HG.out; omega) _).mono ?_
                rintro e _ ⟨rfl, m2, rfl⟩
                go_wp2_with fail
                go_roundw
                case rel =>
                  refine ⟨R1 ++ [(lo, v)], R2, by rw [HR, HVV.out], str_eq _ _ ?_, ?_, below_drewN hb1 _⟩
                  · have hlv : ¬ lo = v := (by have := HVV.out; omega); rw [HTX.out]; simp [hlv, ByteArray.data_append]
                  · rw [HSN.out, ← HK1.out, EK.out]
                case measure => have m1 := HK1.out; simp [RowKit.intOf]; omega
          · clear hnx hcn
            have i3 : decide (k' < n) = false := by rw [decide_eq_false_iff_not]; omega
            go_wp2
            go_quiet (fail)
            rcases S with _ | ⟨s0, S'⟩
            · go_wp2_with fail
              refine (digits_any lo (by have := HG.out; have := HVV.out; omega) _).mono ?_
              rintro e _ ⟨rfl, m1, rfl⟩
              by_cases hj0 : j = 0
              · have i8 : decide (a < k) = false := by have := EK.out; rw [decide_eq_false_iff_not]; omega
                go_wp2_with fail
                go_roundw
                case rel =>
                  refine ⟨R1 ++ [(lo, v)], R2, by rw [HR, HVV.out], str_eq _ _ ?_, ?_, below_drewN hb1 _⟩
                  · have hlv : lo = v := (by have := HVV.out; omega); rw [HTX.out]; simp [hlv, ByteArray.data_append]
                  · rw [HSN.out, ← HK1.out, EK.out]
                case measure => have m1 := HK1.out; simp [RowKit.intOf]; omega
              · have i8 : decide (a < k) = true := by have := EK.out; rw [decide_eq_true_iff]; omega
                go_wp2_with fail
                refine (digits_any v (by have := HG.out; omega) _).mono ?_
                rintro e _ ⟨rfl, m2, rfl⟩
                go_wp2_with fail
                go_roundw
                case rel =>
                  refine ⟨R1 ++ [(lo, v)], R2, by rw [HR, HVV.out], str_eq _ _ ?_, ?_, below_drewN hb1 _⟩
                  · have hlv : ¬ lo = v := (by have := HVV.out; omega); rw [HTX.out]; simp [hlv, ByteArray.data_append]
                  · rw [HSN.out, ← HK1.out, EK.out]
                case measure => have m1 := HK1.out; simp [RowKit.intOf]; omega
            · have hS2 : S'.length ≤ 40959 := by simp at htl; omega
              clear htl
              go_wp2_with fail
              refine (digits_any lo (by have := HG.out; have := HVV.out; omega) _).mono ?_
              rintro e _ ⟨rfl, m1, rfl⟩
              by_cases hj0 : j = 0
              · have i8 : decide (a < k) = false := by have := EK.out; rw [decide_eq_false_iff_not]; omega
                go_wp2_with fail
                go_roundw
                case rel =>
                  refine ⟨R1 ++ [(lo, v)], R2, by rw [HR, HVV.out], str_eq _ _ ?_, ?_, below_drewN hb1 _⟩
                  · have hlv : lo = v := (by have := HVV.out; omega); rw [HTX.out]; simp [hlv, ByteArray.data_append]
                  · rw [HSN.out, ← HK1.out, EK.out]
                case measure => have m1 := HK1.out; simp [RowKit.intOf]; omega
              · have i8 : decide (a < k) = true := by have := EK.out; rw [decide_eq_true_iff]; omega
                go_wp2_with fail
                refine (digits_any v (by have := HG.out; omega) _).mono ?_
                rintro e _ ⟨rfl, m2, rfl⟩
                go_wp2_with fail
                go_roundw
                case rel =>
                  refine ⟨R1 ++ [(lo, v)], R2, by rw [HR, HVV.out], str_eq _ _ ?_, ?_, below_drewN hb1 _⟩
                  · have hlv : ¬ lo = v := (by have := HVV.out; omega); rw [HTX.out]; simp [hlv, ByteArray.data_append]
                  · rw [HSN.out, ← HK1.out, EK.out]
                case measure => have m1 := HK1.out; simp [RowKit.intOf]; omega

end Go.Proofs.YtggalncjookkiaaDoor
