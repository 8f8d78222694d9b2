/- The code: Reader.Int. -/
import Derived.Test.YtmmfkepkdmmmkaaK2
import Derived.Lib.VarintBits
set_option linter.unusedVariables false
set_option linter.unusedSimpArgs false
namespace Go.Proofs.Ytmmfkepkdmmmkaa
open Go.RowKit Go.Lib Wr

theorem pow_cast {k P : Nat} (h : 128 ^ k = P) : (2 : Int) ^ (k * 7) = (P : Int) := by
  rw [← h, Nat.mul_comm, show (128 : Nat) = 2 ^ 7 from by decide, ← Nat.pow_mul]
  simp
theorem or_join {k P U M d : Nat} (hk : k ≤ 9) (hP : 128 ^ k = P) (hU : U < P) (hM : M = P * d) (hl : M < 18446744073709551616) : bits .or .u64 (U : Int) (M : Int) = (U : Int) + (M : Int) := by
  have hp := pow_cast hP
  have hPb : P ≤ 9223372036854775808 := hP ▸ pow128 hk
  refine bits_join_low .u64 64 (by decide) wraps_u64 (k * 7) (U : Int) (M : Int) (by omega) (by rw [hp]; omega) (by omega) (by omega) ?_ (by omega)
  rw [hp, hM]
  simp

theorem cint_dead (g lo hi : Nat) (e : Nat) (w : World) (H : RdP w g lo hi (.dead e)) : Calls Try.prog 27 #[.pointer (some ⟨g, 0, none⟩)] w fun r w' => r = .returned (.int .i64 0) ∧ RdP w' g lo hi (.dead e) ∧ Chg (Iv lo hi) w w' := by
  have H' := Lib.hid H
  obtain ⟨v, e', h1, _, _, _, rfl, h0, rfl⟩ := H
  obtain ⟨c0, c1, f0, f1⟩ := two_cells h1
  clear h1
  go_enter Try.func27, Try.ntmps27
  go_wp2_with fail
  go_loop [3, 11] (fun u i => u = .int .u64 0 ∧ i = .int .i64 0) (fun _ i => 0)
  case atStart => exact ⟨rfl, rfl⟩
  case round =>
    obtain ⟨rfl, rfl⟩ := hrel
    go_wp2_with fail
    refine (fail_dead g lo hi e 11 w H'.out).mono ?_
    rintro r w1 ⟨⟨u1, rfl⟩, H1, k1⟩
    have H1' := Lib.hid H1
    clear H1
    go_wp2
    go_ret
    exact ⟨rfl, H1'.out, k1⟩

set_option maxRecDepth 20000 in
set_option maxHeartbeats 4000000 in
theorem cint_live (g lo hi : Nat) (b : Bs) (w : World) (H : RdP w g lo hi (.live b)) (hb : b.length ≤ 100000) : Calls Try.prog 27 #[.pointer (some ⟨g, 0, none⟩)] w fun r w' => r = .returned (.int .i64 (rdInt (.live b)).1) ∧ RdP w' g lo hi (rdInt (.live b)).2 ∧ Chg (Iv lo hi) w w' := by
  have H' := Lib.hid H
  obtain ⟨v, e', h1, _, _, _, rfl, hR, hlow⟩ := H
  obtain ⟨A, cap, rfl⟩ := hR.form
  obtain ⟨c0, c1, f0, f1⟩ := two_cells h1
  have hR' := Lib.hid hR
  clear h1 hR hlow
  go_enter Try.func27, Try.ntmps27
  go_wp2_with fail
  go_loop [3, 11] (fun u i => ∃ k U P : Nat, i = .int .i64 (k : Int) ∧ k ≤ 9 ∧ u = .int .u64 (U : Int) ∧ U < P ∧ 128 ^ k = P ∧ k ≤ b.length ∧ dec 0 b = decS k U (b.drop k)) (fun _ i => 10 - (intOf i).toNat)
  case atStart => exact ⟨0, 0, 1, rfl, by omega, rfl, by omega, rfl, by omega, by rw [List.drop_zero, decS_zero]⟩
  case round =>
    obtain ⟨k, U, P, rfl, hk, rfl, hU, hP, hkl, hd⟩ := hrel
    by_cases hlt : k < b.length
    · obtain ⟨c, hc⟩ : ∃ c, b[k]? = some c := ⟨_, List.getElem?_eq_getElem hlt⟩
      obtain ⟨ad, rfl, d0⟩ := hR'.out.at_ hc
      rw [drop_at hc] at hd
      have e1 : (k : Int) < (b.length : Int) := by omega
      have e2 : (0 : Int) ≤ (k : Int) := by omega
      have hcl := c.toNat_lt
      by_cases h9 : k = 9
      · have t9 : ((k : Int) == 9) = true := by simp [h9]
        have p0 : (0 : Int) < (k : Int) := by omega
        by_cases hc1 : c.toNat = 1
        · have n1 : ((c.toNat : Int) != 1) = false := by simp [hc1]
          have z0 : ((c.toNat : Int) == 0) = false := by simp [hc1]
          have hnb : ¬ ((k = 9 ∧ c.toNat ≠ 1) ∨ (c.toNat = 0 ∧ 0 < k)) := by omega
          have hs : c.toNat < 128 := by omega
          clear hc1 h9
          obtain ⟨V, hV⟩ : ∃ V, U + P * c.toNat = V := ⟨_, rfl⟩
          obtain ⟨M, hM⟩ : ∃ M, P * c.toNat = M := ⟨_, rfl⟩
          have hVl := good_bound hk hnb hs hU hP
          rw [hV] at hVl
          rw [hM] at hV
          have sp := pow_cast hP
          have s0 : (c.toNat : Int) % 128 = (c.toNat : Int) := by omega
          have s1 : IntKind.u64.wrap ((c.toNat : Int) * (P : Int)) = (M : Int) := by rw [IntKind.wrap_u64, ← Int.natCast_mul, Nat.mul_comm, hM]; omega
          have s2 : bits .or .u64 (U : Int) (M : Int) = (V : Int) := by rw [or_join hk hP hU hM.symm (by omega)]; omega
          have s3 : (c.toNat : Int) < 128 := by omega
          rw [decS_small hnb hs, hP, hM, hV] at hd
          have hx : rdInt (.live b) = (unzig V, .live (b.drop (k + 1))) := by simp only [rdInt, hd]
          have hx := Lib.hid hx
          have ht := take_live g lo hi b (k + 1) w H'.out (by omega) hb
          rw [show ((k + 1 : Nat) : Int) = (k : Int) + 1 from by omega] at ht
          have ht := Lib.hid ht
          clear hnb hd hM hP hV hc hcl hU
          go_wp2_with fail
          refine ht.out.mono ?_
          rintro r w1 ⟨v1, rfl, _, H1, k1⟩
          have H1' := Lib.hid H1
          clear H1
          go_wp2_with fail
          refine (unzigzag_any V w1 hVl).mono ?_
          rintro r w2 ⟨rfl, rfl⟩
          go_wp2
          go_ret
          rw [hx.out]
          exact ⟨rfl, H1'.out, k1⟩
        · have n1 : ((c.toNat : Int) != 1) = true := by simp; omega
          have hbd : (k = 9 ∧ c.toNat ≠ 1) ∨ (c.toNat = 0 ∧ 0 < k) := .inl ⟨h9, hc1⟩
          clear h9
          by_cases hc0 : c.toNat = 0
          · have z0 : ((c.toNat : Int) == 0) = true := by simp [hc0]
            clear hc0 hc1
            have hx : rdInt (.live b) = (0, .dead 2) := by
              rw [decS_bad hbd] at hd
              simp only [rdInt, hd]
            have hx := Lib.hid hx
            clear hd hbd hP hc hcl hU
            go_wp2_with fail
            refine (fail_live g lo hi b 2 w H'.out (by decide) (by decide)).mono ?_
            rintro r w1 ⟨⟨u1, rfl⟩, H1, k1⟩
            have H1' := Lib.hid H1
            clear H1
            go_wp2
            go_ret
            rw [hx.out]
            exact ⟨rfl, H1'.out, k1⟩
          · have z0 : ((c.toNat : Int) == 0) = false := by simp; omega
            clear hc0 hc1
            have hx : rdInt (.live b) = (0, .dead 2) := by
              rw [decS_bad hbd] at hd
              simp only [rdInt, hd]
            have hx := Lib.hid hx
            clear hd hbd hP hc hcl hU
            go_wp2_with fail
            refine (fail_live g lo hi b 2 w H'.out (by decide) (by decide)).mono ?_
            rintro r w1 ⟨⟨u1, rfl⟩, H1, k1⟩
            have H1' := Lib.hid H1
            clear H1
            go_wp2
            go_ret
            rw [hx.out]
            exact ⟨rfl, H1'.out, k1⟩
      · have t9 : ((k : Int) == 9) = false := by simp; omega
        by_cases hc0 : c.toNat = 0
        · have z0 : ((c.toNat : Int) == 0) = true := by simp [hc0]
          by_cases hk0 : k = 0
          · have p0 : ¬ (0 : Int) < (k : Int) := by omega
            have hnb : ¬ ((k = 9 ∧ c.toNat ≠ 1) ∨ (c.toNat = 0 ∧ 0 < k)) := by omega
            have hs : c.toNat < 128 := by omega
            clear hc0 hk0
            obtain ⟨V, hV⟩ : ∃ V, U + P * c.toNat = V := ⟨_, rfl⟩
            obtain ⟨M, hM⟩ : ∃ M, P * c.toNat = M := ⟨_, rfl⟩
            have hVl := good_bound hk hnb hs hU hP
            rw [hV] at hVl
            rw [hM] at hV
            have sp := pow_cast hP
            have s0 : (c.toNat : Int) % 128 = (c.toNat : Int) := by omega
            have s1 : IntKind.u64.wrap ((c.toNat : Int) * (P : Int)) = (M : Int) := by rw [IntKind.wrap_u64, ← Int.natCast_mul, Nat.mul_comm, hM]; omega
            have s2 : bits .or .u64 (U : Int) (M : Int) = (V : Int) := by rw [or_join hk hP hU hM.symm (by omega)]; omega
            have s3 : (c.toNat : Int) < 128 := by omega
            rw [decS_small hnb hs, hP, hM, hV] at hd
            have hx : rdInt (.live b) = (unzig V, .live (b.drop (k + 1))) := by simp only [rdInt, hd]
            have hx := Lib.hid hx
            have ht := take_live g lo hi b (k + 1) w H'.out (by omega) hb
            rw [show ((k + 1 : Nat) : Int) = (k : Int) + 1 from by omega] at ht
            have ht := Lib.hid ht
            clear hnb hd hM hP hV hc hcl hU
            go_wp2_with fail
            refine ht.out.mono ?_
            rintro r w1 ⟨v1, rfl, _, H1, k1⟩
            have H1' := Lib.hid H1
            clear H1
            go_wp2_with fail
            refine (unzigzag_any V w1 hVl).mono ?_
            rintro r w2 ⟨rfl, rfl⟩
            go_wp2
            go_ret
            rw [hx.out]
            exact ⟨rfl, H1'.out, k1⟩
          · have p0 : (0 : Int) < (k : Int) := by omega
            have hbd : (k = 9 ∧ c.toNat ≠ 1) ∨ (c.toNat = 0 ∧ 0 < k) := .inr ⟨hc0, by omega⟩
            clear hc0
            have hx : rdInt (.live b) = (0, .dead 2) := by
              rw [decS_bad hbd] at hd
              simp only [rdInt, hd]
            have hx := Lib.hid hx
            clear hd hbd hP hc hcl hU
            go_wp2_with fail
            refine (fail_live g lo hi b 2 w H'.out (by decide) (by decide)).mono ?_
            rintro r w1 ⟨⟨u1, rfl⟩, H1, k1⟩
            have H1' := Lib.hid H1
            clear H1
            go_wp2
            go_ret
            rw [hx.out]
            exact ⟨rfl, H1'.out, k1⟩
        · have z0 : ((c.toNat : Int) == 0) = false := by simp; omega
          have hnb : ¬ ((k = 9 ∧ c.toNat ≠ 1) ∨ (c.toNat = 0 ∧ 0 < k)) := by omega
          by_cases hk0 : k = 0
          · have p0 : ¬ (0 : Int) < (k : Int) := by omega
            clear hc0
            by_cases hs : c.toNat < 128
            · clear hk0
              obtain ⟨V, hV⟩ : ∃ V, U + P * c.toNat = V := ⟨_, rfl⟩
              obtain ⟨M, hM⟩ : ∃ M, P * c.toNat = M := ⟨_, rfl⟩
              have hVl := good_bound hk hnb hs hU hP
              rw [hV] at hVl
              rw [hM] at hV
              have sp := pow_cast hP
              have s0 : (c.toNat : Int) % 128 = (c.toNat : Int) := by omega
              have s1 : IntKind.u64.wrap ((c.toNat : Int) * (P : Int)) = (M : Int) := by rw [IntKind.wrap_u64, ← Int.natCast_mul, Nat.mul_comm, hM]; omega
              have s2 : bits .or .u64 (U : Int) (M : Int) = (V : Int) := by rw [or_join hk hP hU hM.symm (by omega)]; omega
              have s3 : (c.toNat : Int) < 128 := by omega
              rw [decS_small hnb hs, hP, hM, hV] at hd
              have hx : rdInt (.live b) = (unzig V, .live (b.drop (k + 1))) := by simp only [rdInt, hd]
              have hx := Lib.hid hx
              have ht := take_live g lo hi b (k + 1) w H'.out (by omega) hb
              rw [show ((k + 1 : Nat) : Int) = (k : Int) + 1 from by omega] at ht
              have ht := Lib.hid ht
              clear hnb hd hM hP hV hc hcl hU
              go_wp2_with fail
              refine ht.out.mono ?_
              rintro r w1 ⟨v1, rfl, _, H1, k1⟩
              have H1' := Lib.hid H1
              clear H1
              go_wp2_with fail
              refine (unzigzag_any V w1 hVl).mono ?_
              rintro r w2 ⟨rfl, rfl⟩
              go_wp2
              go_ret
              rw [hx.out]
              exact ⟨rfl, H1'.out, k1⟩
            · clear hk0
              obtain ⟨d, hdd⟩ : ∃ d, c.toNat % 128 = d := ⟨_, rfl⟩
              obtain ⟨M, hM⟩ : ∃ M, P * d = M := ⟨_, rfl⟩
              have hPl : P ≤ 72057594037927936 := hP ▸ pow128_8 (by omega)
              have hPc : P * d ≤ P * 127 := Nat.mul_le_mul_left _ (by omega)
              rw [hM] at hPc
              have hP0 := pow128_pos k
              rw [hP] at hP0
              have sp := pow_cast hP
              have s0 : (c.toNat : Int) % 128 = (d : Int) := by omega
              have s1 : IntKind.u64.wrap ((d : Int) * (P : Int)) = (M : Int) := by rw [IntKind.wrap_u64, ← Int.natCast_mul, Nat.mul_comm, hM]; omega
              have s2 : bits .or .u64 (U : Int) (M : Int) = ((U + M : Nat) : Int) := by rw [or_join hk hP hU hM.symm (by omega)]; omega
              have s3 : ¬ (c.toNat : Int) < 128 := by omega
              rw [decS_more hnb hs, hP, hdd, hM] at hd
              have hU2 : U + M < P * 128 := by omega
              have hP2 : 128 ^ (k + 1) = P * 128 := by rw [Nat.pow_succ, hP]
              have hd := Lib.hid hd
              have hP2 := Lib.hid hP2
              have hU2 := Lib.hid hU2
              clear hM hdd hPc hP hPl hnb hc hcl hU
              go_wp2
              go_round
              case rel => exact ⟨k + 1, U + M, P * 128, by go_num, by omega, by simp, hU2.out, hP2.out, by omega, hd.out⟩
              case measure => simp [intOf]; omega
          · have p0 : (0 : Int) < (k : Int) := by omega
            clear hc0
            by_cases hs : c.toNat < 128
            · clear hk0
              obtain ⟨V, hV⟩ : ∃ V, U + P * c.toNat = V := ⟨_, rfl⟩
              obtain ⟨M, hM⟩ : ∃ M, P * c.toNat = M := ⟨_, rfl⟩
              have hVl := good_bound hk hnb hs hU hP
              rw [hV] at hVl
              rw [hM] at hV
              have sp := pow_cast hP
              have s0 : (c.toNat : Int) % 128 = (c.toNat : Int) := by omega
              have s1 : IntKind.u64.wrap ((c.toNat : Int) * (P : Int)) = (M : Int) := by rw [IntKind.wrap_u64, ← Int.natCast_mul, Nat.mul_comm, hM]; omega
              have s2 : bits .or .u64 (U : Int) (M : Int) = (V : Int) := by rw [or_join hk hP hU hM.symm (by omega)]; omega
              have s3 : (c.toNat : Int) < 128 := by omega
              rw [decS_small hnb hs, hP, hM, hV] at hd
              have hx : rdInt (.live b) = (unzig V, .live (b.drop (k + 1))) := by simp only [rdInt, hd]
              have hx := Lib.hid hx
              have ht := take_live g lo hi b (k + 1) w H'.out (by omega) hb
              rw [show ((k + 1 : Nat) : Int) = (k : Int) + 1 from by omega] at ht
              have ht := Lib.hid ht
              clear hnb hd hM hP hV hc hcl hU
              go_wp2_with fail
              refine ht.out.mono ?_
              rintro r w1 ⟨v1, rfl, _, H1, k1⟩
              have H1' := Lib.hid H1
              clear H1
              go_wp2_with fail
              refine (unzigzag_any V w1 hVl).mono ?_
              rintro r w2 ⟨rfl, rfl⟩
              go_wp2
              go_ret
              rw [hx.out]
              exact ⟨rfl, H1'.out, k1⟩
            · clear hk0
              obtain ⟨d, hdd⟩ : ∃ d, c.toNat % 128 = d := ⟨_, rfl⟩
              obtain ⟨M, hM⟩ : ∃ M, P * d = M := ⟨_, rfl⟩
              have hPl : P ≤ 72057594037927936 := hP ▸ pow128_8 (by omega)
              have hPc : P * d ≤ P * 127 := Nat.mul_le_mul_left _ (by omega)
              rw [hM] at hPc
              have hP0 := pow128_pos k
              rw [hP] at hP0
              have sp := pow_cast hP
              have s0 : (c.toNat : Int) % 128 = (d : Int) := by omega
              have s1 : IntKind.u64.wrap ((d : Int) * (P : Int)) = (M : Int) := by rw [IntKind.wrap_u64, ← Int.natCast_mul, Nat.mul_comm, hM]; omega
              have s2 : bits .or .u64 (U : Int) (M : Int) = ((U + M : Nat) : Int) := by rw [or_join hk hP hU hM.symm (by omega)]; omega
              have s3 : ¬ (c.toNat : Int) < 128 := by omega
              rw [decS_more hnb hs, hP, hdd, hM] at hd
              have hU2 : U + M < P * 128 := by omega
              have hP2 : 128 ^ (k + 1) = P * 128 := by rw [Nat.pow_succ, hP]
              have hd := Lib.hid hd
              have hP2 := Lib.hid hP2
              have hU2 := Lib.hid hU2
              clear hM hdd hPc hP hPl hnb hc hcl hU
              go_wp2
              go_round
              case rel => exact ⟨k + 1, U + M, P * 128, by go_num, by omega, by simp, hU2.out, hP2.out, by omega, hd.out⟩
              case measure => simp [intOf]; omega
    · obtain rfl : k = b.length := by omega
      have hx : rdInt (.live b) = (0, .dead 11) := by
        rw [List.drop_length, decS_nil] at hd
        simp only [rdInt, hd]
      have hx := Lib.hid hx
      have e1 : ¬ (b.length : Int) < (b.length : Int) := by omega
      clear hd
      go_wp2_with fail
      refine (fail_live g lo hi b 11 w H'.out (by decide) (by decide)).mono ?_
      rintro r w1 ⟨⟨u1, rfl⟩, H1, k1⟩
      have H1' := Lib.hid H1
      clear H1
      go_wp2
      go_ret
      rw [hx.out]
      exact ⟨rfl, H1'.out, k1⟩

theorem cint_any (g lo hi : Nat) (s : St) (w : World) (H : RdP w g lo hi s) (hf : s.Few 100000) : Calls Try.prog 27 #[.pointer (some ⟨g, 0, none⟩)] w fun r w' => r = .returned (.int .i64 (rdInt s).1) ∧ RdP w' g lo hi (rdInt s).2 ∧ Chg (Iv lo hi) w w' := by
  cases s with
  | live b => exact cint_live g lo hi b w H hf
  | dead e => exact cint_dead g lo hi e w H
end Go.Proofs.Ytmmfkepkdmmmkaa
