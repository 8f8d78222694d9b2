/- The reference's reader: Int. -/
import Derived.Test.YtmmfkepkdmmmkaaR6
set_option linter.unusedVariables false
namespace Go.Proofs.Ytmmfkepkdmmmkaa
open Go.RowKit Go.Lib Wr

theorem ref_cells {w : World} {g : Nat} {v : Value} {e : Int} (h : w.heap[g]? = some (.cells #[v, .int .i64 e] 29 (0, 0))) : w.cell? ⟨g, 0, none⟩ = some v ∧ w.cell? ⟨g, 1, none⟩ = some (.int .i64 e) ∧ w.frozen? ⟨g, 0, none⟩ = false ∧ w.frozen? ⟨g, 1, none⟩ = false := by
  refine ⟨by rw [cell_of_row _ _ 0 _ _ _ h]; rfl, by rw [cell_of_row _ _ 1 _ _ _ h]; rfl, ?_, ?_⟩
  · unfold World.frozen?; rw [h]; rfl
  · unfold World.frozen?; rw [h]; rfl

theorem rdint_dead (g : Nat) {N : Nat} (e : Nat) (w : World) (H : RefAt w g N (.dead e)) : Calls Try.prog 33 #[.pointer (some ⟨g, 0, none⟩)] w fun r w' => r = .returned (.int .i64 0) ∧ w = w' := by
  obtain ⟨v, e', h1, _, rfl, h0⟩ := H
  obtain ⟨c0, c1, _, _⟩ := ref_cells h1
  have t1 : ((e : Int) != 0) = true := by simp; omega
  have t2 : ¬ e = 0 := h0
  clear h1
  go_enter Try.func33, Try.ntmps33
  go_wp2
  go_ret
  exact ⟨rfl, rfl⟩

set_option maxRecDepth 20000 in
set_option maxHeartbeats 2000000 in
theorem rdint_live (g : Nat) {N : Nat} (b : Bs) (w : World) (H : RefAt w g N (.live b)) (hb : b.length ≤ 100000) : Calls Try.prog 33 #[.pointer (some ⟨g, 0, none⟩)] w fun r w' => r = .returned (.int .i64 (rdInt (.live b)).1) ∧ RefAt w' g N (rdInt (.live b)).2 ∧ Chg (· = g) w w' := by
  have H' := Lib.hid H
  obtain ⟨v, e', h1, _, rfl, hR, hlow⟩ := H
  obtain ⟨A, cap, rfl⟩ := hR.form
  obtain ⟨c0, c1, f0, f1⟩ := ref_cells h1
  have hR' := Lib.hid hR
  clear h1 hR
  go_enter Try.func33, Try.ntmps33
  go_wp2_with fail
  go_loop [3, 4, 5] (fun u by_ i => ∃ k U P : Nat, i = .int .i64 (k : Int) ∧ k ≤ 9 ∧ u = .int .u64 (U : Int) ∧ U < P ∧ 128 ^ k = P ∧ by_ = .int .u64 (P : Int) ∧ k ≤ b.length ∧ dec 0 b = decS k U (b.drop k)) (fun _ _ i => 10 - (intOf i).toNat)
  case atStart => exact ⟨0, 0, 1, rfl, by omega, rfl, by omega, rfl, rfl, by omega, by rw [List.drop_zero, decS_zero]⟩
  case round =>
    obtain ⟨k, U, P, rfl, hk, rfl, hU, hP, rfl, hkl, hd⟩ := hrel
    by_cases hlt : k < b.length
    · obtain ⟨c, hc⟩ : ∃ c, b[k]? = some c := ⟨_, List.getElem?_eq_getElem hlt⟩
      obtain ⟨ad, rfl, d0⟩ := hR'.out.at_ hc
      have hl0 := hlow _ _ _ rfl (Nat.lt_of_lt_of_le (by omega : 0 < b.length) hR'.out.cap)
      have hl1 : ∀ (c' : Nat) ad', some ad = some ad' → 0 < c' → (ad'.block < N ∧ N ≤ g) := fun c' ad' h _ => by injection h with h; subst h; exact hl0
      have hl2 : ∀ (o c' : Nat) ad', some (⟨ad.block, o, none⟩ : Addr) = some ad' → 0 < c' → (ad'.block < N ∧ N ≤ g) := fun o c' ad' h _ => by injection h with h; subst h; exact hl0
      have hl1' := Lib.hid hl1
      have hl2' := Lib.hid hl2
      clear hl0 hl1 hl2 hlow
      rw [drop_at hc] at hd
      have e1 : (k : Int) < (b.length : Int) := by omega
      have e2 : (0 : Int) ≤ (k : Int) := by omega
      have hcl := c.toNat_lt
      by_cases h9 : k = 9
      · have t9 : ((k : Int) == 9) = true := by simp [h9]
        by_cases hc1 : c.toNat = 1
        · have n1 : ((c.toNat : Int) != 1) = false := by simp [hc1]
          have z0 : ((c.toNat : Int) == 0) = false := by simp [hc1]
          have hnb : ¬ ((k = 9 ∧ c.toNat ≠ 1) ∨ (c.toNat = 0 ∧ 0 < k)) := by omega
          have hs : c.toNat < 128 := by omega
          clear hc1
          obtain ⟨V, hV⟩ : ∃ V, U + P * c.toNat = V := ⟨_, rfl⟩
          obtain ⟨M, hM⟩ : ∃ M, P * c.toNat = M := ⟨_, rfl⟩
          have hVl := good_bound hk hnb hs hU hP
          rw [hV] at hVl
          rw [hM] at hV
          have s0 : (c.toNat : Int) % 128 = (c.toNat : Int) := by omega
          have s1 : IntKind.u64.wrap ((c.toNat : Int) * (P : Int)) = (M : Int) := by rw [IntKind.wrap_u64, ← Int.natCast_mul, Nat.mul_comm, hM]; omega
          have s2 : IntKind.u64.wrap ((U : Int) + (M : Int)) = (V : Int) := by rw [IntKind.wrap_u64]; omega
          have s3 : (c.toNat : Int) < 128 := by omega
          obtain ⟨q, hq⟩ : ∃ q, V / 2 = q := ⟨_, rfl⟩
          have s4 : (V : Int) / 2 = (q : Int) := by omega
          have s5 : IntKind.u64.wrap (q : Int) = (q : Int) := by rw [IntKind.wrap_u64]; omega
          have s6 : IntKind.i64.wrap (q : Int) = (q : Int) := by rw [IntKind.wrap_i64]; omega
          obtain ⟨r1, r2⟩ := hR'.out.dropc hlt
          have r1 := Lib.hid r1
          have r2 := Lib.hid r2
          rw [decS_small hnb hs, hP, hM, hV] at hd
          clear hnb h9
          have hM := Lib.hid hM
          have hP := Lib.hid hP
          have hV := Lib.hid hV
          by_cases hpar : V % 2 = 1
          · have hx : rdInt (.live b) = (-(q : Int) - 1, .live (b.drop (k + 1))) := by
              simp only [rdInt, hd, unzig_odd hpar hq]
            have p1 : ((V : Int) % 2 == 1) = true := by simp; omega
            have s7 : IntKind.i64.wrap (-(q : Int)) = -(q : Int) := by rw [IntKind.wrap_i64]; omega
            have s8 : IntKind.i64.wrap (-(q : Int) - 1) = -(q : Int) - 1 := by rw [IntKind.wrap_i64]; omega
            by_cases hcap : cap = k + 1
            · have r3 := Lib.hid (r1.out hcap)
              clear hd
              go_wp2
              go_ret
              exact ⟨rfl, H'.out.go r3.out (hl1'.out _), Chg.one w g 0 _⟩
            · clear hd
              go_wp2
              go_ret
              exact ⟨rfl, H'.out.go r2.out (hl2'.out _ _), Chg.one w g 0 _⟩
          · have hx : rdInt (.live b) = ((q : Int), .live (b.drop (k + 1))) := by
              simp only [rdInt, hd, unzig_even hpar hq]
            have p1 : ((V : Int) % 2 == 1) = false := by simp; omega
            by_cases hcap : cap = k + 1
            · have r3 := Lib.hid (r1.out hcap)
              clear hd
              go_wp2
              go_ret
              exact ⟨rfl, H'.out.go r3.out (hl1'.out _), Chg.one w g 0 _⟩
            · clear hd
              go_wp2
              go_ret
              exact ⟨rfl, H'.out.go r2.out (hl2'.out _ _), Chg.one w g 0 _⟩
        · have n1 : ((c.toNat : Int) != 1) = true := by simp; omega
          have hbd : (k = 9 ∧ c.toNat ≠ 1) ∨ (c.toNat = 0 ∧ 0 < k) := .inl ⟨h9, hc1⟩
          have hx : rdInt (.live b) = (0, .dead 2) := by
            rw [decS_bad hbd] at hd
            simp only [rdInt, hd]
          clear hd hbd hc1 h9
          go_wp2
          go_ret
          exact ⟨rfl, H'.out.die (x := 2) (by omega), Chg.one w g 1 _⟩
      · have t9 : ((k : Int) == 9) = false := by simp; omega
        by_cases hc0 : c.toNat = 0
        · have z0 : ((c.toNat : Int) == 0) = true := by simp [hc0]
          by_cases hk0 : k = 0
          · have p0 : ¬ (0 : Int) < (k : Int) := by omega
            have hnb : ¬ ((k = 9 ∧ c.toNat ≠ 1) ∨ (c.toNat = 0 ∧ 0 < k)) := by omega
            have hs : c.toNat < 128 := by omega
            clear hc0
            obtain ⟨V, hV⟩ : ∃ V, U + P * c.toNat = V := ⟨_, rfl⟩
            obtain ⟨M, hM⟩ : ∃ M, P * c.toNat = M := ⟨_, rfl⟩
            have hVl := good_bound hk hnb hs hU hP
            rw [hV] at hVl
            rw [hM] at hV
            have s0 : (c.toNat : Int) % 128 = (c.toNat : Int) := by omega
            have s1 : IntKind.u64.wrap ((c.toNat : Int) * (P : Int)) = (M : Int) := by rw [IntKind.wrap_u64, ← Int.natCast_mul, Nat.mul_comm, hM]; omega
            have s2 : IntKind.u64.wrap ((U : Int) + (M : Int)) = (V : Int) := by rw [IntKind.wrap_u64]; omega
            have s3 : (c.toNat : Int) < 128 := by omega
            obtain ⟨q, hq⟩ : ∃ q, V / 2 = q := ⟨_, rfl⟩
            have s4 : (V : Int) / 2 = (q : Int) := by omega
            have s5 : IntKind.u64.wrap (q : Int) = (q : Int) := by rw [IntKind.wrap_u64]; omega
            have s6 : IntKind.i64.wrap (q : Int) = (q : Int) := by rw [IntKind.wrap_i64]; omega
            obtain ⟨r1, r2⟩ := hR'.out.dropc hlt
            have r1 := Lib.hid r1
            have r2 := Lib.hid r2
            rw [decS_small hnb hs, hP, hM, hV] at hd
            clear hnb hk0
            have hM := Lib.hid hM
            have hP := Lib.hid hP
            have hV := Lib.hid hV
            by_cases hpar : V % 2 = 1
            · have hx : rdInt (.live b) = (-(q : Int) - 1, .live (b.drop (k + 1))) := by
                simp only [rdInt, hd, unzig_odd hpar hq]
              have p1 : ((V : Int) % 2 == 1) = true := by simp; omega
              have s7 : IntKind.i64.wrap (-(q : Int)) = -(q : Int) := by rw [IntKind.wrap_i64]; omega
              have s8 : IntKind.i64.wrap (-(q : Int) - 1) = -(q : Int) - 1 := by rw [IntKind.wrap_i64]; omega
              by_cases hcap : cap = k + 1
              · have r3 := Lib.hid (r1.out hcap)
                clear hd
                go_wp2
                go_ret
                exact ⟨rfl, H'.out.go r3.out (hl1'.out _), Chg.one w g 0 _⟩
              · clear hd
                go_wp2
                go_ret
                exact ⟨rfl, H'.out.go r2.out (hl2'.out _ _), Chg.one w g 0 _⟩
            · have hx : rdInt (.live b) = ((q : Int), .live (b.drop (k + 1))) := by
                simp only [rdInt, hd, unzig_even hpar hq]
              have p1 : ((V : Int) % 2 == 1) = false := by simp; omega
              by_cases hcap : cap = k + 1
              · have r3 := Lib.hid (r1.out hcap)
                clear hd
                go_wp2
                go_ret
                exact ⟨rfl, H'.out.go r3.out (hl1'.out _), Chg.one w g 0 _⟩
              · clear hd
                go_wp2
                go_ret
                exact ⟨rfl, H'.out.go r2.out (hl2'.out _ _), Chg.one w g 0 _⟩
          · have p0 : (0 : Int) < (k : Int) := by omega
            have hbd : (k = 9 ∧ c.toNat ≠ 1) ∨ (c.toNat = 0 ∧ 0 < k) := .inr ⟨hc0, by omega⟩
            clear hc0
            have hx : rdInt (.live b) = (0, .dead 2) := by
              rw [decS_bad hbd] at hd
              simp only [rdInt, hd]
            clear hd hbd
            go_wp2
            go_ret
            exact ⟨rfl, H'.out.die (x := 2) (by omega), Chg.one w g 1 _⟩
        · have z0 : ((c.toNat : Int) == 0) = false := by simp; omega
          have hnb : ¬ ((k = 9 ∧ c.toNat ≠ 1) ∨ (c.toNat = 0 ∧ 0 < k)) := by omega
          by_cases hs : c.toNat < 128
          · skip
            obtain ⟨V, hV⟩ : ∃ V, U + P * c.toNat = V := ⟨_, rfl⟩
            obtain ⟨M, hM⟩ : ∃ M, P * c.toNat = M := ⟨_, rfl⟩
            have hVl := good_bound hk hnb hs hU hP
            rw [hV] at hVl
            rw [hM] at hV
            have s0 : (c.toNat : Int) % 128 = (c.toNat : Int) := by omega
            have s1 : IntKind.u64.wrap ((c.toNat : Int) * (P : Int)) = (M : Int) := by rw [IntKind.wrap_u64, ← Int.natCast_mul, Nat.mul_comm, hM]; omega
            have s2 : IntKind.u64.wrap ((U : Int) + (M : Int)) = (V : Int) := by rw [IntKind.wrap_u64]; omega
            have s3 : (c.toNat : Int) < 128 := by omega
            obtain ⟨q, hq⟩ : ∃ q, V / 2 = q := ⟨_, rfl⟩
            have s4 : (V : Int) / 2 = (q : Int) := by omega
            have s5 : IntKind.u64.wrap (q : Int) = (q : Int) := by rw [IntKind.wrap_u64]; omega
            have s6 : IntKind.i64.wrap (q : Int) = (q : Int) := by rw [IntKind.wrap_i64]; omega
            obtain ⟨r1, r2⟩ := hR'.out.dropc hlt
            have r1 := Lib.hid r1
            have r2 := Lib.hid r2
            rw [decS_small hnb hs, hP, hM, hV] at hd
            clear hnb
            have hM := Lib.hid hM
            have hP := Lib.hid hP
            have hV := Lib.hid hV
            by_cases hpar : V % 2 = 1
            · have hx : rdInt (.live b) = (-(q : Int) - 1, .live (b.drop (k + 1))) := by
                simp only [rdInt, hd, unzig_odd hpar hq]
              have p1 : ((V : Int) % 2 == 1) = true := by simp; omega
              have s7 : IntKind.i64.wrap (-(q : Int)) = -(q : Int) := by rw [IntKind.wrap_i64]; omega
              have s8 : IntKind.i64.wrap (-(q : Int) - 1) = -(q : Int) - 1 := by rw [IntKind.wrap_i64]; omega
              by_cases hcap : cap = k + 1
              · have r3 := Lib.hid (r1.out hcap)
                clear hd
                go_wp2
                go_ret
                exact ⟨rfl, H'.out.go r3.out (hl1'.out _), Chg.one w g 0 _⟩
              · clear hd
                go_wp2
                go_ret
                exact ⟨rfl, H'.out.go r2.out (hl2'.out _ _), Chg.one w g 0 _⟩
            · have hx : rdInt (.live b) = ((q : Int), .live (b.drop (k + 1))) := by
                simp only [rdInt, hd, unzig_even hpar hq]
              have p1 : ((V : Int) % 2 == 1) = false := by simp; omega
              by_cases hcap : cap = k + 1
              · have r3 := Lib.hid (r1.out hcap)
                clear hd
                go_wp2
                go_ret
                exact ⟨rfl, H'.out.go r3.out (hl1'.out _), Chg.one w g 0 _⟩
              · clear hd
                go_wp2
                go_ret
                exact ⟨rfl, H'.out.go r2.out (hl2'.out _ _), Chg.one w g 0 _⟩
          · skip
            obtain ⟨d, hdd⟩ : ∃ d, c.toNat % 128 = d := ⟨_, rfl⟩
            obtain ⟨M, hM⟩ : ∃ M, P * d = M := ⟨_, rfl⟩
            have hPl : P ≤ 72057594037927936 := hP ▸ pow128_8 (by omega)
            have hPc : P * d ≤ P * 127 := Nat.mul_le_mul_left _ (by omega)
            rw [hM] at hPc
            have hP0 := pow128_pos k
            rw [hP] at hP0
            have s0 : (c.toNat : Int) % 128 = (d : Int) := by omega
            have s1 : IntKind.u64.wrap ((d : Int) * (P : Int)) = (M : Int) := by rw [IntKind.wrap_u64, ← Int.natCast_mul, Nat.mul_comm, hM]; omega
            have s2 : IntKind.u64.wrap ((U : Int) + (M : Int)) = ((U + M : Nat) : Int) := by rw [IntKind.wrap_u64]; omega
            have s3 : ¬ (c.toNat : Int) < 128 := by omega
            have s4 : IntKind.u64.wrap ((P : Int) * 128) = ((P * 128 : Nat) : Int) := by rw [IntKind.wrap_u64]; omega
            rw [decS_more hnb hs, hP, hdd, hM] at hd
            have hU2 : U + M < P * 128 := by omega
            have hP2 : 128 ^ (k + 1) = P * 128 := by rw [Nat.pow_succ, hP]
            have hd := Lib.hid hd
            have hP2 := Lib.hid hP2
            have hU2 := Lib.hid hU2
            have hU := Lib.hid hU
            clear hM hdd hPc hP hPl
            go_wp2
            go_round
            case rel => exact ⟨k + 1, U + M, P * 128, by go_num, by omega, by simp, hU2.out, hP2.out, by simp, by omega, hd.out⟩
            case measure => simp [intOf]; omega
    · obtain rfl : k = b.length := by omega
      have hx : rdInt (.live b) = (0, .dead 11) := by
        rw [List.drop_length, decS_nil] at hd
        simp only [rdInt, hd]
      have e1 : ¬ (b.length : Int) < (b.length : Int) := by omega
      clear hd
      go_wp2
      go_ret
      exact ⟨rfl, H'.out.die (x := 11) (by omega), Chg.one w g 1 _⟩
end Go.Proofs.Ytmmfkepkdmmmkaa
