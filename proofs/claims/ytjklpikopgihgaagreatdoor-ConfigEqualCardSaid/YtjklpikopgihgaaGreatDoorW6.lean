/- The reference: Digits, Kind, Default, Set. -/
import Derived.Test.YtjklpikopgihgaaGreatDoorW5
import Derived.Deep.QuietTactic
set_option linter.unusedVariables false
set_option maxRecDepth 100000
set_option linter.unusedSimpArgs false
namespace Go.Proofs.YtjklpikopgihgaaGreatDoor
open Go.RowKit Go.Lib Cf

theorem dd_small {u : Nat} (h : u < 10) : decDigits u = [UInt8.ofNat (48 + u)] := by rw [decDigits, dif_pos h]
theorem dd_big {u : Nat} (h : ¬ u < 10) : decDigits u = decDigits (u / 10) ++ [UInt8.ofNat (48 + u % 10)] := by rw [decDigits, dif_neg h]
theorem dd_len : ∀ (k u : Nat), u < 10 ^ (k + 1) → (decDigits u).length ≤ k + 1 := by
  intro k
  induction k with
  | zero => intro u h; rw [dd_small (by simpa using h)]; simp
  | succ k ih =>
    intro u h
    by_cases hs : u < 10
    · rw [dd_small hs]; simp
    · rw [dd_big hs, List.length_append]
      have := ih (u / 10) (by rw [Nat.pow_succ] at h; omega)
      simp; omega
theorem dd_len19 {u : Nat} (h : u < 9223372036854775808) : (decDigits u).length ≤ 19 := dd_len 18 u (Nat.lt_of_lt_of_le h (by decide))
def dg (n : Nat) : UInt8 := UInt8.ofNat (48 + n)
theorem ten_at (d : Nat) (h : d < 10) : (⟨#[48, 49, 50, 51, 52, 53, 54, 55, 56, 57]⟩ : ByteArray).extract d (d + 1) = ⟨#[dg d]⟩ := by
  match d, h with
  | 0, _ | 1, _ | 2, _ | 3, _ | 4, _ | 5, _ | 6, _ | 7, _ | 8, _ | 9, _ => rfl

set_option maxRecDepth 100000 in
set_option maxHeartbeats 1000000 in
theorem digits_nat (n : Nat) (hn : n < 9223372036854775808) (w : World) :
    Calls Tryz.prog 39 #[.int .i64 n] w fun e w' => e = .returned (.string ⟨(decDigits n).toArray⟩) ∧ ∃ m, w' = w.drewN m := by
  induction n using Nat.strongRecOn generalizing w with
  | _ n ih =>
    by_cases h : n < 10
    · have hd : decide ((n : Int) < 10) = true := by rw [decide_eq_true_iff]; omega
      have ht := ten_at n h
      have he : (⟨#[dg n]⟩ : ByteArray) = ⟨(decDigits n).toArray⟩ := by rw [dd_small h]; rfl
      have h0 : (0 : Int) ≤ n := by omega
      have h1 : (n : Int) + 1 ≤ 10 := by omega
      generalize decDigits n = D at he ⊢
      go_enter Tryz.func39, Tryz.ntmps39
      go_wp2
      go_ret
      exact ⟨rfl, 0, rfl⟩
    · have hd : decide ((n : Int) < 10) = false := by rw [decide_eq_false_iff_not]; omega
      have ht := ten_at (n % 10) (by omega)
      have hl := dd_len19 (u := n / 10) (by omega)
      have hl2 : (decDigits (n / 10)).length + 1 ≤ 9223372036854775807 := by omega
      have IH := ih (n / 10) (by omega) (by omega)
      have he : (decDigits (n / 10)) ++ [dg (n % 10)] = decDigits n := by rw [dd_big h]; rfl
      clear ih
      have h9 : n % 10 < 10 := by omega
      have ha : (0 : Int) ≤ (n : Int) % 10 := by omega
      have hb : (n : Int) % 10 + 1 ≤ 10 := by omega
      have hc : (n : Int) % 10 ≤ (n : Int) % 10 + 1 := by omega
      generalize decDigits n = D at he ⊢
      go_enter Tryz.func39, Tryz.ntmps39
      go_wp2
      refine wp_region_quiet_lit (by kernel_rfl) (by kernel_rfl) ?_
      iterate 9 go_big_quiet_step ((go_at_call 39; refine Calls.quiet_of (IH _)))
      rw [ht]
      go_big_quiet_step (fail)
      go_big_quiet_step (fail)
      refine wpQuiet_nil ?_
      rintro _ ⟨nq, rfl⟩
      go_wp2
      go_ret
      exact ⟨by rw [← he]; exact congrArg (fun b => Ending.returned (.string b)) (ByteArray.mk_append_mk _ _), nq, rfl⟩
theorem digits_any (z : Int) (h0 : 0 ≤ z) (hz : z ≤ 9223372036854775807) (w : World) : Calls Tryz.prog 39 #[.int .i64 z] w fun e w' => e = .returned (.string ⟨(dig z).toArray⟩) ∧ Below w.heap.size w w' := by
  obtain ⟨n, rfl⟩ : ∃ n : Nat, z = (n : Int) := ⟨z.toNat, by omega⟩
  refine (digits_nat n (by omega) w).mono ?_
  rintro e w' ⟨rfl, m, rfl⟩
  exact ⟨by unfold dig; rw [Int.toNat_natCast], below_drewN (Below.refl _ _) m⟩

theorem kind_any (k : Int) (h0 : 0 ≤ k) (h4 : k ≤ 4) (w : World) : Calls Tryz.prog 40 #[.int .i64 k] w fun e w' => e = .returned (.string ⟨(kindName k).toArray⟩) ∧ Below w.heap.size w w' := by
  have hB : ∀ o, Below w.heap.size w (w.alloc o) := fun o => (Below.refl _ _).alloc (Nat.le_refl _) o
  have hB' := Lib.hid hB
  clear hB
  rcases (show k = 0 ∨ k = 1 ∨ k = 2 ∨ k = 3 ∨ k = 4 from by omega) with rfl | rfl | rfl | rfl | rfl
  all_goals (
    go_enter Tryz.func40, Tryz.ntmps40
    go_wp2
    go_ret
    exact ⟨rfl, hB'.out _⟩)

theorem default_any (w : World) : Calls Tryz.prog 18 #[] w fun e w' => e = .returned (.agg (cfgCells dflt (.slice none 0 0) (.slice none 0 0) (.slice none 0 0) (.slice none 0 0)).toArray) ∧ Below w.heap.size w w' := by
  have hB : ∀ o, Below w.heap.size w (w.alloc o) := fun o => (Below.refl _ _).alloc (Nat.le_refl _) o
  have hB' := Lib.hid hB
  clear hB
  go_enter Tryz.func18, Tryz.ntmps18
  go_wp2
  exact bodyPost_ret (v := .agg (cfgCells dflt (.slice none 0 0) (.slice none 0 0) (.slice none 0 0) (.slice none 0 0)).toArray) (by simp [results, Tryz.results18, go_sem, cfgCells, dflt]) rfl ⟨rfl, hB'.out _⟩
theorem dflt_v (w : World) : CfgV w (.agg (cfgCells dflt (.slice none 0 0) (.slice none 0 0) (.slice none 0 0) (.slice none 0 0)).toArray) dflt := ⟨_, _, _, _, rfl, RN.nil _, R3.nil _, R3.nil _, RP.nil _⟩
end Go.Proofs.YtjklpikopgihgaaGreatDoor
