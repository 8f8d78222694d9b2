/- The reference's numerals: walk. -/
import Derived.Test.YtggalncjookkiaaDoorW12
import Derived.Deep.QuietTactic
import Derived.BigQuiet
namespace Go.Proofs.YtggalncjookkiaaDoor
open Go.RowKit Go.Lib Nds

def tenD : Array UInt8 := #[48, 49, 50, 51, 52, 53, 54, 55, 56, 57]
def dg (n : Nat) : UInt8 := UInt8.ofNat (48 + n)
theorem ten_at (d : Nat) (h : d < 10) : (⟨#[48, 49, 50, 51, 52, 53, 54, 55, 56, 57]⟩ : ByteArray).extract d (d + 1) = ⟨#[dg d]⟩ := by
  match d, h with
  | 0, _ | 1, _ | 2, _ | 3, _ | 4, _ | 5, _ | 6, _ | 7, _ | 8, _ | 9, _ => rfl

set_option maxRecDepth 100000 in
set_option maxHeartbeats 1000000 in
theorem digits_any (n : Nat) (hn : n < 10000) (w : World) :
    Calls Tryd.prog 40 #[.int .i64 n] w fun e w' => e = .returned (.string ⟨(decDigits n).toArray⟩) ∧ ∃ m, w' = w.drewN m := by
  induction n using Nat.strongRecOn generalizing w with
  | _ n ih =>
    by_cases h : n < 10
    · have hd : decide ((n : Int) < 10) = true := by rw [decide_eq_true_iff]; omega
      have ht := ten_at n h
      have he : (⟨#[dg n]⟩ : ByteArray) = ⟨(decDigits n).toArray⟩ := by rw [dd_small h]; rfl
      have h0 : (0 : Int) ≤ n := by omega
      have h1 : (n : Int) + 1 ≤ 10 := by omega
      generalize decDigits n = D at he ⊢
      go_enter Tryd.func40, Tryd.ntmps40
      go_wp2
      go_ret
      exact ⟨rfl, 0, rfl⟩
    · have hd : decide ((n : Int) < 10) = false := by rw [decide_eq_false_iff_not]; omega
      have ht := ten_at (n % 10) (by omega)
      have hl := dd_len (n / 10) (by omega)
      have hl2 : (decDigits (n / 10)).length + 1 ≤ 9223372036854775807 := by omega
      have IH := ih (n / 10) (by omega) (by omega)
      have he : (decDigits (n / 10)) ++ [dg (n % 10)] = decDigits n := by rw [dd_big h]; rfl
      clear ih
      have h9 : n % 10 < 10 := by omega
      have ha : (0 : Int) ≤ (n : Int) % 10 := by omega
      have hb : (n : Int) % 10 + 1 ≤ 10 := by omega
      have hc : (n : Int) % 10 ≤ (n : Int) % 10 + 1 := by omega
      generalize decDigits n = D at he ⊢
      go_enter Tryd.func40, Tryd.ntmps40
      go_wp2
      refine wp_region_quiet_lit (by kernel_rfl) (by kernel_rfl) ?_
      iterate 9 go_big_quiet_step ((go_at_call 40; refine Calls.quiet_of (IH _)))
      rw [ht]
      go_big_quiet_step (fail)
      go_big_quiet_step (fail)
      refine wpQuiet_nil ?_
      rintro _ ⟨nq, rfl⟩
      go_wp2
      go_ret
      exact ⟨by rw [← he]; exact congrArg (fun b => Ending.returned (.string b)) (ByteArray.mk_append_mk _ _), nq, rfl⟩

end Go.Proofs.YtggalncjookkiaaDoor
