/- The reference's number: walk. -/
import Derived.Test.YtggalncjookkiaaDoorV3
namespace Go.Proofs.YtggalncjookkiaaDoor
open Go.RowKit Go.Lib Nds

set_option maxRecDepth 100000 in
set_option maxHeartbeats 2000000 in
theorem rnumber_any (l : Bs) (w : World) (hl : l.length ≤ 9223372036854775807) :
    Calls Tryd.prog 41 #[.string ⟨l.toArray⟩] w fun e w' => e = .returned (.tuple #[.int .i64 (rnumber l).1, .int .i64 (rnumber l).2]) ∧ w' = w := by
  go_enter Tryd.func41, Tryd.ntmps41
  go_wp2
  go_loopw [4, 5] (fun n k w' => ∃ m j : Nat, n = .int .i64 m ∧ k = .int .i64 j ∧ rnumT (4 - j) m j (l.drop j) = rnumber l ∧ j ≤ 4 ∧ j ≤ l.length ∧ m < 10 ^ j ∧ w' = w) (fun _ k _ => 4 - (RowKit.intOf k).toNat)
  case atStart => exact ⟨0, 0, rfl, rfl, rfl, by omega, by omega, by simp, rfl⟩
  case round =>
    obtain ⟨m, j, rfl, rfl, he, hj, hjl, hm, rfl⟩ := hrel
    have HE := Lib.hid he; clear he
    by_cases h1 : j < l.length
    · have i1 : decide (j < l.length) = true := decide_eq_true h1
      by_cases h2 : j < 4
      · have i2 : decide ((j : Int) < 4) = true := by rw [decide_eq_true_iff]; omega
        have hdr : l.drop j = l[j] :: l.drop (j + 1) := List.drop_eq_getElem_cons h1
        have hb : (⟨l.toArray⟩ : ByteArray)[j]'(by simpa [ByteArray.size] using h1) = l[j] := rfl
        have h4j : 4 - j = (4 - (j + 1)) + 1 := by omega
        have hstep := HE.out
        rw [hdr, h4j] at hstep
        unfold rnumT at hstep
        have hm2 : m < 1000 := Nat.lt_of_lt_of_le hm (Nat.le_trans (Nat.pow_le_pow_right (by omega) (show j ≤ 3 by omega)) (by decide))
        have hp : 10 ^ (j + 1) = 10 ^ j * 10 := Nat.pow_succ ..
        generalize l[j] = c at hb hstep
        have HM := Lib.hid hm; clear hm
        have HP := Lib.hid hp; clear hp
        clear hdr
        by_cases hc : 48 ≤ c.toNat ∧ c.toNat ≤ 57
        · rw [if_pos hc] at hstep
          have HS := Lib.hid hstep; clear hstep
          obtain ⟨c1, c2⟩ := hc
          have i3 : decide ((48 : Int) ≤ (c.toNat : Int)) = true := by rw [decide_eq_true_iff]; omega
          have i4 : decide ((c.toNat : Int) ≤ 57) = true := by rw [decide_eq_true_iff]; omega
          go_wp2
          go_roundw
          case rel =>
            refine ⟨10 * m + (c.toNat - 48), j + 1, ?_, by go_num, HS.out, by omega, by omega, by have := HM.out; have := HP.out; omega, trivial⟩
            congr 1; omega
          case measure => simp [RowKit.intOf]; omega
        · rw [if_neg hc] at hstep
          have HS := Lib.hid hstep; clear hstep
          by_cases c1 : 48 ≤ c.toNat
          · have i3 : decide ((48 : Int) ≤ (c.toNat : Int)) = true := by rw [decide_eq_true_iff]; omega
            have i4 : decide ((c.toNat : Int) ≤ 57) = false := by rw [decide_eq_false_iff_not]; omega
            go_wp2
            go_ret2
            exact ⟨by rw [← HS.out]; rfl, rfl⟩
          · have i3 : decide ((48 : Int) ≤ (c.toNat : Int)) = false := by rw [decide_eq_false_iff_not]; omega
            go_wp2
            go_ret2
            exact ⟨by rw [← HS.out]; rfl, rfl⟩
      · have i2 : decide ((j : Int) < 4) = false := by rw [decide_eq_false_iff_not]; omega
        have he : rnumber l = (m, j) := by rw [← HE.out, show 4 - j = 0 by omega]; unfold rnumT; rfl
        have HS := Lib.hid he; clear he
        go_wp2
        go_ret2
        exact ⟨by rw [HS.out]; rfl, rfl⟩
    · have i1 : decide (j < l.length) = false := decide_eq_false h1
      have he : rnumber l = (m, j) := by rw [← HE.out, List.drop_eq_nil_of_le (by omega)]; cases 4 - j <;> (unfold rnumT; rfl)
      have HS := Lib.hid he; clear he
      go_wp2
      go_ret2
      exact ⟨by rw [HS.out]; rfl, rfl⟩

end Go.Proofs.YtggalncjookkiaaDoor
