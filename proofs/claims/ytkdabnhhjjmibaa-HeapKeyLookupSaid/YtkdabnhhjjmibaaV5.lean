/- The law HeapKeyLookup. -/
import Derived.Test.YtkdabnhhjjmibaaVR
namespace Go.Proofs.Ytkdabnhhjjmibaa
open Go.RowKit Go.Lib Hp

theorem lawKey (A B : Option Addr) (c d : Nat) (la : List (Int × Int × Int)) (ls : List Int) (W : World) (hr : RdA W A la) (hs : RdN W B ls) (hl : la.length ≤ 9223372036854775807) (hm : ls.length ≤ 9223372036854775807) :
    Calls Try.prog 5 #[.slice A la.length c, .slice B ls.length d] W fun r w' => r = .returned (.bool true) ∧ Below W.heap.size W w' := by
  by_cases hbig : 100 < la.length
  · have hb1 : (100 : Int) < (la.length : Int) := by omega
    go_enter Try.func5, Try.ntmps5
    go_wp2_with (go_at_call 9; refine (wakes_any _).mono ?_; rintro r w1 ⟨rfl, b1⟩)
    go_ret
    exact ⟨rfl, b1⟩
  · have hb1 : (la.length : Int) ≤ 100 := by omega
    by_cases hbig2 : 50 < ls.length
    · have hb2 : (50 : Int) < (ls.length : Int) := by omega
      go_enter Try.func5, Try.ntmps5
      go_wp2_with (go_at_call 9; refine (wakes_any _).mono ?_; rintro r w1 ⟨rfl, b1⟩)
      go_ret
      exact ⟨rfl, b1⟩
    · have hb2 : (ls.length : Int) ≤ 50 := by omega
      have hr' := Lib.hid hr
      have hs' := Lib.hid hs
      clear hr hs
      go_enter Try.func5, Try.ntmps5
      go_wp2_with fail
      refine (wakes_any _).mono ?_
      rintro r w1 ⟨rfl, b1⟩
      go_wp2_with fail
      refine (made_any A c la w1 (hr'.out.below b1) (by omega)).mono ?_
      rintro r w2 ⟨hb, v, m, vx, rfl, H2, L2, K2⟩
      have hlen : (puts la).length ≤ 100 := by have := puts_length la la.length (Nat.le_refl _); rw [List.take_length] at this; omega
      generalize puts la = x at H2 L2 hlen
      obtain ⟨A2, c2, rfl⟩ := L2.form
      have B2 : Below W.heap.size W w2 := then_ b1 (K2.bel.mono (Nat.le_refl _))
      have hs2 := Lib.hid (hs'.out.below B2)
      have H2 := Lib.hid H2
      have L2 := Lib.hid L2
      clear K2 b1 hr' hs'
      go_wp2_with fail
      go_loop [30] (fun i => ∃ k : Nat, i = .int .i64 k ∧ k ≤ ls.length) (fun i => ls.length - (intOf i).toNat)
      case atStart => exact ⟨0, rfl, by omega⟩
      case round =>
        obtain ⟨k, rfl, hk⟩ := hrel
        by_cases hlt : k < ls.length
        · obtain ⟨z, hz⟩ : ∃ z, ls[k]? = some z := ⟨_, List.getElem?_eq_getElem hlt⟩
          obtain ⟨ad, rfl, _, hc⟩ := hs2.out.1 (by omega)
          have c0 := hc k z hz
          have hfz := hs2.out.2 z (List.mem_of_getElem? hz)
          have e1 : (k : Int) < (ls.length : Int) := by omega
          have e2 : (0 : Int) ≤ (k : Int) := by omega
          clear hc
          go_wp2_with fail
          refine (key_anyI hb v m x _ z w2 H2.out hfz).mono ?_
          rintro r w3 ⟨rfl, rfl⟩
          generalize hq1 : (rkey x z).getD 0 = q1
          generalize hq2 : rhas x z = q2
          go_wp2_with fail
          refine (rkey_any _ x z w2 L2.out (by omega)).mono ?_
          rintro r w3 ⟨rfl, rfl⟩
          rw [hq1, hq2]
          go_wp2
          go_round
          case rel => exact ⟨k + 1, by go_num, by omega⟩
          case measure => simp [intOf]; omega
        · obtain rfl : k = ls.length := by omega
          go_wp2_with fail
          refine (len_anyI hb v m x _ w2 H2.out).mono ?_
          rintro r w3 ⟨rfl, rfl⟩
          go_wp2
          go_ret
          exact ⟨rfl, B2⟩
end Go.Proofs.Ytkdabnhhjjmibaa
