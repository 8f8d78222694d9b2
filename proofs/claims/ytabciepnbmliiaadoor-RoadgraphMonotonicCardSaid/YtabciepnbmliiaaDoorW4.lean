/- The reference: Ahead. -/
import Derived.Test.YtabciepnbmliiaaDoorW3
set_option linter.unusedVariables false
set_option maxRecDepth 100000
set_option linter.unusedSimpArgs false
namespace Go.Proofs.YtabciepnbmliiaaDoor
open Go.RowKit Go.Lib Rg

/-- A call gives a new slice of its own with xs. -/
def GivesO (w : World) (xs : List Int) (e : Ending) (w' : World) : Prop := ∃ v, e = .returned v ∧ OwnI w' w.heap.size v xs ∧ Below w.heap.size w w'

set_option maxHeartbeats 4000000 in
theorem rahead_any (A B : Option Addr) (c d n m N : Nat) (l : List Ed3) (xs : List Int) (w : World) (hr : Re w A n l) (hs : Rd w B m xs) (hF : FairR N l) (hm : m ≤ 9223372036854775807) :
    Calls Tryd.prog 28 #[.int .i64 N, .slice A n c, .slice B m d] w (GivesO w (aheadR N l xs)) := by
  have hl1 : n ≤ l.length := Nat.le_of_eq hr.1
  have hl2 : l.length ≤ n := Nat.le_of_eq hr.1.symm
  have hm1 : m ≤ xs.length := Nat.le_of_eq hs.1
  have hm2 : xs.length ≤ m := Nat.le_of_eq hs.1.symm
  have hN : N ≤ 4096 := by have := hF.hi; omega
  have hn : n ≤ 16384 := by have := hF.few; omega
  have hfin1 := Lib.hid (show starts N [] (xs.take m) = starts N [] xs from by rw [List.take_of_length_le hm2])
  have hst := Lib.hid (starts_all (N := N) xs [] (by simp) (by simp))
  have hre := Lib.hid hr
  have hrs := Lib.hid hs
  have hFF := Lib.hid hF
  clear hr hs hF
  go_enter Tryd.func28, Tryd.ntmps28
  go_wp2
  go_loopw [7, 8] (fun v i w' => ∃ k : Nat, i = .int .i64 k ∧ k ≤ m ∧ OwnI w' w.heap.size v (starts N [] (xs.take k)) ∧ Below w.heap.size w w') (fun _ i _ => m - (RowKit.intOf i).toNat)
  case atStart => exact ⟨0, rfl, by omega, OwnI.nil _ _, Below.refl _ _⟩
  case round =>
    obtain ⟨k, rfl, hk, hown, hb⟩ := hrel
    have hz := hb.size
    by_cases hlt : k < m
    · obtain ⟨ad, rfl, hc⟩ := (hrs.out.below hb).at_ hlt
      have ht := Lib.hid (take_next xs k (by omega))
      have hno := Lib.hid (fun h => starts_no (N := N) (src := xs.take k) (f := xs.getD k 0) h)
      have hyes := Lib.hid (fun h => starts_yes (N := N) (src := xs.take k) (f := xs.getD k 0) h)
      have hlen := starts_few (N := N) (xs.take k)
      generalize xs.getD k 0 = f at hc ht hno hyes
      have hstep : ∀ T, starts N [] (xs.take k ++ [f]) = T → starts N [] (xs.take (k + 1)) = T := fun T h => by rw [ht.out]; exact h
      have hstep' := Lib.hid hstep
      clear hstep ht
      generalize starts N [] (xs.take k ++ [f]) = T2 at hno hyes hstep'
      generalize starts N [] (xs.take k) = T at hown hno hyes hlen
      obtain ⟨vA, vc, rfl⟩ := hown.slice
      have hT := Lib.hid hown.rd
      have hbh := Lib.hid hb
      clear hb
      by_cases u1 : 0 ≤ f
      · by_cases u2 : f < (N : Int)
        · by_cases u3 : f ∈ T
          · have hd : decide (f ∈ T) = true := decide_eq_true u3
            have e2 := Lib.hid (hno.out (fun h => h.2.2 u3))
            have hOw := Lib.hid hown
            clear u3 hno hyes hown
            go_wp2_with (go_at_call 47; refine (rhas_any _ _ _ _ _ _ hT.out (by omega)).mono ?_; rintro e w' ⟨rfl, rfl⟩)
            go_roundw
            case rel => exact ⟨k + 1, by go_num, by omega, by rw [hstep'.out _ e2.out]; exact hOw.out, hbh.out⟩
            case measure => simp [RowKit.intOf]; omega
          · have hd : decide (f ∈ T) = false := decide_eq_false u3
            have e2 := Lib.hid (hyes.out ⟨u1, u2, u3⟩)
            clear u3 hno hyes
            go_wp2_with (first | (go_at_call 47; refine (rhas_any _ _ _ _ _ _ hT.out (by omega)).mono ?_; rintro e w' ⟨rfl, rfl⟩) | (at_builtin; refine wpList_push _ _ w.heap.size _ _ _ rfl rfl rfl rfl hown (by omega) (by omega) ?_; intro v2 w2 hown2 hb2))
            go_roundw
            case rel => exact ⟨k + 1, by go_num, by omega, by rw [hstep'.out _ e2.out]; exact hown2, hbh.out.trans hb2⟩
            case measure => simp [RowKit.intOf]; omega
        · have e2 := Lib.hid (hno.out (fun h => u2 h.2.1))
          have hOw := Lib.hid hown
          clear hno hyes hown
          go_wp2
          go_roundw
          case rel => exact ⟨k + 1, by go_num, by omega, by rw [hstep'.out _ e2.out]; exact hOw.out, hbh.out⟩
          case measure => simp [RowKit.intOf]; omega
      · have e2 := Lib.hid (hno.out (fun h => u1 h.1))
        have hOw := Lib.hid hown
        clear hno hyes hown
        go_wp2
        go_roundw
        case rel => exact ⟨k + 1, by go_num, by omega, by rw [hstep'.out _ e2.out]; exact hOw.out, hbh.out⟩
        case measure => simp [RowKit.intOf]; omega
    · obtain rfl : k = m := by omega
      rw [hfin1.out] at hown
      have hT0n := Lib.hid hst.out.1
      have hT0i := Lib.hid hst.out.2.1
      have hfin2 := Lib.hid (show aheadR N l xs = nodesOf N (rounds l N (starts N [] xs)) from rfl)
      generalize starts N [] xs = T0 at hown hT0n hT0i hfin2
      have hOw := Lib.hid hown
      have hbh := Lib.hid hb
      clear hown hb hst hfin1
      go_wp2
      go_loopw [7, 9] (fun v i w' => ∃ k : Nat, i = .int .i64 k ∧ k ≤ N ∧ OwnI w' w.heap.size v (rounds l k T0) ∧ Below w.heap.size w w') (fun _ i _ => N - (RowKit.intOf i).toNat)
      case atStart => exact ⟨0, rfl, by omega, hOw.out, hbh.out⟩
      case round =>
        clear hOw hbh
        obtain ⟨k, rfl, hk, hown, hb⟩ := hrel
        by_cases hlt : k < N
        · have hOw := Lib.hid hown
          have hbh := Lib.hid hb
          have hend := Lib.hid (show round (l.take n) (rounds l k T0) = rounds l (k + 1) T0 from by rw [List.take_of_length_le hl2]; rfl)
          have hfew := Lib.hid (fun j => round_few hFF.out hT0n.out hT0i.out k j)
          generalize rounds l k T0 = R at hOw hend hfew
          clear hown hb
          go_wp2
          go_loopw [7, 10] (fun v i w' => ∃ j : Nat, i = .int .i64 j ∧ j ≤ n ∧ OwnI w' w.heap.size v (round (l.take j) R) ∧ Below w.heap.size w w') (fun _ i _ => n - (RowKit.intOf i).toNat)
          case atStart => exact ⟨0, rfl, by omega, hOw.out, hbh.out⟩
          case round =>
            clear hOw hbh
            obtain ⟨j, rfl, hj, hown, hb⟩ := hrel
            have hz := hb.size
            by_cases hjn : j < n
            · obtain ⟨ad, rfl, hc0, hc1, hc2⟩ := (hre.out.below hb).at_ hjn
              have hstep := Lib.hid (show round (l.take (j + 1)) R = relax (round (l.take j) R) (l.getD j (0, 0, 0)) from by rw [take_next_e l j (by omega), round_snoc])
              have hlen := hfew.out j
              generalize l.getD j (0, 0, 0) = x at hc0 hc1 hc2 hstep
              obtain ⟨x0, x1, x2⟩ := x
              generalize round (l.take j) R = T at hown hstep hlen
              have e0 : _ = some (Value.int .i64 x0) := hc0
              have e1 : World.cell? _ ⟨(ad.add (j * 3)).block, (ad.add (j * 3)).off + 1, none⟩ = some (.int .i64 x1) := hc1
              have e2 : World.cell? _ ⟨(ad.add (j * 3)).block, (ad.add (j * 3)).off + 2, none⟩ = some (.int .i64 x2) := hc2
              obtain ⟨vA, vc, rfl⟩ := hown.slice
              have hT := Lib.hid hown.rd
              have hbh := Lib.hid hb
              clear hb hc0 hc1 hc2
              by_cases u1 : x2 = 4611686018427387904
              · have q1 : (x2 != 4611686018427387904) = false := by simp [u1]
                have hs2 := Lib.hid (hstep.out.trans (relax_no (fun h => h.1 u1)))
                have hOw := Lib.hid hown
                clear hown hstep u1
                go_wp2
                go_roundw
                case rel => exact ⟨j + 1, by go_num, by omega, by rw [hs2.out]; exact hOw.out, hbh.out⟩
                case measure => simp [RowKit.intOf]; omega
              · have q1 : (x2 != 4611686018427387904) = true := by simp [u1]
                by_cases u2 : x0 ∈ T
                · have d2 : decide (x0 ∈ T) = true := decide_eq_true u2
                  by_cases u3 : x1 ∈ T
                  · have d3 : decide (x1 ∈ T) = true := decide_eq_true u3
                    have hs2 := Lib.hid (hstep.out.trans (relax_no (fun h => h.2.2 u3)))
                    have hOw := Lib.hid hown
                    clear hown hstep u1 u2 u3
                    go_wp2_with (go_at_call 47; refine (rhas_any _ _ _ _ _ _ hT.out (by omega)).mono ?_; rintro e w' ⟨rfl, rfl⟩)
                    go_roundw
                    case rel => exact ⟨j + 1, by go_num, by omega, by rw [hs2.out]; exact hOw.out, hbh.out⟩
                    case measure => simp [RowKit.intOf]; omega
                  · have d3 : decide (x1 ∈ T) = false := decide_eq_false u3
                    have hs2 := Lib.hid (hstep.out.trans (relax_yes ⟨u1, u2, u3⟩))
                    clear hstep u1 u2 u3
                    go_wp2_with (first | (go_at_call 47; refine (rhas_any _ _ _ _ _ _ hT.out (by omega)).mono ?_; rintro e w' ⟨rfl, rfl⟩) | (at_builtin; refine wpList_push _ _ w.heap.size _ _ _ rfl rfl rfl rfl hown (by omega) (by omega) ?_; intro v2 w2 hown2 hb2))
                    go_roundw
                    case rel => exact ⟨j + 1, by go_num, by omega, by rw [hs2.out]; exact hown2, hbh.out.trans hb2⟩
                    case measure => simp [RowKit.intOf]; omega
                · have d2 : decide (x0 ∈ T) = false := decide_eq_false u2
                  have hs2 := Lib.hid (hstep.out.trans (relax_no (fun h => u2 h.2.1)))
                  have hOw := Lib.hid hown
                  clear hown hstep u1 u2
                  go_wp2_with (go_at_call 47; refine (rhas_any _ _ _ _ _ _ hT.out (by omega)).mono ?_; rintro e w' ⟨rfl, rfl⟩)
                  go_roundw
                  case rel => exact ⟨j + 1, by go_num, by omega, by rw [hs2.out]; exact hOw.out, hbh.out⟩
                  case measure => simp [RowKit.intOf]; omega
            · obtain rfl : j = n := by omega
              rw [hend.out] at hown
              have hOw := Lib.hid hown
              have hbh := Lib.hid hb
              clear hown hb
              go_wp2
              go_roundw
              case rel => exact ⟨k + 1, by go_num, by omega, hOw.out, hbh.out⟩
              case measure => simp [RowKit.intOf]; omega
        · obtain rfl : k = N := by omega
          have hlen := rounds_length hFF.out hT0n.out hT0i.out k
          generalize rounds l k T0 = T at hown hfin2 hlen
          obtain ⟨vA, vc, rfl⟩ := hown.slice
          have hT := Lib.hid hown.rd
          have hbh := Lib.hid hb
          clear hown hb hT0n hT0i hFF hre hrs
          go_wp2
          obtain ⟨wo, rfl⟩ : ∃ x, x = wr := ⟨_, rfl⟩
          go_loopw [11, 12] (fun v i w' => ∃ j : Nat, i = .int .i64 j ∧ j ≤ k ∧ OwnI w' wo.heap.size v (nodesTo j T) ∧ Below wo.heap.size wo w') (fun _ i _ => k - (RowKit.intOf i).toNat)
          case atStart => exact ⟨0, rfl, by omega, OwnI.nil _ _, Below.refl _ _⟩
          case round =>
            obtain ⟨j, rfl, hj, hown, hb⟩ := hrel
            have hz := hb.size
            have hT2 := Lib.hid (hT.out.below hb)
            by_cases hjk : j < k
            · have hsucc := Lib.hid (nodesTo_succ j T)
              have hl4 := nodesTo_length j T
              generalize nodesTo j T = L at hown hsucc hl4
              by_cases u1 : (j : Int) ∈ T
              · have d1 : decide ((j : Int) ∈ T) = true := decide_eq_true u1
                have hs2 : Hid (nodesTo (j + 1) T = L ++ [(j : Int)]) := Lib.hid (by rw [hsucc.out, if_pos u1])
                clear u1 hsucc
                go_wp2_with (first | (go_at_call 47; refine (rhas_any _ _ _ _ _ _ hT2.out (by omega)).mono ?_; rintro e w' ⟨rfl, rfl⟩) | (at_builtin; refine wpList_push _ _ wo.heap.size _ _ _ rfl rfl rfl rfl hown (by omega) (by omega) ?_; intro v2 w2 hown2 hb2))
                go_roundw
                case rel => exact ⟨j + 1, by go_num, by omega, by rw [hs2.out]; exact hown2, hb.trans hb2⟩
                case measure => simp [RowKit.intOf]; omega
              · have d1 : decide ((j : Int) ∈ T) = false := decide_eq_false u1
                have hs2 : Hid (nodesTo (j + 1) T = L) := Lib.hid (by rw [hsucc.out, if_neg u1])
                clear u1 hsucc
                go_wp2_with (go_at_call 47; refine (rhas_any _ _ _ _ _ _ hT2.out (by omega)).mono ?_; rintro e w' ⟨rfl, rfl⟩)
                go_roundw
                case rel => exact ⟨j + 1, by go_num, by omega, by rw [hs2.out]; exact hown, hb⟩
                case measure => simp [RowKit.intOf]; omega
            · obtain rfl : j = k := by omega
              go_wp2
              go_ret
              rw [hfin2.out]
              exact ⟨_, rfl, own_mono hown hbh.out.size, hbh.out.trans (hb.mono hbh.out.size)⟩
end Go.Proofs.YtabciepnbmliiaaDoor
