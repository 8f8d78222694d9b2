/- The reference: Great, Code, within. -/
import Derived.Test.YtjklpikopgihgaaGreatDoorW1
set_option linter.unusedVariables false
set_option maxRecDepth 100000
set_option linter.unusedSimpArgs false
namespace Go.Proofs.YtjklpikopgihgaaGreatDoor
open Go.RowKit Go.Lib Cf

/-- What an argument's plans may hold. -/
def PsIn (ps : List Plan) : Prop := ∀ p ∈ ps, p.code.length ≤ 2305843009213693952 ∧ p.kinds.length ≤ 2305843009213693952
theorem great_yes {c : Cfg} (h : 4000 < planCost c.ps) : great c = true := by unfold great; simp [h]

theorem great_any (c : Cfg) (v : Value) (w : World) (h : CfgV w v c) (hp : PsIn c.ps) (h1 : c.ds.length ≤ 9223372036854775807) (h2 : c.es.length ≤ 9223372036854775807) (h3 : c.us.length ≤ 9223372036854775807) (h4 : c.ps.length ≤ 9223372036854775807) :
    Calls Tryz.prog 8 #[v] w fun r w' => r = .returned (.bool (great c)) ∧ Below w.heap.size w w' := by
  obtain ⟨vd, ve, vu, vp, rfl, hd, he, hu, hq⟩ := h
  have hB0 : Below w.heap.size w (w.alloc (.cells (cfgCells c vd ve vu vp).toArray 27)) := (Below.refl _ _).alloc (Nat.le_refl _) _
  have hC0 := cb_new w c vd ve vu vp
  have hq0 := hq.below hB0
  obtain ⟨Ad, cd, rfl⟩ := hd.form
  obtain ⟨Ae, ce, rfl⟩ := he.form
  obtain ⟨Au, cu, rfl⟩ := hu.form
  obtain ⟨Ap, cp, rfl⟩ := hq.form
  clear hd he hu hq
  unfold cfgCells at hB0 hC0 hq0 ⊢
  go_enter Tryz.func8, Tryz.ntmps8
  generalize hW : w.alloc (.cells #[.int .i64 c.ce, .slice Ad c.ds.length cd, .slice Ae c.es.length ce, .slice Au c.us.length cu, .slice Ap c.ps.length cp, .int .i64 c.n0, .int .i64 c.n1, .int .i64 c.n2, .int .i64 c.n3, .int .i64 c.n4, .int .i64 c.n5, .int .i64 c.n6, .int .i64 c.n7, .int .i64 c.n8, .int .i64 c.n9] 27) = W at hB0 hC0 hq0
  have hC : CB W w.heap.size c (.slice Ad c.ds.length cd) (.slice Ae c.es.length ce) (.slice Au c.us.length cu) (.slice Ap c.ps.length cp) := hC0
  have hCh := Lib.hid hC
  have c4 := hC.at_ 4 _ rfl
  have hq' := Lib.hid hq0
  clear hC0 hC hq0
  go_wp2_with fail
  clear hW
  have hWs : w.heap.size ≤ W.heap.size := hB0.size
  go_loopw [3, 9] (fun n i w' => ∃ k N : Nat, i = .int .i64 (k : Int) ∧ k ≤ c.ps.length ∧ n = .int .i64 (N : Int) ∧ planCost (c.ps.take k) = N ∧ N ≤ 4000 ∧ Below W.heap.size W w') (fun _ i _ => c.ps.length - (intOf i).toNat)
  case atStart => exact ⟨0, 0, rfl, by omega, rfl, by simp [planCost], by omega, Below.refl _ _⟩
  case round =>
    obtain ⟨k, N, rfl, hk, rfl, hN, hN4, hB⟩ := hrel
    have hB' := Lib.hid hB
    by_cases hlt : k < c.ps.length
    · obtain ⟨p, hp0⟩ : ∃ p, c.ps[k]? = some p := ⟨_, List.getElem?_eq_getElem hlt⟩
      obtain ⟨ad, u, rfl, hat, hu⟩ := (hq'.out.below hB).at_ hp0
      obtain ⟨Ak, ck, rfl⟩ := hu.form
      obtain ⟨b1, b2⟩ := hp p (List.mem_of_getElem? hp0)
      have hcost := planCost_take hp0
      obtain ⟨L1, hL1⟩ : ∃ L1, p.code.length = L1 := ⟨_, rfl⟩
      obtain ⟨L2, hL2⟩ : ∃ L2, p.kinds.length = L2 := ⟨_, rfl⟩
      obtain ⟨N2, hN2⟩ : ∃ N2, N + L1 + L2 = N2 := ⟨_, rfl⟩
      rw [hN, hL1, hL2] at hcost
      have e1 : (k : Int) < (c.ps.length : Int) := by omega
      have e2 : (0 : Int) ≤ (k : Int) := by omega
      have i1 : (N : Int) ≤ 4000 := by omega
      have i2 : (L1 : Int) ≤ 2305843009213693952 := by omega
      have i3 : (L2 : Int) ≤ 2305843009213693952 := by omega
      have hsum : (N : Int) + (L1 : Int) + (L2 : Int) = (N2 : Int) := by omega
      have hl := load_plan hat
      have hle := planCost_le c.ps (k + 1)
      have hcN : planCost (c.ps.take (k + 1)) = N2 := by omega
      have hcN' := Lib.hid hcN
      have hle' := Lib.hid hle
      have hs : (⟨p.code.toArray⟩ : ByteArray).size = L1 := by simp [ByteArray.size, hL1]
      have hBa : Below wr.heap.size wr (wr.alloc (.cells #[.string ⟨p.code.toArray⟩, .int .i64 p.urg, .slice Ak L2 ck] 43)) := (Below.refl _ _).alloc (Nat.le_refl _) _
      have hB2 := Lib.hid (then_ hB hBa)
      rw [hL2] at hl
      clear hp0 hat hu hN hcost hN2 hL1 hL2 hBa hcN hle hB
      by_cases hbig : 4000 < N2
      · have j1 : (4000 : Int) < (N2 : Int) := by omega
        go_wp2_with (refine wpList_load_list rfl 43 _ rfl (ad.add (k * 3)) rfl [.string ⟨p.code.toArray⟩, .int .i64 p.urg, .slice Ak L2 ck] hl ?_)
        go_ret
        exact ⟨ret_b (great_yes (by have := hcN'.out; have := hle'.out; omega)).symm, hB0.trans (hB2.out.mono hWs)⟩
      · have j1 : ¬ (4000 : Int) < (N2 : Int) := by omega
        go_wp2_with (refine wpList_load_list rfl 43 _ rfl (ad.add (k * 3)) rfl [.string ⟨p.code.toArray⟩, .int .i64 p.urg, .slice Ak L2 ck] hl ?_)
        go_roundw
        case rel => exact ⟨k + 1, N2, by go_num, by omega, rfl, hcN'.out, by omega, hB2.out⟩
        case measure => simp [intOf]; omega
    · obtain rfl : k = c.ps.length := by omega
      rw [List.take_length] at hN
      have hCr := hCh.out.below hB
      have c1 := hCr.at_ 1 _ rfl
      have c2 := hCr.at_ 2 _ rfl
      have c3 := hCr.at_ 3 _ rfl
      have c5 := hCr.at_ 4 _ rfl
      have hno : decide (4000 < planCost c.ps) = false := decide_eq_false (by omega)
      have hend := Lib.hid (hB0.trans (hB.mono hWs))
      clear hB hCr c4
      by_cases q1 : 60 < c.ds.length
      · have t1 : (60 : Int) < (c.ds.length : Int) := by omega
        have hg := Lib.hid (show great c = true from by unfold great; simp [q1])
        clear q1 hno
        go_wp2
        go_ret
        exact ⟨ret_b hg.out.symm, hend.out⟩
      have t1 : ¬ (60 : Int) < (c.ds.length : Int) := by omega
      by_cases q2 : 60 < c.es.length
      · have t2 : (60 : Int) < (c.es.length : Int) := by omega
        have hg := Lib.hid (show great c = true from by unfold great; simp [q2])
        clear q1 q2 hno
        go_wp2
        go_ret
        exact ⟨ret_b hg.out.symm, hend.out⟩
      have t2 : ¬ (60 : Int) < (c.es.length : Int) := by omega
      by_cases q3 : 60 < c.us.length
      · have t3 : (60 : Int) < (c.us.length : Int) := by omega
        have hg := Lib.hid (show great c = true from by unfold great; simp [q3])
        clear q1 q2 q3 hno
        go_wp2
        go_ret
        exact ⟨ret_b hg.out.symm, hend.out⟩
      have t3 : ¬ (60 : Int) < (c.us.length : Int) := by omega
      by_cases q4 : 70 < c.ps.length
      · have t4 : (70 : Int) < (c.ps.length : Int) := by omega
        have hg := Lib.hid (show great c = true from by unfold great; simp [q4])
        clear q1 q2 q3 q4 hno
        go_wp2
        go_ret
        exact ⟨ret_b hg.out.symm, hend.out⟩
      have t4 : ¬ (70 : Int) < (c.ps.length : Int) := by omega
      have hg := Lib.hid (show great c = false from by unfold great; rw [hno, decide_eq_false q1, decide_eq_false q2, decide_eq_false q3, decide_eq_false q4]; rfl)
      clear q1 q2 q3 q4 hno
      go_wp2
      go_ret
      exact ⟨ret_b hg.out.symm, hend.out⟩
theorem great_few {c : Cfg} (h : great c = false) : planCost c.ps ≤ 4000 ∧ c.ds.length ≤ 60 ∧ c.es.length ≤ 60 ∧ c.us.length ≤ 60 ∧ c.ps.length ≤ 70 := by
  unfold great at h
  simp only [Bool.or_eq_false_iff, decide_eq_false_iff_not] at h
  omega

theorem within_any (n lo hi : Int) (w : World) : Calls Tryz.prog 30 #[.int .i64 n, .int .i64 lo, .int .i64 hi] w fun r w' => r = .returned (.bool (inR n lo hi)) ∧ w = w' := by
  by_cases h1 : lo ≤ n
  · by_cases h2 : n ≤ hi
    · have hr := Lib.hid (show inR n lo hi = true from by unfold inR; simp [h1, h2])
      go_enter Tryz.func30, Tryz.ntmps30
      go_wp2
      go_ret
      exact ⟨ret_b hr.out.symm, rfl⟩
    · have hr := Lib.hid (show inR n lo hi = false from by unfold inR; simp [h1, h2])
      go_enter Tryz.func30, Tryz.ntmps30
      go_wp2
      go_ret
      exact ⟨ret_b hr.out.symm, rfl⟩
  · have hr := Lib.hid (show inR n lo hi = false from by unfold inR; simp [h1])
    go_enter Tryz.func30, Tryz.ntmps30
    go_wp2
    go_ret
    exact ⟨ret_b hr.out.symm, rfl⟩
end Go.Proofs.YtjklpikopgihgaaGreatDoor
