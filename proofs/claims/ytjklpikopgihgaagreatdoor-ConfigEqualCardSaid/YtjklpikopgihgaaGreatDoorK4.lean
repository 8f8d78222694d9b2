/- The code: Validate. -/
import Derived.Test.YtjklpikopgihgaaGreatDoorK3
set_option linter.unusedVariables false
set_option maxRecDepth 100000
set_option linter.unusedSimpArgs false
namespace Go.Proofs.YtjklpikopgihgaaGreatDoor
open Go.RowKit Go.Lib Cf

/-- What Validate wants to know of the sizes. -/
structure Fair (c : Cfg) : Prop where
  ds : c.ds.length ≤ 1000000
  es : c.es.length ≤ 1000000
  us : c.us.length ≤ 1000000
  ps : c.ps.length ≤ 1000000
  pin : ∀ p ∈ c.ps, p.code.length ≤ 1000000 ∧ p.kinds.length ≤ 1000000
theorem Small.fair {c : Cfg} (h : Small c) : Fair c := by
  refine ⟨by have := h.ds; omega, by have := h.es; omega, by have := h.us; omega, by have := h.ps; omega, fun p hp => ?_⟩
  obtain ⟨k, hk⟩ := List.getElem?_of_mem hp
  have := planCost_mem hk
  have := h.cost
  omega
theorem inR_iff {n lo hi : Int} : inR n lo hi = true ↔ lo ≤ n ∧ n ≤ hi := by unfold inR; simp
theorem inR_not {n lo hi : Int} (h : inR n lo hi = false) : ¬ (lo ≤ n ∧ n ≤ hi) := fun e => by rw [inR_iff.2 e] at h; cases h

set_option maxHeartbeats 4000000 in
theorem validate_any (c : Cfg) (v : Value) (w : World) (h : CfgV w v c) (hin : CfgIn c) (hf : Fair c) :
    Calls Tryz.prog 10 #[v] w fun r w' => r = .returned (.int .i64 (right c)) ∧ Below w.heap.size w w' := by
  obtain ⟨vd, ve, vu, vp, rfl, hd0, he0, hu0, hp0⟩ := h
  obtain ⟨Ad, cd, rfl⟩ := hd0.form
  obtain ⟨Ae, ce, rfl⟩ := he0.form
  obtain ⟨Au, cu, rfl⟩ := hu0.form
  obtain ⟨Ap, cp, rfl⟩ := hp0.form
  obtain ⟨W, hWe, hC, hB0, hWs⟩ := box_cfg w c (.slice Ad c.ds.length cd) (.slice Ae c.es.length ce) (.slice Au c.us.length cu) (.slice Ap c.ps.length cp)
  have hWe' := hWe.symm
  have hV := Lib.hid (show CfgV W (.agg (cfgCells c (.slice Ad c.ds.length cd) (.slice Ae c.es.length ce) (.slice Au c.us.length cu) (.slice Ap c.ps.length cp)).toArray) c from ⟨_, _, _, _, rfl, hd0.below hB0, he0.below hB0, hu0.below hB0, hp0.below hB0⟩)
  have hd' := Lib.hid (hd0.below hB0)
  have hh' := Lib.hid (he0.below hB0)
  have hu' := Lib.hid (hu0.below hB0)
  have hq' := Lib.hid (hp0.below hB0)
  have hC' := Lib.hid hC
  have hB0' := Lib.hid hB0
  have hWl : w.heap.size ≤ W.heap.size := by omega
  have c0 := hC.at_ 0 _ rfl
  have c1 := hC.at_ 1 _ rfl
  have c2 := hC.at_ 2 _ rfl
  have c3 := hC.at_ 3 _ rfl
  have c4 := hC.at_ 4 _ rfl
  have hCl := Lib.hid hC.load
  clear hWe hd0 he0 hu0 hp0 hC hB0
  unfold cfgCells
  have l1 := hf.ds
  have hin' := Lib.hid hin
  have hf' := Lib.hid hf
  clear hin hf
  go_enter Tryz.func10, Tryz.ntmps10
  go_wp2_with fail
  clear hWe'
  refine (cwi_any c.ce 1 9 W).mono ?_
  rintro r w1 ⟨rfl, rfl⟩
  cases q1 : inR c.ce 1 9 with
  | false =>
    have hr := Lib.hid (right1 (c := c) (inR_not q1))
    clear q1
    go_wp2
    go_ret
    exact ⟨ret_i hr.out.symm, hB0'.out⟩
  | true =>
  have f1 := Lib.hid (inR_iff.1 q1)
  clear q1
  go_wp2_with fail
  refine (cwi_any (c.ds.length : Int) 1 4096 W).mono ?_
  rintro r w1 ⟨rfl, rfl⟩
  cases q2 : inR (c.ds.length : Int) 1 4096 with
  | false =>
    have hr := Lib.hid (right2 (c := c) f1.out (fun e => inR_not q2 (by omega)))
    clear q2
    go_wp2
    go_ret
    exact ⟨ret_i hr.out.symm, hB0'.out⟩
  | true =>
  have f2 := Lib.hid (show 1 ≤ c.ds.length ∧ c.ds.length ≤ 4096 from by have := inR_iff.1 q2; omega)
  clear q2
  have hlc := hC'.out.load
  go_wp2_with (refine wpList_load_list rfl 27 _ rfl ⟨w.heap.size, 0, none⟩ rfl (cfgCells c (.slice Ad c.ds.length cd) (.slice Ae c.es.length ce) (.slice Au c.us.length cu) (.slice Ap c.ps.length cp)) hlc ?_)
  refine (validDistricts_any c _ W hV.out f1.out (by omega)).mono ?_
  rintro r w1 ⟨rfl, b1⟩
  have B1 := Lib.hid b1
  clear b1 hlc c0 c1 c2 c3 c4 hCl
  cases q3 : c.ds.all (fun d => inR d 0 (c.ce - 1)) with
  | false =>
    have hr := Lib.hid (right3 (c := c) f1.out f2.out q3)
    clear q3
    go_wp2
    go_ret
    exact ⟨ret_i hr.out.symm, hB0'.out.trans (B1.out.mono hWl)⟩
  | true =>
  have f3 := Lib.hid q3
  have hlc := (hC'.out.below B1.out).load
  clear q3
  go_wp2_with (refine wpList_load_list rfl 27 _ rfl ⟨w.heap.size, 0, none⟩ rfl (cfgCells c (.slice Ad c.ds.length cd) (.slice Ae c.es.length ce) (.slice Au c.us.length cu) (.slice Ap c.ps.length cp)) hlc ?_)
  refine (validEdges_any c _ w1 (hV.out.below B1.out) hin'.out.es hf'.out.ds hf'.out.es).mono ?_
  rintro r w2 ⟨rfl, b2⟩
  have B2 := Lib.hid (then_ B1.out b2)
  clear b2 hlc
  cases q4 : (c.es.all (edgeOk c.ds.length) && decide (c.es.length ≤ 16384)) with
  | false =>
    have hr := Lib.hid (right4 (c := c) f1.out f2.out f3.out (by
      rw [Bool.and_eq_false_iff] at q4
      rcases q4 with q | q
      · exact .inl q
      · exact .inr (by have := of_decide_eq_false q; omega)))
    clear q4
    go_wp2
    go_ret
    exact ⟨ret_i hr.out.symm, hB0'.out.trans (B2.out.mono hWl)⟩
  | true =>
  have f4 := Lib.hid (show ¬ (c.es.all (edgeOk c.ds.length) = false ∨ 16384 < c.es.length) from by
    rw [Bool.and_eq_true, decide_eq_true_eq] at q4
    rintro (e | e)
    · rw [q4.1] at e; cases e
    · omega)
  have hlc := (hC'.out.below B2.out).load
  clear q4
  go_wp2_with (refine wpList_load_list rfl 27 _ rfl ⟨w.heap.size, 0, none⟩ rfl (cfgCells c (.slice Ad c.ds.length cd) (.slice Ae c.es.length ce) (.slice Au c.us.length cu) (.slice Ap c.ps.length cp)) hlc ?_)
  refine (validUnits_any c _ w2 (hV.out.below B2.out) hin'.out.us f1.out hf'.out.ds hf'.out.us).mono ?_
  rintro r w3 ⟨rfl, b3⟩
  have B3 := Lib.hid (then_ B2.out b3)
  clear b3 hlc
  cases q5 : (c.us.all (unitOk c.ce c.ds.length) && decide (c.us.length ≤ 256)) with
  | false =>
    have hr := Lib.hid (right5 (c := c) f1.out f2.out f3.out f4.out (by
      rw [Bool.and_eq_false_iff] at q5
      rcases q5 with q | q
      · exact .inl q
      · exact .inr (by have := of_decide_eq_false q; omega)))
    clear q5
    go_wp2
    go_ret
    exact ⟨ret_i hr.out.symm, hB0'.out.trans (B3.out.mono hWl)⟩
  | true =>
  have f5 := Lib.hid (show ¬ (c.us.all (unitOk c.ce c.ds.length) = false ∨ 256 < c.us.length) from by
    rw [Bool.and_eq_true, decide_eq_true_eq] at q5
    rintro (e | e)
    · rw [q5.1] at e; cases e
    · omega)
  have c4 := (hC'.out.below B3.out).at_ 4 _ rfl
  clear q5
  go_wp2_with fail
  refine (validPlans_any c.ps _ w3 (hq'.out.below B3.out) (fun p hp => by have := hf'.out.pin p hp; omega) (by have := hf'.out.ps; omega)).mono ?_
  rintro r w4 ⟨rfl, b4⟩
  have B4 := Lib.hid (then_ B3.out b4)
  clear b4 c4
  cases q6 : plansOk [] c.ps with
  | false =>
    have hr := Lib.hid (right6 (c := c) f1.out f2.out f3.out f4.out f5.out q6)
    clear q6
    go_wp2
    go_ret
    exact ⟨ret_i hr.out.symm, hB0'.out.trans (B4.out.mono hWl)⟩
  | true =>
  have f6 := Lib.hid q6
  have hlc := (hC'.out.below B4.out).load
  clear q6
  go_wp2_with (refine wpList_load_list rfl 27 _ rfl ⟨w.heap.size, 0, none⟩ rfl (cfgCells c (.slice Ad c.ds.length cd) (.slice Ae c.es.length ce) (.slice Au c.us.length cu) (.slice Ap c.ps.length cp)) hlc ?_)
  refine (validParameters_any c _ w4 (hV.out.below B4.out)).mono ?_
  rintro r w5 ⟨rfl, b5⟩
  have B5 := Lib.hid (then_ B4.out b5)
  clear b5 hlc
  cases q7 : numsOk c with
  | false =>
    have hr := Lib.hid (right7 (c := c) f1.out f2.out f3.out f4.out f5.out f6.out q7)
    clear q7
    go_wp2
    go_ret
    exact ⟨ret_i hr.out.symm, hB0'.out.trans (B5.out.mono hWl)⟩
  | true =>
    have hr := Lib.hid (right0 (c := c) f1.out f2.out f3.out f4.out f5.out f6.out q7)
    clear q7
    go_wp2
    go_ret
    exact ⟨ret_i hr.out.symm, hB0'.out.trans (B5.out.mono hWl)⟩
end Go.Proofs.YtjklpikopgihgaaGreatDoor
