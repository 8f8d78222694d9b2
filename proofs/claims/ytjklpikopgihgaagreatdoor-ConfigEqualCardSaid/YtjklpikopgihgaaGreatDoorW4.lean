/- The reference: unit, Numbers, Default. -/
import Derived.Test.YtjklpikopgihgaaGreatDoorW3
set_option linter.unusedVariables false
set_option maxRecDepth 100000
set_option linter.unusedSimpArgs false
namespace Go.Proofs.YtjklpikopgihgaaGreatDoor
open Go.RowKit Go.Lib Cf

theorem unit_any (c : Cfg) (v : Value) (e : Int × Int × Int) (w : World) (h : CfgV w v c) (he : I64 e.1 ∧ I64 e.2.1 ∧ I64 e.2.2) (hl : c.ds.length ≤ 9223372036854775807) :
    Calls Tryz.prog 27 #[v, .agg #[.int .i64 e.1, .int .i64 e.2.1, .int .i64 e.2.2]] w fun r w' => r = .returned (.bool (unitOk c.ce c.ds.length e)) ∧ Below w.heap.size w w' := by
  obtain ⟨vd, ve, vu, vp, rfl, hd, hh, hu, hq⟩ := h
  obtain ⟨Ad, cd, rfl⟩ := hd.form
  obtain ⟨Ae, ce, rfl⟩ := hh.form
  obtain ⟨Au, cu, rfl⟩ := hu.form
  obtain ⟨Ap, cp, rfl⟩ := hq.form
  obtain ⟨x, y, t⟩ := e
  simp only at he ⊢
  clear hd hh hu hq
  unfold cfgCells
  have hB : Below w.heap.size w ((w.alloc (.cells #[.int .i64 c.ce, .slice Ad c.ds.length cd, .slice Ae c.es.length ce, .slice Au c.us.length cu, .slice Ap c.ps.length cp, .int .i64 c.n0, .int .i64 c.n1, .int .i64 c.n2, .int .i64 c.n3, .int .i64 c.n4, .int .i64 c.n5, .int .i64 c.n6, .int .i64 c.n7, .int .i64 c.n8, .int .i64 c.n9] 27)).alloc (.cells #[.int .i64 x, .int .i64 y, .int .i64 t] 50)) := ((Below.refl _ _).alloc (Nat.le_refl _) _).alloc (by simp) _
  have hB' := Lib.hid hB
  clear hB
  have hgen := Lib.hid (show unitOk c.ce c.ds.length (x, y, t) = (inR x 1 4 && inR y 0 (c.ce - 1) && inR t 0 ((c.ds.length : Int) - 1)) from rfl)
  by_cases t1 : 1 ≤ x
  rotate_left
  · have hr := Lib.hid (show unitOk c.ce c.ds.length (x, y, t) = false from by rw [hgen.out]; unfold inR; rw [decide_eq_false t1]; simp)
    go_enter Tryz.func27, Tryz.ntmps27
    go_wp2
    go_ret
    exact ⟨ret_b hr.out.symm, hB'.out⟩
  by_cases t2 : x ≤ 4
  rotate_left
  · have hr := Lib.hid (show unitOk c.ce c.ds.length (x, y, t) = false from by rw [hgen.out]; unfold inR; rw [decide_eq_false t2]; simp)
    go_enter Tryz.func27, Tryz.ntmps27
    go_wp2
    go_ret
    exact ⟨ret_b hr.out.symm, hB'.out⟩
  by_cases t3 : 0 ≤ y
  rotate_left
  · have hr := Lib.hid (show unitOk c.ce c.ds.length (x, y, t) = false from by rw [hgen.out]; unfold inR; rw [decide_eq_false t3]; simp)
    go_enter Tryz.func27, Tryz.ntmps27
    go_wp2
    go_ret
    exact ⟨ret_b hr.out.symm, hB'.out⟩
  by_cases t4 : y < c.ce
  rotate_left
  · have hr := Lib.hid (show unitOk c.ce c.ds.length (x, y, t) = false from by rw [hgen.out]; unfold inR; rw [decide_eq_false (show ¬ y ≤ c.ce - 1 from by omega)]; simp)
    go_enter Tryz.func27, Tryz.ntmps27
    go_wp2
    go_ret
    exact ⟨ret_b hr.out.symm, hB'.out⟩
  by_cases t5 : 0 ≤ t
  rotate_left
  · have hr := Lib.hid (show unitOk c.ce c.ds.length (x, y, t) = false from by rw [hgen.out]; unfold inR; rw [decide_eq_false t5]; simp)
    go_enter Tryz.func27, Tryz.ntmps27
    go_wp2
    go_ret
    exact ⟨ret_b hr.out.symm, hB'.out⟩
  by_cases t6 : t < (c.ds.length : Int)
  rotate_left
  · have hr := Lib.hid (show unitOk c.ce c.ds.length (x, y, t) = false from by rw [hgen.out]; unfold inR; rw [decide_eq_false (show ¬ t ≤ (c.ds.length : Int) - 1 from by omega)]; simp)
    go_enter Tryz.func27, Tryz.ntmps27
    go_wp2
    go_ret
    exact ⟨ret_b hr.out.symm, hB'.out⟩
  have hr := Lib.hid (show unitOk c.ce c.ds.length (x, y, t) = true from by
    rw [hgen.out]; unfold inR
    rw [decide_eq_true t1, decide_eq_true t2, decide_eq_true t3, decide_eq_true t5, decide_eq_true (show y ≤ c.ce - 1 from by omega), decide_eq_true (show t ≤ (c.ds.length : Int) - 1 from by omega)]; rfl)
  go_enter Tryz.func27, Tryz.ntmps27
  go_wp2
  go_ret
  exact ⟨ret_b hr.out.symm, hB'.out⟩

/-- The ten numbers. -/
theorem numbers_any (c : Cfg) (v : Value) (w : World) (h : CfgV w v c) : Calls Tryz.prog 29 #[v] w fun r w' => ∃ u, r = .returned u ∧ RN w' u c.nums ∧ Below w.heap.size w w' := by
  obtain ⟨vd, ve, vu, vp, rfl, hd, hh, hu, hq⟩ := h
  obtain ⟨Ad, cd, rfl⟩ := hd.form
  obtain ⟨Ae, ce, rfl⟩ := hh.form
  obtain ⟨Au, cu, rfl⟩ := hu.form
  obtain ⟨Ap, cp, rfl⟩ := hq.form
  clear hd hh hu hq
  unfold cfgCells
  have hB : Below w.heap.size w ((w.alloc (.cells #[.int .i64 c.ce, .slice Ad c.ds.length cd, .slice Ae c.es.length ce, .slice Au c.us.length cu, .slice Ap c.ps.length cp, .int .i64 c.n0, .int .i64 c.n1, .int .i64 c.n2, .int .i64 c.n3, .int .i64 c.n4, .int .i64 c.n5, .int .i64 c.n6, .int .i64 c.n7, .int .i64 c.n8, .int .i64 c.n9] 27)).alloc (.cells #[.int .i64 c.n0, .int .i64 c.n1, .int .i64 c.n2, .int .i64 c.n3, .int .i64 c.n4, .int .i64 c.n5, .int .i64 c.n6, .int .i64 c.n7, .int .i64 c.n8, .int .i64 c.n9] 2)) := ((Below.refl _ _).alloc (Nat.le_refl _) _).alloc (by simp) _
  have hB' := Lib.hid hB
  have hc := Lib.hid (heap_alloc_new (w.alloc (.cells #[.int .i64 c.ce, .slice Ad c.ds.length cd, .slice Ae c.es.length ce, .slice Au c.us.length cu, .slice Ap c.ps.length cp, .int .i64 c.n0, .int .i64 c.n1, .int .i64 c.n2, .int .i64 c.n3, .int .i64 c.n4, .int .i64 c.n5, .int .i64 c.n6, .int .i64 c.n7, .int .i64 c.n8, .int .i64 c.n9] 27)) (.cells #[.int .i64 c.n0, .int .i64 c.n1, .int .i64 c.n2, .int .i64 c.n3, .int .i64 c.n4, .int .i64 c.n5, .int .i64 c.n6, .int .i64 c.n7, .int .i64 c.n8, .int .i64 c.n9] 2))
  clear hB
  go_enter Tryz.func29, Tryz.ntmps29
  go_wp2
  go_ret
  refine ⟨_, rfl, .inr ⟨⟨w.heap.size + 1, 0, none⟩, 10, rfl, fun j z hj => ?_⟩, hB'.out⟩
  have hc' := hc.out
  rw [World.size_alloc] at hc'
  have hadd : (⟨w.heap.size + 1, 0, none⟩ : Addr).add j = ⟨w.heap.size + 1, j, none⟩ := by unfold Addr.add; split <;> simp_all
  rw [hadd, cell_of_row _ _ j _ _ _ hc']
  unfold Cfg.nums at hj
  match j, hj with
  | 0, hj => simp at hj; subst hj; rfl
  | 1, hj => simp at hj; subst hj; rfl
  | 2, hj => simp at hj; subst hj; rfl
  | 3, hj => simp at hj; subst hj; rfl
  | 4, hj => simp at hj; subst hj; rfl
  | 5, hj => simp at hj; subst hj; rfl
  | 6, hj => simp at hj; subst hj; rfl
  | 7, hj => simp at hj; subst hj; rfl
  | 8, hj => simp at hj; subst hj; rfl
  | 9, hj => simp at hj; subst hj; rfl
  | j + 10, hj => simp at hj
end Go.Proofs.YtjklpikopgihgaaGreatDoor
