/- The reference: Code, plan, edge, unit, Numbers, Default. -/
import Derived.Test.YtjklpikopgihgaaGreatDoorW2
set_option linter.unusedVariables false
set_option maxRecDepth 100000
set_option linter.unusedSimpArgs false
namespace Go.Proofs.YtjklpikopgihgaaGreatDoor
open Go.RowKit Go.Lib Cf

theorem byte_at {s : Bs} {k : Nat} {b : UInt8} (h : s[k]? = some b) (h' : k < (⟨s.toArray⟩ : ByteArray).size) : (⟨s.toArray⟩ : ByteArray)[k]'h' = b := by
  obtain ⟨h1, h2⟩ := List.getElem?_eq_some_iff.1 h
  exact h2

theorem code_any (s : Bs) (w : World) (hs : s.length ≤ 9223372036854775807) : Calls Tryz.prog 54 #[.string ⟨s.toArray⟩] w fun r w' => r = .returned (.bool (codeOk s)) ∧ w = w' := by
  have hsz : (⟨s.toArray⟩ : ByteArray).size = s.length := by simp [ByteArray.size]
  go_enter Tryz.func54, Tryz.ntmps54
  go_wp2_with fail
  go_loop [3] (fun i => ∃ k : Nat, i = .int .i64 (k : Int) ∧ k ≤ s.length ∧ (s.take k).all byteOk = true) (fun i => s.length - (intOf i).toNat)
  case atStart => exact ⟨0, rfl, by omega, by simp⟩
  case round =>
    obtain ⟨k, rfl, hk, hal⟩ := hrel
    have hal' := Lib.hid hal
    clear hal
    by_cases hlt : k < s.length
    · obtain ⟨b, hb⟩ : ∃ b, s[k]? = some b := ⟨_, List.getElem?_eq_getElem hlt⟩
      have hat := byte_at hb
      have e1 : (k : Int) < (s.length : Int) := by omega
      have e2 : (0 : Int) ≤ (k : Int) := by omega
      have hb' := Lib.hid hb
      clear hb
      by_cases h1 : b.toNat < 33
      · have t1 : (b.toNat : Int) < 33 := by omega
        have hr := Lib.hid (show codeOk s = false from by unfold codeOk; rw [all_of_bad byteOk hb'.out (by unfold byteOk; simp; omega)]; rfl)
        go_wp2
        go_ret
        exact ⟨ret_b hr.out.symm, rfl⟩
      have t1 : ¬ (b.toNat : Int) < 33 := by omega
      by_cases h2 : 126 < b.toNat
      · have t2 : (126 : Int) < (b.toNat : Int) := by omega
        have hr := Lib.hid (show codeOk s = false from by unfold codeOk; rw [all_of_bad byteOk hb'.out (by unfold byteOk; simp; omega)]; rfl)
        go_wp2
        go_ret
        exact ⟨ret_b hr.out.symm, rfl⟩
      have t2 : ¬ (126 : Int) < (b.toNat : Int) := by omega
      have hst := Lib.hid (show (s.take (k + 1)).all byteOk = true from by rw [all_take_succ byteOk hb'.out, hal'.out]; unfold byteOk; simp; omega)
      clear h1 h2
      go_wp2
      go_round
      case rel => exact ⟨k + 1, by go_num, by omega, hst.out⟩
      case measure => simp [intOf]; omega
    · obtain rfl : k = s.length := by omega
      have hal := hal'.out
      rw [List.take_length] at hal
      by_cases h1 : 1 ≤ s.length
      · have t1 : (1 : Int) ≤ (s.length : Int) := by omega
        by_cases h2 : s.length ≤ 40
        · have t2 : (s.length : Int) ≤ 40 := by omega
          have hr := Lib.hid (show codeOk s = true from by unfold codeOk; rw [hal]; simp [h1, h2])
          clear hal
          go_wp2
          go_ret
          exact ⟨ret_b hr.out.symm, rfl⟩
        · have t2 : ¬ (s.length : Int) ≤ 40 := by omega
          have hr := Lib.hid (show codeOk s = false from by unfold codeOk; rw [hal]; simp [h2])
          clear hal
          go_wp2
          go_ret
          exact ⟨ret_b hr.out.symm, rfl⟩
      · have t1 : ¬ (1 : Int) ≤ (s.length : Int) := by omega
        have hr := Lib.hid (show codeOk s = false from by unfold codeOk; simp [h1])
        clear hal
        go_wp2
        go_ret
        exact ⟨ret_b hr.out.symm, rfl⟩

theorem plan_any (p : Plan) (u : Value) (w : World) (hu : RN w u p.kinds) (hk : ∀ k ∈ p.kinds, I64 k) (h1 : p.code.length ≤ 9223372036854775807) (h2 : p.kinds.length ≤ 9223372036854775807) :
    Calls Tryz.prog 28 #[.agg #[.string ⟨p.code.toArray⟩, .int .i64 p.urg, u]] w fun r w' => r = .returned (.bool (planOk p)) ∧ Below w.heap.size w w' := by
  obtain ⟨A, c, rfl⟩ := hu.form
  have hB : Below w.heap.size w (w.alloc (.cells #[.string ⟨p.code.toArray⟩, .int .i64 p.urg, .slice A p.kinds.length c] 43)) := (Below.refl _ _).alloc (Nat.le_refl _) _
  have hu' := Lib.hid (hu.below hB)
  obtain ⟨code, urg, kinds⟩ := p
  simp only at hu' hB hk h1 h2 ⊢
  have hB' := Lib.hid hB
  have hc := heap_alloc_new w (.cells #[.string ⟨code.toArray⟩, .int .i64 urg, .slice A kinds.length c] 43)
  clear hu hB
  go_enter Tryz.func28, Tryz.ntmps28
  go_wp2_with fail
  generalize w.alloc (.cells #[.string ⟨code.toArray⟩, .int .i64 urg, .slice A kinds.length c] 43) = W at hu' hB' hc ⊢
  have c0 : W.cell? ⟨w.heap.size, 0, none⟩ = some (.string ⟨code.toArray⟩) := by rw [cell_of_row _ _ 0 _ _ _ hc]; rfl
  have c1 : W.cell? ⟨w.heap.size, 1, none⟩ = some (.int .i64 urg) := by rw [cell_of_row _ _ 1 _ _ _ hc]; rfl
  have c2 : W.cell? ⟨w.heap.size, 2, none⟩ = some (.slice A kinds.length c) := by rw [cell_of_row _ _ 2 _ _ _ hc]; rfl
  clear hc
  go_loop [8] (fun i => ∃ k : Nat, i = .int .i64 (k : Int) ∧ k ≤ kinds.length ∧ (kinds.take k).all kndOk = true) (fun i => kinds.length - (intOf i).toNat)
  case atStart => exact ⟨0, rfl, by omega, by simp⟩
  case round =>
    obtain ⟨k, rfl, hkk, hal⟩ := hrel
    have hal' := Lib.hid hal
    clear hal
    by_cases hlt : k < kinds.length
    · obtain ⟨z, hz⟩ : ∃ z, kinds[k]? = some z := ⟨_, List.getElem?_eq_getElem hlt⟩
      obtain ⟨ad, rfl, d0⟩ := hu'.out.at_ hz
      have e1 : (k : Int) < (kinds.length : Int) := by omega
      have e2 : (0 : Int) ≤ (k : Int) := by omega
      have hz' := Lib.hid hz
      clear hz
      by_cases t1 : z < 1
      · have hr := Lib.hid (show planOk ⟨code, urg, kinds⟩ = false from by unfold planOk; rw [all_of_bad kndOk hz'.out (by unfold kndOk inR; simp; omega)]; rfl)
        go_wp2
        go_ret
        exact ⟨ret_b hr.out.symm, hB'.out⟩
      by_cases t2 : 4 < z
      · have hr := Lib.hid (show planOk ⟨code, urg, kinds⟩ = false from by unfold planOk; rw [all_of_bad kndOk hz'.out (by unfold kndOk inR; simp; omega)]; rfl)
        go_wp2
        go_ret
        exact ⟨ret_b hr.out.symm, hB'.out⟩
      have hst := Lib.hid (show (kinds.take (k + 1)).all kndOk = true from by rw [all_take_succ kndOk hz'.out, hal'.out]; unfold kndOk inR; simp; omega)
      go_wp2
      go_round
      case rel => exact ⟨k + 1, by go_num, by omega, hst.out⟩
      case measure => simp [intOf]; omega
    · obtain rfl : k = kinds.length := by omega
      have hal := hal'.out
      rw [List.take_length] at hal
      have hgen : planOk ⟨code, urg, kinds⟩ = (codeOk code && inR urg 1 5 && decide (1 ≤ kinds.length) && decide (kinds.length ≤ 8)) := by unfold planOk; rw [hal]; simp
      have hgen' := Lib.hid hgen
      clear hal hgen
      go_wp2_with fail
      refine (code_any code W h1).mono ?_
      rintro r w1 ⟨rfl, rfl⟩
      cases hco : codeOk code with
      | false =>
        have hr := Lib.hid (show planOk ⟨code, urg, kinds⟩ = false from by rw [hgen'.out, hco]; rfl)
        go_wp2
        go_ret
        exact ⟨ret_b hr.out.symm, hB'.out⟩
      | true =>
        by_cases t1 : 1 ≤ urg
        · by_cases t2 : urg ≤ 5
          · by_cases q3 : 1 ≤ kinds.length
            · have t3 : (1 : Int) ≤ (kinds.length : Int) := by omega
              by_cases q4 : kinds.length ≤ 8
              · have t4 : (kinds.length : Int) ≤ 8 := by omega
                have hr := Lib.hid (show planOk ⟨code, urg, kinds⟩ = true from by rw [hgen'.out, hco]; unfold inR; simp [t1, t2, q3, q4])
                clear q3 q4
                go_wp2
                go_ret
                exact ⟨ret_b hr.out.symm, hB'.out⟩
              · have t4 : ¬ (kinds.length : Int) ≤ 8 := by omega
                have hr := Lib.hid (show planOk ⟨code, urg, kinds⟩ = false from by rw [hgen'.out, hco, decide_eq_false q4]; simp)
                clear q3 q4
                go_wp2
                go_ret
                exact ⟨ret_b ((decide_eq_false (by omega)).trans hr.out.symm), hB'.out⟩
            · have t3 : ¬ (1 : Int) ≤ (kinds.length : Int) := by omega
              have hr := Lib.hid (show planOk ⟨code, urg, kinds⟩ = false from by rw [hgen'.out, hco, decide_eq_false q3]; simp)
              clear q3
              go_wp2
              go_ret
              exact ⟨ret_b hr.out.symm, hB'.out⟩
          · have hr := Lib.hid (show planOk ⟨code, urg, kinds⟩ = false from by rw [hgen'.out, hco]; unfold inR; rw [decide_eq_false t2]; simp)
            go_wp2
            go_ret
            exact ⟨ret_b hr.out.symm, hB'.out⟩
        · have hr := Lib.hid (show planOk ⟨code, urg, kinds⟩ = false from by rw [hgen'.out, hco]; unfold inR; rw [decide_eq_false t1]; simp)
          go_wp2
          go_ret
          exact ⟨ret_b hr.out.symm, hB'.out⟩

/-- A configuration's cells, as an argument brings them. -/
theorem box_cfg (w : World) (c : Cfg) (vd ve vu vp : Value) : ∃ W, W = w.alloc (.cells #[.int .i64 c.ce, vd, ve, vu, vp, .int .i64 c.n0, .int .i64 c.n1, .int .i64 c.n2, .int .i64 c.n3, .int .i64 c.n4, .int .i64 c.n5, .int .i64 c.n6, .int .i64 c.n7, .int .i64 c.n8, .int .i64 c.n9] 27) ∧ CB W w.heap.size c vd ve vu vp ∧ Below w.heap.size w W ∧ W.heap.size = w.heap.size + 1 :=
  ⟨_, rfl, cb_new w c vd ve vu vp, (Below.refl _ _).alloc (Nat.le_refl _) _, World.size_alloc _ _⟩

theorem edge_any (c : Cfg) (v : Value) (e : Int × Int × Int) (w : World) (h : CfgV w v c) (he : I64 e.1 ∧ I64 e.2.1 ∧ I64 e.2.2) (hl : c.ds.length ≤ 9223372036854775807) :
    Calls Tryz.prog 26 #[v, .agg #[.int .i64 e.1, .int .i64 e.2.1, .int .i64 e.2.2]] w fun r w' => r = .returned (.bool (edgeOk c.ds.length e)) ∧ Below w.heap.size w w' := by
  obtain ⟨vd, ve, vu, vp, rfl, hd, hh, hu, hq⟩ := h
  obtain ⟨Ad, cd, rfl⟩ := hd.form
  obtain ⟨Ae, ce, rfl⟩ := hh.form
  obtain ⟨Au, cu, rfl⟩ := hu.form
  obtain ⟨Ap, cp, rfl⟩ := hq.form
  obtain ⟨x, y, t⟩ := e
  simp only at he ⊢
  clear hd hh hu hq
  unfold cfgCells
  have hB : Below w.heap.size w ((w.alloc (.cells #[.int .i64 c.ce, .slice Ad c.ds.length cd, .slice Ae c.es.length ce, .slice Au c.us.length cu, .slice Ap c.ps.length cp, .int .i64 c.n0, .int .i64 c.n1, .int .i64 c.n2, .int .i64 c.n3, .int .i64 c.n4, .int .i64 c.n5, .int .i64 c.n6, .int .i64 c.n7, .int .i64 c.n8, .int .i64 c.n9] 27)).alloc (.cells #[.int .i64 x, .int .i64 y, .int .i64 t] 47)) := ((Below.refl _ _).alloc (Nat.le_refl _) _).alloc (by simp) _
  have hB' := Lib.hid hB
  clear hB
  have hgen := Lib.hid (show edgeOk c.ds.length (x, y, t) = (inR x 0 ((c.ds.length : Int) - 1) && inR y 0 ((c.ds.length : Int) - 1) && (inR t 1 1048576 || decide (t = 4611686018427387904))) from rfl)
  by_cases t1 : 0 ≤ x
  rotate_left
  · have hr := Lib.hid (show edgeOk c.ds.length (x, y, t) = false from by rw [hgen.out]; unfold inR; rw [decide_eq_false t1]; simp)
    go_enter Tryz.func26, Tryz.ntmps26
    go_wp2
    go_ret
    exact ⟨ret_b hr.out.symm, hB'.out⟩
  by_cases t2 : x < (c.ds.length : Int)
  rotate_left
  · have hr := Lib.hid (show edgeOk c.ds.length (x, y, t) = false from by rw [hgen.out]; unfold inR; rw [decide_eq_false (show ¬ x ≤ (c.ds.length : Int) - 1 from by omega)]; simp)
    go_enter Tryz.func26, Tryz.ntmps26
    go_wp2
    go_ret
    exact ⟨ret_b hr.out.symm, hB'.out⟩
  by_cases t3 : 0 ≤ y
  rotate_left
  · have hr := Lib.hid (show edgeOk c.ds.length (x, y, t) = false from by rw [hgen.out]; unfold inR; rw [decide_eq_false t3]; simp)
    go_enter Tryz.func26, Tryz.ntmps26
    go_wp2
    go_ret
    exact ⟨ret_b hr.out.symm, hB'.out⟩
  by_cases t4 : y < (c.ds.length : Int)
  rotate_left
  · have hr := Lib.hid (show edgeOk c.ds.length (x, y, t) = false from by rw [hgen.out]; unfold inR; rw [decide_eq_false (show ¬ y ≤ (c.ds.length : Int) - 1 from by omega)]; simp)
    go_enter Tryz.func26, Tryz.ntmps26
    go_wp2
    go_ret
    exact ⟨ret_b hr.out.symm, hB'.out⟩
  have hrest := Lib.hid (show edgeOk c.ds.length (x, y, t) = (inR t 1 1048576 || decide (t = 4611686018427387904)) from by
    rw [hgen.out]; unfold inR
    rw [decide_eq_true t1, decide_eq_true t3, decide_eq_true (show x ≤ (c.ds.length : Int) - 1 from by omega), decide_eq_true (show y ≤ (c.ds.length : Int) - 1 from by omega)]; simp)
  by_cases t5 : t = 4611686018427387904
  · have hr := Lib.hid (show edgeOk c.ds.length (x, y, t) = true from by rw [hrest.out, decide_eq_true t5]; simp)
    have q1 : (1 : Int) ≤ t := by omega
    have q2 : ¬ t ≤ 1048576 := by omega
    have q3 : (t == 4611686018427387904) = true := by simp [t5]
    clear t5
    go_enter Tryz.func26, Tryz.ntmps26
    go_wp2
    go_ret
    exact ⟨ret_b hr.out.symm, hB'.out⟩
  have q3 : (t == 4611686018427387904) = false := by simp [t5]
  by_cases q1 : 1 ≤ t
  · by_cases q2 : t ≤ 1048576
    · have hr := Lib.hid (show edgeOk c.ds.length (x, y, t) = true from by rw [hrest.out]; unfold inR; rw [decide_eq_true q1, decide_eq_true q2]; simp)
      clear t5
      go_enter Tryz.func26, Tryz.ntmps26
      go_wp2
      go_ret
      exact ⟨ret_b hr.out.symm, hB'.out⟩
    · have hr := Lib.hid (show edgeOk c.ds.length (x, y, t) = false from by rw [hrest.out]; unfold inR; rw [decide_eq_false q2, decide_eq_false t5]; simp)
      clear t5
      go_enter Tryz.func26, Tryz.ntmps26
      go_wp2
      go_ret
      exact ⟨ret_b hr.out.symm, hB'.out⟩
  · have hr := Lib.hid (show edgeOk c.ds.length (x, y, t) = false from by rw [hrest.out]; unfold inR; rw [decide_eq_false q1, decide_eq_false t5]; simp)
    clear t5
    go_enter Tryz.func26, Tryz.ntmps26
    go_wp2
    go_ret
    exact ⟨ret_b hr.out.symm, hB'.out⟩
end Go.Proofs.YtjklpikopgihgaaGreatDoor
