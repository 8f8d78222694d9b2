/- The code: within, isDistrict, isNode, isKind, isCode, validDistricts, validEdges, validUnits. -/
import Derived.Test.YtjklpikopgihgaaGreatDoorW5
set_option linter.unusedVariables false
set_option maxRecDepth 100000
set_option linter.unusedSimpArgs false
namespace Go.Proofs.YtjklpikopgihgaaGreatDoor
open Go.RowKit Go.Lib Cf

/-- A load of a whole struct, behind a guard. -/
theorem wpList_load_gd {ops : Array Oper} {rest : List Oper} {o : Oper} {a : Act} {w : World} {Q : Exit → Act → World → Prop} (hw : Region.wanted o (yielded ops a.tmps) = true) (T : TypeId) (x : Operand) (ho : o.op = .load T x) (p : Addr) (hx : a.eval x = .pointer (some p)) (cs : List Value)
    (hr : (loadVar T p).run Tryz.prog w = .ok (.agg cs.toArray) w) (h : wpList Tryz.prog ops Q rest (a.put o.dst (.agg cs.toArray)) w) : wpList Tryz.prog ops Q (o :: rest) a w :=
  wpList_step fun K hK => by
    rw [if_pos hw]
    unfold Oper.wp execOp
    simp only [ho, hx, Instr.loadAt, Instr.sureAddr, Sem.run_bind, Sem.run_pure, Result.andThen_ok, hr]
    exact hK _ _ h

theorem cwi_any (n lo hi : Int) (w : World) : Calls Tryz.prog 20 #[.int .i64 n, .int .i64 lo, .int .i64 hi] w fun r w' => r = .returned (.bool (inR n lo hi)) ∧ w = w' := by
  by_cases h1 : lo ≤ n
  · by_cases h2 : n ≤ hi
    · have hr := Lib.hid (show inR n lo hi = true from by unfold inR; simp [h1, h2])
      go_enter Tryz.func20, Tryz.ntmps20
      go_wp2
      go_ret
      exact ⟨ret_b hr.out.symm, rfl⟩
    · have hr := Lib.hid (show inR n lo hi = false from by unfold inR; simp [h1, h2])
      go_enter Tryz.func20, Tryz.ntmps20
      go_wp2
      go_ret
      exact ⟨ret_b hr.out.symm, rfl⟩
  · have hr := Lib.hid (show inR n lo hi = false from by unfold inR; simp [h1])
    go_enter Tryz.func20, Tryz.ntmps20
    go_wp2
    go_ret
    exact ⟨ret_b hr.out.symm, rfl⟩
theorem cw64_any (n lo hi : Int) (w : World) : Calls Tryz.prog 50 #[.int .i64 n, .int .i64 lo, .int .i64 hi] w fun r w' => r = .returned (.bool (inR n lo hi)) ∧ w = w' := by
  by_cases h1 : lo ≤ n
  · by_cases h2 : n ≤ hi
    · have hr := Lib.hid (show inR n lo hi = true from by unfold inR; simp [h1, h2])
      go_enter Tryz.func50, Tryz.ntmps50
      go_wp2
      go_ret
      exact ⟨ret_b hr.out.symm, rfl⟩
    · have hr := Lib.hid (show inR n lo hi = false from by unfold inR; simp [h1, h2])
      go_enter Tryz.func50, Tryz.ntmps50
      go_wp2
      go_ret
      exact ⟨ret_b hr.out.symm, rfl⟩
  · have hr := Lib.hid (show inR n lo hi = false from by unfold inR; simp [h1])
    go_enter Tryz.func50, Tryz.ntmps50
    go_wp2
    go_ret
    exact ⟨ret_b hr.out.symm, rfl⟩

theorem isKind_any (k : Int) (w : World) : Calls Tryz.prog 51 #[.int .i64 k] w fun r w' => r = .returned (.bool (kndOk k)) ∧ w = w' := by
  go_enter Tryz.func51, Tryz.ntmps51
  go_wp2_with fail
  refine (cwi_any k 1 4 w).mono ?_
  rintro r w1 ⟨rfl, rfl⟩
  go_wp2
  go_ret
  exact ⟨rfl, rfl⟩
theorem isDistrict_any (c : Cfg) (v : Value) (d : Int) (w : World) (h : CfgV w v c) (hc : 1 ≤ c.ce ∧ c.ce ≤ 9) : Calls Tryz.prog 48 #[v, .int .i64 d] w fun r w' => r = .returned (.bool (inR d 0 (c.ce - 1))) ∧ Below w.heap.size w w' := by
  obtain ⟨hc0, hc1⟩ := hc
  obtain ⟨vd, ve, vu, vp, rfl, hd0, he0, hu0, hp0⟩ := h
  obtain ⟨Ad, cd, rfl⟩ := hd0.form
  obtain ⟨Ae, ce, rfl⟩ := he0.form
  obtain ⟨Au, cu, rfl⟩ := hu0.form
  obtain ⟨Ap, cp, rfl⟩ := hp0.form
  obtain ⟨W, hWe, hC, hB0, hWs⟩ := box_cfg w c (.slice Ad c.ds.length cd) (.slice Ae c.es.length ce) (.slice Au c.us.length cu) (.slice Ap c.ps.length cp)
  have hWe' := hWe.symm
  have hV := Lib.hid (show CfgV W (.agg (cfgCells c (.slice Ad c.ds.length cd) (.slice Ae c.es.length ce) (.slice Au c.us.length cu) (.slice Ap c.ps.length cp)).toArray) c from ⟨_, _, _, _, rfl, hd0.below hB0, he0.below hB0, hu0.below hB0, hp0.below hB0⟩)
  have hd' := Lib.hid (hd0.below hB0)
  have hh' := Lib.hid (he0.below hB0)
  have hu' := Lib.hid (hu0.below hB0)
  have hq' := Lib.hid (hp0.below hB0)
  have hC' := Lib.hid hC
  have hB0' := Lib.hid hB0
  have hWl : w.heap.size ≤ W.heap.size := by omega
  have c0 := hC.at_ 0 _ rfl
  have c1 := hC.at_ 1 _ rfl
  have c2 := hC.at_ 2 _ rfl
  have c3 := hC.at_ 3 _ rfl
  have c4 := hC.at_ 4 _ rfl
  have hCl := Lib.hid hC.load
  clear hWe hd0 he0 hu0 hp0 hC hB0
  unfold cfgCells
  go_enter Tryz.func48, Tryz.ntmps48
  go_wp2_with fail
  refine (cwi_any d 0 (c.ce - 1) W).mono ?_
  rintro r w1 ⟨rfl, rfl⟩
  go_wp2
  go_ret
  exact ⟨rfl, hB0'.out⟩
theorem isNode_any (c : Cfg) (v : Value) (d : Int) (w : World) (h : CfgV w v c) (hl : c.ds.length ≤ 1000000) : Calls Tryz.prog 49 #[v, .int .i64 d] w fun r w' => r = .returned (.bool (inR d 0 ((c.ds.length : Int) - 1))) ∧ Below w.heap.size w w' := by
  obtain ⟨vd, ve, vu, vp, rfl, hd0, he0, hu0, hp0⟩ := h
  obtain ⟨Ad, cd, rfl⟩ := hd0.form
  obtain ⟨Ae, ce, rfl⟩ := he0.form
  obtain ⟨Au, cu, rfl⟩ := hu0.form
  obtain ⟨Ap, cp, rfl⟩ := hp0.form
  obtain ⟨W, hWe, hC, hB0, hWs⟩ := box_cfg w c (.slice Ad c.ds.length cd) (.slice Ae c.es.length ce) (.slice Au c.us.length cu) (.slice Ap c.ps.length cp)
  have hWe' := hWe.symm
  have hV := Lib.hid (show CfgV W (.agg (cfgCells c (.slice Ad c.ds.length cd) (.slice Ae c.es.length ce) (.slice Au c.us.length cu) (.slice Ap c.ps.length cp)).toArray) c from ⟨_, _, _, _, rfl, hd0.below hB0, he0.below hB0, hu0.below hB0, hp0.below hB0⟩)
  have hd' := Lib.hid (hd0.below hB0)
  have hh' := Lib.hid (he0.below hB0)
  have hu' := Lib.hid (hu0.below hB0)
  have hq' := Lib.hid (hp0.below hB0)
  have hC' := Lib.hid hC
  have hB0' := Lib.hid hB0
  have hWl : w.heap.size ≤ W.heap.size := by omega
  have c0 := hC.at_ 0 _ rfl
  have c1 := hC.at_ 1 _ rfl
  have c2 := hC.at_ 2 _ rfl
  have c3 := hC.at_ 3 _ rfl
  have c4 := hC.at_ 4 _ rfl
  have hCl := Lib.hid hC.load
  clear hWe hd0 he0 hu0 hp0 hC hB0
  unfold cfgCells
  go_enter Tryz.func49, Tryz.ntmps49
  go_wp2_with fail
  refine (cwi_any d 0 ((c.ds.length : Int) - 1) W).mono ?_
  rintro r w1 ⟨rfl, rfl⟩
  go_wp2
  go_ret
  exact ⟨rfl, hB0'.out⟩

theorem isCode_any (s : Bs) (w : World) (hs : s.length ≤ 9223372036854775807) : Calls Tryz.prog 80 #[.string ⟨s.toArray⟩] w fun r w' => r = .returned (.bool (codeOk s)) ∧ w = w' := by
  have hsz : (⟨s.toArray⟩ : ByteArray).size = s.length := by simp [ByteArray.size]
  go_enter Tryz.func80, Tryz.ntmps80
  go_wp2_with fail
  go_loop [6] (fun i => ∃ k : Nat, i = .int .i64 (k : Int) ∧ k ≤ s.length ∧ (s.take k).all byteOk = true) (fun i => s.length - (intOf i).toNat)
  case atStart => exact ⟨0, rfl, by omega, by simp⟩
  case round =>
    obtain ⟨k, rfl, hk, hal⟩ := hrel
    have hal' := Lib.hid hal
    clear hal
    by_cases hlt : k < s.length
    · obtain ⟨b, hb⟩ : ∃ b, s[k]? = some b := ⟨_, List.getElem?_eq_getElem hlt⟩
      have hat := byte_at hb
      have e1 : (k : Int) < (s.length : Int) := by omega
      have e2 : (0 : Int) ≤ (k : Int) := by omega
      have hb' := Lib.hid hb
      clear hb
      by_cases h1 : b.toNat < 33
      · have t1 : (b.toNat : Int) < 33 := by omega
        have hr := Lib.hid (show codeOk s = false from by unfold codeOk; rw [all_of_bad byteOk hb'.out (by unfold byteOk; simp; omega)]; rfl)
        go_wp2
        go_ret
        exact ⟨ret_b hr.out.symm, rfl⟩
      have t1 : ¬ (b.toNat : Int) < 33 := by omega
      by_cases h2 : 126 < b.toNat
      · have t2 : (126 : Int) < (b.toNat : Int) := by omega
        have hr := Lib.hid (show codeOk s = false from by unfold codeOk; rw [all_of_bad byteOk hb'.out (by unfold byteOk; simp; omega)]; rfl)
        go_wp2
        go_ret
        exact ⟨ret_b hr.out.symm, rfl⟩
      have t2 : ¬ (126 : Int) < (b.toNat : Int) := by omega
      have hst := Lib.hid (show (s.take (k + 1)).all byteOk = true from by rw [all_take_succ byteOk hb'.out, hal'.out]; unfold byteOk; simp; omega)
      clear h1 h2
      go_wp2
      go_round
      case rel => exact ⟨k + 1, by go_num, by omega, hst.out⟩
      case measure => simp [intOf]; omega
    · obtain rfl : k = s.length := by omega
      have hal := hal'.out
      rw [List.take_length] at hal
      have hr := Lib.hid (show codeOk s = inR (s.length : Int) 1 40 from by
        unfold codeOk inR; rw [hal, Bool.true_and]
        congr 1 <;> (rw [decide_eq_decide]; omega))
      clear hal
      go_wp2_with fail
      refine (cwi_any (s.length : Int) 1 40 w).mono ?_
      rintro r w1 ⟨rfl, rfl⟩
      go_wp2
      go_ret
      exact ⟨ret_b hr.out.symm, rfl⟩

set_option maxHeartbeats 1000000 in
theorem validDistricts_any (c : Cfg) (v : Value) (w : World) (h : CfgV w v c) (hc : 1 ≤ c.ce ∧ c.ce ≤ 9) (hl : c.ds.length ≤ 1000000) :
    Calls Tryz.prog 21 #[v] w fun r w' => r = .returned (.bool (c.ds.all fun d => inR d 0 (c.ce - 1))) ∧ Below w.heap.size w w' := by
  obtain ⟨vd, ve, vu, vp, rfl, hd0, he0, hu0, hp0⟩ := h
  obtain ⟨Ad, cd, rfl⟩ := hd0.form
  obtain ⟨Ae, ce, rfl⟩ := he0.form
  obtain ⟨Au, cu, rfl⟩ := hu0.form
  obtain ⟨Ap, cp, rfl⟩ := hp0.form
  obtain ⟨W, hWe, hC, hB0, hWs⟩ := box_cfg w c (.slice Ad c.ds.length cd) (.slice Ae c.es.length ce) (.slice Au c.us.length cu) (.slice Ap c.ps.length cp)
  have hWe' := hWe.symm
  have hV := Lib.hid (show CfgV W (.agg (cfgCells c (.slice Ad c.ds.length cd) (.slice Ae c.es.length ce) (.slice Au c.us.length cu) (.slice Ap c.ps.length cp)).toArray) c from ⟨_, _, _, _, rfl, hd0.below hB0, he0.below hB0, hu0.below hB0, hp0.below hB0⟩)
  have hd' := Lib.hid (hd0.below hB0)
  have hh' := Lib.hid (he0.below hB0)
  have hu' := Lib.hid (hu0.below hB0)
  have hq' := Lib.hid (hp0.below hB0)
  have hC' := Lib.hid hC
  have hB0' := Lib.hid hB0
  have hWl : w.heap.size ≤ W.heap.size := by omega
  have c0 := hC.at_ 0 _ rfl
  have c1 := hC.at_ 1 _ rfl
  have c2 := hC.at_ 2 _ rfl
  have c3 := hC.at_ 3 _ rfl
  have c4 := hC.at_ 4 _ rfl
  have hCl := Lib.hid hC.load
  clear hWe hd0 he0 hu0 hp0 hC hB0
  unfold cfgCells
  go_enter Tryz.func21, Tryz.ntmps21
  go_wp2_with fail
  clear hWe' c0 c1 c2 c3 c4
  go_loopw [8] (fun i w' => ∃ k : Nat, i = .int .i64 (k : Int) ∧ k ≤ c.ds.length ∧ (c.ds.take k).all (fun d => inR d 0 (c.ce - 1)) = true ∧ Below W.heap.size W w') (fun i _ => c.ds.length - (intOf i).toNat)
  case atStart => exact ⟨0, rfl, by omega, by simp, Below.refl _ _⟩
  case round =>
    obtain ⟨k, rfl, hk, hal, hB⟩ := hrel
    have hal' := Lib.hid hal
    have hB' := Lib.hid hB
    have hlc := (hC'.out.below hB).load
    clear hal hB
    by_cases hlt : k < c.ds.length
    · obtain ⟨d, hd0⟩ : ∃ d, c.ds[k]? = some d := ⟨_, List.getElem?_eq_getElem hlt⟩
      obtain ⟨ad, rfl, d0⟩ := (hd'.out.below hB'.out).at_ hd0
      have e1 : (k : Int) < (c.ds.length : Int) := by omega
      have e2 : (0 : Int) ≤ (k : Int) := by omega
      have hd1 := Lib.hid hd0
      clear hd0
      go_wp2_with (refine wpList_load_list rfl 27 _ rfl ⟨w.heap.size, 0, none⟩ rfl (cfgCells c (.slice (some ad) c.ds.length cd) (.slice Ae c.es.length ce) (.slice Au c.us.length cu) (.slice Ap c.ps.length cp)) hlc ?_)
      refine (isDistrict_any c _ d _ (hV.out.below hB'.out) hc).mono ?_
      rintro r w2 ⟨rfl, b2⟩
      have B2 := Lib.hid (then_ hB'.out b2)
      clear hlc b2 d0
      cases hok : inR d 0 (c.ce - 1) with
      | false =>
        have hr := Lib.hid (show (c.ds.all fun d => inR d 0 (c.ce - 1)) = false from all_of_bad _ hd1.out hok)
        clear hok
        go_wp2
        go_ret
        exact ⟨ret_b hr.out.symm, hB0'.out.trans (B2.out.mono hWl)⟩
      | true =>
        have hst := Lib.hid (show (c.ds.take (k + 1)).all (fun d => inR d 0 (c.ce - 1)) = true from by rw [all_take_succ _ hd1.out, hal'.out, hok]; rfl)
        clear hok
        go_wp2
        go_roundw
        case rel => exact ⟨k + 1, by go_num, by omega, hst.out, B2.out⟩
        case measure => simp [intOf]; omega
    · obtain rfl : k = c.ds.length := by omega
      have hr := Lib.hid (show (c.ds.all fun d => inR d 0 (c.ce - 1)) = true from by have h := hal'.out; rw [List.take_length] at h; exact h)
      clear hlc hal'
      go_wp2
      go_ret
      exact ⟨ret_b hr.out.symm, hB0'.out.trans (hB'.out.mono hWl)⟩

set_option maxHeartbeats 2000000 in
theorem validEdges_any (c : Cfg) (v : Value) (w : World) (h : CfgV w v c) (hin : ∀ e ∈ c.es, I64 e.1 ∧ I64 e.2.1 ∧ I64 e.2.2) (hl : c.ds.length ≤ 1000000) (hle0 : c.es.length ≤ 1000000) :
    Calls Tryz.prog 22 #[v] w fun r w' => r = .returned (.bool (c.es.all (edgeOk c.ds.length) && decide (c.es.length ≤ 16384))) ∧ Below w.heap.size w w' := by
  obtain ⟨vd, ve, vu, vp, rfl, hd0, he0, hu0, hp0⟩ := h
  obtain ⟨Ad, cd, rfl⟩ := hd0.form
  obtain ⟨Ae, ce, rfl⟩ := he0.form
  obtain ⟨Au, cu, rfl⟩ := hu0.form
  obtain ⟨Ap, cp, rfl⟩ := hp0.form
  obtain ⟨W, hWe, hC, hB0, hWs⟩ := box_cfg w c (.slice Ad c.ds.length cd) (.slice Ae c.es.length ce) (.slice Au c.us.length cu) (.slice Ap c.ps.length cp)
  have hWe' := hWe.symm
  have hV := Lib.hid (show CfgV W (.agg (cfgCells c (.slice Ad c.ds.length cd) (.slice Ae c.es.length ce) (.slice Au c.us.length cu) (.slice Ap c.ps.length cp)).toArray) c from ⟨_, _, _, _, rfl, hd0.below hB0, he0.below hB0, hu0.below hB0, hp0.below hB0⟩)
  have hd' := Lib.hid (hd0.below hB0)
  have hh' := Lib.hid (he0.below hB0)
  have hu' := Lib.hid (hu0.below hB0)
  have hq' := Lib.hid (hp0.below hB0)
  have hC' := Lib.hid hC
  have hB0' := Lib.hid hB0
  have hWl : w.heap.size ≤ W.heap.size := by omega
  have c0 := hC.at_ 0 _ rfl
  have c1 := hC.at_ 1 _ rfl
  have c2 := hC.at_ 2 _ rfl
  have c3 := hC.at_ 3 _ rfl
  have c4 := hC.at_ 4 _ rfl
  have hCl := Lib.hid hC.load
  clear hWe hd0 he0 hu0 hp0 hC hB0
  unfold cfgCells
  go_enter Tryz.func22, Tryz.ntmps22
  go_wp2_with fail
  clear hWe' c0 c1 c2 c3 c4
  go_loopw [8] (fun i w' => ∃ k : Nat, i = .int .i64 (k : Int) ∧ k ≤ c.es.length ∧ (c.es.take k).all (edgeOk c.ds.length) = true ∧ Below W.heap.size W w') (fun i _ => c.es.length - (intOf i).toNat)
  case atStart => exact ⟨0, rfl, by omega, by simp, Below.refl _ _⟩
  case round =>
    obtain ⟨k, rfl, hk, hal, hB⟩ := hrel
    have hal' := Lib.hid hal
    have hB' := Lib.hid hB
    have hCr := hC'.out.below hB
    clear hal hB
    by_cases hlt : k < c.es.length
    · obtain ⟨e, he0⟩ : ∃ e, c.es[k]? = some e := ⟨_, List.getElem?_eq_getElem hlt⟩
      obtain ⟨ad, rfl, hat⟩ := (hh'.out.below hB'.out).at_ he0
      have hI := hin e (List.mem_of_getElem? he0)
      have e1 : (k : Int) < (c.es.length : Int) := by omega
      have e2 : (0 : Int) ≤ (k : Int) := by omega
      have hle := load_edge hat
      have hnew := heap_alloc_new wr (.cells #[.int .i64 e.1, .int .i64 e.2.1, .int .i64 e.2.2] 47)
      have hBa : Below wr.heap.size wr (wr.alloc (.cells #[.int .i64 e.1, .int .i64 e.2.1, .int .i64 e.2.2] 47)) := (Below.refl _ _).alloc (Nat.le_refl _) _
      have hB2 := Lib.hid (then_ hB'.out hBa)
      have hlc := (hCr.below hBa).load
      obtain ⟨W2, hW2⟩ : ∃ W2, wr.alloc (.cells #[.int .i64 e.1, .int .i64 e.2.1, .int .i64 e.2.2] 47) = W2 := ⟨_, rfl⟩
      rw [hW2] at hB2 hlc hnew
      have z0 : W2.cell? ⟨wr.heap.size, 0, none⟩ = some (.int .i64 e.1) := by rw [cell_of_row _ _ 0 _ _ _ hnew]; rfl
      have z1 : W2.cell? ⟨wr.heap.size, 1, none⟩ = some (.int .i64 e.2.1) := by rw [cell_of_row _ _ 1 _ _ _ hnew]; rfl
      have z2 : W2.cell? ⟨wr.heap.size, 2, none⟩ = some (.int .i64 e.2.2) := by rw [cell_of_row _ _ 2 _ _ _ hnew]; rfl
      have he1 := Lib.hid he0
      have hgen := Lib.hid (show edgeOk c.ds.length e = (inR e.1 0 ((c.ds.length : Int) - 1) && inR e.2.1 0 ((c.ds.length : Int) - 1) && (inR e.2.2 1 1048576 || decide (e.2.2 = 4611686018427387904))) from rfl)
      clear he0 hat hBa hCr hnew
      go_wp2_with (first
        | (refine wpList_load_list rfl 47 _ rfl (ad.add (k * 3)) rfl [.int .i64 e.1, .int .i64 e.2.1, .int .i64 e.2.2] hle ?_)
        | (refine wpList_load_list rfl 27 _ rfl ⟨w.heap.size, 0, none⟩ rfl (cfgCells c (.slice Ad c.ds.length cd) (.slice (some ad) c.es.length ce) (.slice Au c.us.length cu) (.slice Ap c.ps.length cp)) hlc ?_))
      refine (isNode_any c _ e.1 _ (hV.out.below hB2.out) hl).mono ?_
      rintro r w2 ⟨rfl, b2⟩
      have B2 := Lib.hid (then_ hB2.out b2)
      have hlc2 := (hC'.out.below B2.out).load
      have y1 := cell_keep z1 b2
      have y2 := cell_keep z2 b2
      clear hlc hle b2 hW2 z0 z1 z2
      cases ok1 : inR e.1 0 ((c.ds.length : Int) - 1) with
      | false =>
        have hr := Lib.hid (show (c.es.all (edgeOk c.ds.length) && decide (c.es.length ≤ 16384)) = false from by rw [all_of_bad _ he1.out (by rw [hgen.out, ok1]; rfl)]; rfl)
        clear ok1
        go_wp2
        go_ret
        exact ⟨ret_b hr.out.symm, hB0'.out.trans (B2.out.mono hWl)⟩
      | true =>
        have ok1' := Lib.hid ok1
        clear ok1
        go_wp2_with (refine wpList_load_gd rfl 27 _ rfl ⟨w.heap.size, 0, none⟩ rfl (cfgCells c (.slice Ad c.ds.length cd) (.slice (some ad) c.es.length ce) (.slice Au c.us.length cu) (.slice Ap c.ps.length cp)) hlc2 ?_)
        refine (isNode_any c _ e.2.1 _ (hV.out.below B2.out) hl).mono ?_
        rintro r w3 ⟨rfl, b3⟩
        have B3 := Lib.hid (then_ B2.out b3)
        have x2 := cell_keep y2 b3
        clear hlc2 b3 y1 y2
        cases ok2 : inR e.2.1 0 ((c.ds.length : Int) - 1) with
        | false =>
          have hr := Lib.hid (show (c.es.all (edgeOk c.ds.length) && decide (c.es.length ≤ 16384)) = false from by rw [all_of_bad _ he1.out (by rw [hgen.out, ok1'.out, ok2]; rfl)]; rfl)
          clear ok2
          go_wp2
          go_ret
          exact ⟨ret_b hr.out.symm, hB0'.out.trans (B3.out.mono hWl)⟩
        | true =>
          have ok2' := Lib.hid ok2
          clear ok2
          by_cases q : e.2.2 = 4611686018427387904
          · have hst := Lib.hid (show (c.es.take (k + 1)).all (edgeOk c.ds.length) = true from by rw [all_take_succ _ he1.out, hal'.out, hgen.out, ok1'.out, ok2'.out, decide_eq_true q]; simp)
            have q1 : (e.2.2 != 4611686018427387904) = false := by simp [q]
            clear q
            go_wp2
            go_roundw
            case rel => exact ⟨k + 1, by go_num, by omega, hst.out, B3.out⟩
            case measure => simp [intOf]; omega
          · have q1 : (e.2.2 != 4611686018427387904) = true := by simp [q]
            have q' := Lib.hid q
            clear q
            go_wp2_with fail
            refine (cw64_any e.2.2 1 1048576 w3).mono ?_
            rintro r w4 ⟨rfl, rfl⟩
            cases ok3 : inR e.2.2 1 1048576 with
            | false =>
              have hr := Lib.hid (show (c.es.all (edgeOk c.ds.length) && decide (c.es.length ≤ 16384)) = false from by rw [all_of_bad _ he1.out (by rw [hgen.out, ok3, decide_eq_false q'.out]; simp)]; rfl)
              clear ok3
              go_wp2
              go_ret
              exact ⟨ret_b hr.out.symm, hB0'.out.trans (B3.out.mono hWl)⟩
            | true =>
              have hst := Lib.hid (show (c.es.take (k + 1)).all (edgeOk c.ds.length) = true from by rw [all_take_succ _ he1.out, hal'.out, hgen.out, ok1'.out, ok2'.out, ok3]; rfl)
              clear ok3
              go_wp2
              go_roundw
              case rel => exact ⟨k + 1, by go_num, by omega, hst.out, B3.out⟩
              case measure => simp [intOf]; omega
    · obtain rfl : k = c.es.length := by omega
      have hr := Lib.hid (show (c.es.all (edgeOk c.ds.length) && decide (c.es.length ≤ 16384)) = decide ((c.es.length : Int) ≤ 16384) from by
        have h := hal'.out; rw [List.take_length] at h; rw [h, Bool.true_and, decide_eq_decide]; omega)
      have c2 := hCr.at_ 2 _ rfl
      clear hCr hal'
      go_wp2
      go_ret
      exact ⟨ret_b hr.out.symm, hB0'.out.trans (hB'.out.mono hWl)⟩

set_option maxHeartbeats 2000000 in
theorem validUnits_any (c : Cfg) (v : Value) (w : World) (h : CfgV w v c) (hin : ∀ e ∈ c.us, I64 e.1 ∧ I64 e.2.1 ∧ I64 e.2.2) (hc : 1 ≤ c.ce ∧ c.ce ≤ 9) (hl : c.ds.length ≤ 1000000) (hle0 : c.us.length ≤ 1000000) :
    Calls Tryz.prog 23 #[v] w fun r w' => r = .returned (.bool (c.us.all (unitOk c.ce c.ds.length) && decide (c.us.length ≤ 256))) ∧ Below w.heap.size w w' := by
  obtain ⟨vd, ve, vu, vp, rfl, hd0, he0, hu0, hp0⟩ := h
  obtain ⟨Ad, cd, rfl⟩ := hd0.form
  obtain ⟨Ae, ce, rfl⟩ := he0.form
  obtain ⟨Au, cu, rfl⟩ := hu0.form
  obtain ⟨Ap, cp, rfl⟩ := hp0.form
  obtain ⟨W, hWe, hC, hB0, hWs⟩ := box_cfg w c (.slice Ad c.ds.length cd) (.slice Ae c.es.length ce) (.slice Au c.us.length cu) (.slice Ap c.ps.length cp)
  have hWe' := hWe.symm
  have hV := Lib.hid (show CfgV W (.agg (cfgCells c (.slice Ad c.ds.length cd) (.slice Ae c.es.length ce) (.slice Au c.us.length cu) (.slice Ap c.ps.length cp)).toArray) c from ⟨_, _, _, _, rfl, hd0.below hB0, he0.below hB0, hu0.below hB0, hp0.below hB0⟩)
  have hd' := Lib.hid (hd0.below hB0)
  have hh' := Lib.hid (he0.below hB0)
  have hu' := Lib.hid (hu0.below hB0)
  have hq' := Lib.hid (hp0.below hB0)
  have hC' := Lib.hid hC
  have hB0' := Lib.hid hB0
  have hWl : w.heap.size ≤ W.heap.size := by omega
  have c0 := hC.at_ 0 _ rfl
  have c1 := hC.at_ 1 _ rfl
  have c2 := hC.at_ 2 _ rfl
  have c3 := hC.at_ 3 _ rfl
  have c4 := hC.at_ 4 _ rfl
  have hCl := Lib.hid hC.load
  clear hWe hd0 he0 hu0 hp0 hC hB0
  unfold cfgCells
  go_enter Tryz.func23, Tryz.ntmps23
  go_wp2_with fail
  clear hWe' c0 c1 c2 c3 c4
  go_loopw [8] (fun i w' => ∃ k : Nat, i = .int .i64 (k : Int) ∧ k ≤ c.us.length ∧ (c.us.take k).all (unitOk c.ce c.ds.length) = true ∧ Below W.heap.size W w') (fun i _ => c.us.length - (intOf i).toNat)
  case atStart => exact ⟨0, rfl, by omega, by simp, Below.refl _ _⟩
  case round =>
    obtain ⟨k, rfl, hk, hal, hB⟩ := hrel
    have hal' := Lib.hid hal
    have hB' := Lib.hid hB
    have hCr := hC'.out.below hB
    clear hal hB
    by_cases hlt : k < c.us.length
    · obtain ⟨e, he0⟩ : ∃ e, c.us[k]? = some e := ⟨_, List.getElem?_eq_getElem hlt⟩
      obtain ⟨ad, rfl, hat⟩ := (hu'.out.below hB'.out).at_ he0
      have hI := hin e (List.mem_of_getElem? he0)
      have e1 : (k : Int) < (c.us.length : Int) := by omega
      have e2 : (0 : Int) ≤ (k : Int) := by omega
      have hle := load_unit hat
      have hnew := heap_alloc_new wr (.cells #[.int .i64 e.1, .int .i64 e.2.1, .int .i64 e.2.2] 50)
      have hBa : Below wr.heap.size wr (wr.alloc (.cells #[.int .i64 e.1, .int .i64 e.2.1, .int .i64 e.2.2] 50)) := (Below.refl _ _).alloc (Nat.le_refl _) _
      have hB2 := Lib.hid (then_ hB'.out hBa)
      have hlc := (hCr.below hBa).load
      obtain ⟨W2, hW2⟩ : ∃ W2, wr.alloc (.cells #[.int .i64 e.1, .int .i64 e.2.1, .int .i64 e.2.2] 50) = W2 := ⟨_, rfl⟩
      rw [hW2] at hB2 hlc hnew
      have z0 : W2.cell? ⟨wr.heap.size, 0, none⟩ = some (.int .i64 e.1) := by rw [cell_of_row _ _ 0 _ _ _ hnew]; rfl
      have z1 : W2.cell? ⟨wr.heap.size, 1, none⟩ = some (.int .i64 e.2.1) := by rw [cell_of_row _ _ 1 _ _ _ hnew]; rfl
      have z2 : W2.cell? ⟨wr.heap.size, 2, none⟩ = some (.int .i64 e.2.2) := by rw [cell_of_row _ _ 2 _ _ _ hnew]; rfl
      have he1 := Lib.hid he0
      have hgen := Lib.hid (show unitOk c.ce c.ds.length e = (kndOk e.1 && inR e.2.1 0 (c.ce - 1) && inR e.2.2 0 ((c.ds.length : Int) - 1)) from rfl)
      clear he0 hat hBa hCr hnew
      go_wp2_with (refine wpList_load_list rfl 50 _ rfl (ad.add (k * 3)) rfl [.int .i64 e.1, .int .i64 e.2.1, .int .i64 e.2.2] hle ?_)
      refine (isKind_any e.1 W2).mono ?_
      rintro r w2 ⟨rfl, rfl⟩
      clear hle hW2 z0
      cases ok1 : kndOk e.1 with
      | false =>
        have hr := Lib.hid (show (c.us.all (unitOk c.ce c.ds.length) && decide (c.us.length ≤ 256)) = false from by rw [all_of_bad _ he1.out (by rw [hgen.out, ok1]; rfl)]; rfl)
        clear ok1
        go_wp2
        go_ret
        exact ⟨ret_b hr.out.symm, hB0'.out.trans (hB2.out.mono hWl)⟩
      | true =>
        have ok1' := Lib.hid ok1
        clear ok1
        go_wp2_with (refine wpList_load_gd rfl 27 _ rfl ⟨w.heap.size, 0, none⟩ rfl (cfgCells c (.slice Ad c.ds.length cd) (.slice Ae c.es.length ce) (.slice (some ad) c.us.length cu) (.slice Ap c.ps.length cp)) hlc ?_)
        refine (isDistrict_any c _ e.2.1 _ (hV.out.below hB2.out) hc).mono ?_
        rintro r w3 ⟨rfl, b3⟩
        have B3 := Lib.hid (then_ hB2.out b3)
        have hlc3 := (hC'.out.below B3.out).load
        have x2 := cell_keep z2 b3
        clear hlc b3 z1 z2
        cases ok2 : inR e.2.1 0 (c.ce - 1) with
        | false =>
          have hr := Lib.hid (show (c.us.all (unitOk c.ce c.ds.length) && decide (c.us.length ≤ 256)) = false from by rw [all_of_bad _ he1.out (by rw [hgen.out, ok1'.out, ok2]; rfl)]; rfl)
          clear ok2
          go_wp2
          go_ret
          exact ⟨ret_b hr.out.symm, hB0'.out.trans (B3.out.mono hWl)⟩
        | true =>
          have ok2' := Lib.hid ok2
          clear ok2
          go_wp2_with (refine wpList_load_gd rfl 27 _ rfl ⟨w.heap.size, 0, none⟩ rfl (cfgCells c (.slice Ad c.ds.length cd) (.slice Ae c.es.length ce) (.slice (some ad) c.us.length cu) (.slice Ap c.ps.length cp)) hlc3 ?_)
          refine (isNode_any c _ e.2.2 _ (hV.out.below B3.out) hl).mono ?_
          rintro r w4 ⟨rfl, b4⟩
          have B4 := Lib.hid (then_ B3.out b4)
          clear hlc3 b4 x2
          cases ok3 : inR e.2.2 0 ((c.ds.length : Int) - 1) with
          | false =>
            have hr := Lib.hid (show (c.us.all (unitOk c.ce c.ds.length) && decide (c.us.length ≤ 256)) = false from by rw [all_of_bad _ he1.out (by rw [hgen.out, ok1'.out, ok2'.out, ok3]; rfl)]; rfl)
            clear ok3
            go_wp2
            go_ret
            exact ⟨ret_b hr.out.symm, hB0'.out.trans (B4.out.mono hWl)⟩
          | true =>
            have hst := Lib.hid (show (c.us.take (k + 1)).all (unitOk c.ce c.ds.length) = true from by rw [all_take_succ _ he1.out, hal'.out, hgen.out, ok1'.out, ok2'.out, ok3]; rfl)
            clear ok3
            go_wp2
            go_roundw
            case rel => exact ⟨k + 1, by go_num, by omega, hst.out, B4.out⟩
            case measure => simp [intOf]; omega
    · obtain rfl : k = c.us.length := by omega
      have hr := Lib.hid (show (c.us.all (unitOk c.ce c.ds.length) && decide (c.us.length ≤ 256)) = decide ((c.us.length : Int) ≤ 256) from by
        have h := hal'.out; rw [List.take_length] at h; rw [h, Bool.true_and, decide_eq_decide]; omega)
      have c3 := hCr.at_ 3 _ rfl
      clear hCr hal'
      go_wp2
      go_ret
      exact ⟨ret_b hr.out.symm, hB0'.out.trans (hB'.out.mono hWl)⟩
end Go.Proofs.YtjklpikopgihgaaGreatDoor
