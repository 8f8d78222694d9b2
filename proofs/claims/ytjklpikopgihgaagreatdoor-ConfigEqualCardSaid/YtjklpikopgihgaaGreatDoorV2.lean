/- The laws ConfigValidate, ConfigFormat. -/
import Derived.Test.YtjklpikopgihgaaGreatDoorV1
set_option linter.unusedVariables false
set_option maxRecDepth 100000
set_option linter.unusedSimpArgs false
namespace Go.Proofs.YtjklpikopgihgaaGreatDoor
open Go.RowKit Go.Lib Cf

theorem wpList_load_gda {ops : Array Oper} {rest : List Oper} {o : Oper} {a : Act} {w : World} {Q : Exit → Act → World → Prop} (hw : Region.wanted o (yielded ops a.tmps) = true) (T : TypeId) (x : Operand) (ho : o.op = .load T x) (p : Addr) (hx : a.eval x = .pointer (some p)) (arr : Array Value)
    (hr : (loadVar T p).run Tryz.prog w = .ok (.agg arr) w) (h : wpList Tryz.prog ops Q rest (a.put o.dst (.agg arr)) w) : wpList Tryz.prog ops Q (o :: rest) a w :=
  wpList_step fun K hK => by
    rw [if_pos hw]
    unfold Oper.wp execOp
    simp only [ho, hx, Instr.loadAt, Instr.sureAddr, Sem.run_bind, Sem.run_pure, Result.andThen_ok, hr]
    exact hK _ _ h
/-- What an argument's configuration is. -/
structure ArgC (c : Cfg) : Prop where
  inn : CfgIn c
  pin : PsIn c.ps
  ds : c.ds.length ≤ 9223372036854775807
  es : c.es.length ≤ 9223372036854775807
  us : c.us.length ≤ 9223372036854775807
  ps : c.ps.length ≤ 9223372036854775807
set_option maxHeartbeats 4000000 in
theorem lawValidate (c : Cfg) (v : Value) (w : World) (h : CfgV w v c) (hA : ArgC c) (hE : Env w) :
    Calls Tryz.prog 3 #[v] w fun e w' => e = .returned (.bool true) ∧ Below w.heap.size w w' := by
  obtain ⟨vd, ve, vu, vp, rfl, hd0, he0, hu0, hp0⟩ := h
  obtain ⟨Ad, cd, rfl⟩ := hd0.form
  obtain ⟨Ae, ce, rfl⟩ := he0.form
  obtain ⟨Au, cu, rfl⟩ := hu0.form
  obtain ⟨Ap, cp, rfl⟩ := hp0.form
  obtain ⟨W, hWe, hC, hB0, hWs⟩ := box_cfg w c (.slice Ad c.ds.length cd) (.slice Ae c.es.length ce) (.slice Au c.us.length cu) (.slice Ap c.ps.length cp)
  have hWe' := hWe.symm
  have hV := Lib.hid (show CfgV W (.agg (cfgCells c (.slice Ad c.ds.length cd) (.slice Ae c.es.length ce) (.slice Au c.us.length cu) (.slice Ap c.ps.length cp)).toArray) c from ⟨_, _, _, _, rfl, hd0.below hB0, he0.below hB0, hu0.below hB0, hp0.below hB0⟩)
  have hd' := Lib.hid (hd0.below hB0)
  have hh' := Lib.hid (he0.below hB0)
  have hu' := Lib.hid (hu0.below hB0)
  have hq' := Lib.hid (hp0.below hB0)
  have hC' := Lib.hid hC
  have hB0' := Lib.hid hB0
  have hWl : w.heap.size ≤ W.heap.size := by omega
  have c0 := hC.at_ 0 _ rfl
  have c1 := hC.at_ 1 _ rfl
  have c2 := hC.at_ 2 _ rfl
  have c3 := hC.at_ 3 _ rfl
  have c4 := hC.at_ 4 _ rfl
  have hCl := Lib.hid hC.load
  clear hWe hd0 he0 hu0 hp0 hC hB0
  unfold cfgCells
  have hEW := Lib.hid (hE.of hB0'.out)
  have hG := Lib.hid (great_any c _ W hV.out hA.pin hA.ds hA.es hA.us hA.ps)
  have hin := Lib.hid hA.inn
  have hlc := hCl.out
  clear hE hA c0 c1 c2 c3 c4
  go_enter Tryz.func3, Tryz.ntmps3
  go_wp2_with (refine wpList_load_list rfl 27 _ rfl ⟨w.heap.size, 0, none⟩ rfl (cfgCells c (.slice Ad c.ds.length cd) (.slice Ae c.es.length ce) (.slice Au c.us.length cu) (.slice Ap c.ps.length cp)) hlc ?_)
  clear hWe'
  refine hG.out.mono ?_
  rintro e w1 ⟨rfl, b1⟩
  have B1 := Lib.hid b1
  have HA := Lib.hid (fun (w' : World) (hb : Below W.heap.size W w') => awake_any w' (hEW.out.of hb))
  clear hlc hG
  cases hg : great c with
  | true =>
    clear hg
    go_wp2_with fail
    refine (HA.out w1 b1).mono ?_
    rintro e w2 ⟨rfl, b2⟩
    have B2 := Lib.hid (then_ B1.out b2)
    clear b1 b2
    go_wp2
    go_ret
    exact ⟨rfl, hB0'.out.trans (B2.out.mono hWl)⟩
  | false =>
    have hsm := small_of hg
    have hsm' := Lib.hid hsm
    clear hg
    obtain ⟨r, hr⟩ : ∃ r, right c = r := ⟨_, rfl⟩
    obtain ⟨G, hG1, hG2⟩ := gworlds w1
    have hW0 : ∃ q, w1.drew = G q := hG2 _ (Below.refl _ _).drew
    have HL := Lib.hid (fun p => ((hC'.out.below b1).below (hG1 p)).load)
    have HV := Lib.hid (fun p => show Calls Tryz.prog 10 #[.agg (cfgCells c (.slice Ad c.ds.length cd) (.slice Ae c.es.length ce) (.slice Au c.us.length cu) (.slice Ap c.ps.length cp)).toArray] (G p) (fun e w'' => e = .returned (.int .i64 r) ∧ ∃ q : Regrown, w'' = G q) from hr ▸ (validate_any c _ (G p) ((hV.out.below b1).below (hG1 p)) hin.out hsm'.out.fair).mono fun e w'' ⟨he, hb⟩ => ⟨he, hG2 _ (then_ (hG1 p) hb)⟩)
    have HR := Lib.hid (fun p => show Calls Tryz.prog 11 #[.agg (cfgCells c (.slice Ad c.ds.length cd) (.slice Ae c.es.length ce) (.slice Au c.us.length cu) (.slice Ap c.ps.length cp)).toArray] (G p) (fun e w'' => e = .returned (.int .i64 r) ∧ ∃ q : Regrown, w'' = G q) from hr ▸ (right_any c _ (G p) ((hV.out.below b1).below (hG1 p)) hin.out hsm'.out).mono fun e w'' ⟨he, hb⟩ => ⟨he, hG2 _ (then_ (hG1 p) hb)⟩)
    have HW := Lib.hid (fun p => show Calls Tryz.prog 9 #[] (G p) (fun e w'' => e = .returned (.bool true) ∧ ∃ q : Regrown, w'' = G q) from (HA.out (G p) (then_ b1 (hG1 p))).mono fun e w'' ⟨he, hb⟩ => ⟨he, hG2 _ (then_ (hG1 p) hb)⟩)
    have HB := Lib.hid (fun p => then_ b1 (hG1 p))
    have t : (r == r) = true := by simp
    clear hG1 hG2 hr hsm b1
    go_wp2_with fail
    refine wp_region_G (G := G) (by kernel_rfl) (by kernel_rfl) hW0 ?_
    repeat (first | go_big_quiet_skip | (go_big_quiet_want; first
      | (refine q_load_list 27 _ ⟨w.heap.size, 0, none⟩ (cfgCells c (.slice Ad c.ds.length cd) (.slice Ae c.es.length ce) (.slice Au c.us.length cu) (.slice Ap c.ps.length cp)) rfl rfl HL.out ?_; simp only [Act.put, List.setIfInBounds_toArray, List.set_cons_zero, List.set_cons_succ]; go_big_quiet_on)
      | (go_big_quiet_op; first | go_big_quiet_on | go_big_quiet_call (first | (go_at_call 10; exact HV.out _) | (go_at_call 11; exact HR.out _) | (go_at_call 9; exact HW.out _)))))
    refine wpQuiet_nil ?_
    rintro _ ⟨p, rfl⟩
    go_wp2
    go_ret
    exact ⟨rfl, hB0'.out.trans ((HB.out p).mono hWl)⟩

set_option maxHeartbeats 4000000 in
theorem lawFormat (c : Cfg) (v : Value) (w : World) (h : CfgV w v c) (hA : ArgC c) (hE : Env w) :
    Calls Tryz.prog 4 #[v] w fun e w' => e = .returned (.bool true) ∧ Below w.heap.size w w' := by
  obtain ⟨vd, ve, vu, vp, rfl, hd0, he0, hu0, hp0⟩ := h
  obtain ⟨Ad, cd, rfl⟩ := hd0.form
  obtain ⟨Ae, ce, rfl⟩ := he0.form
  obtain ⟨Au, cu, rfl⟩ := hu0.form
  obtain ⟨Ap, cp, rfl⟩ := hp0.form
  obtain ⟨W, hWe, hC, hB0, hWs⟩ := box_cfg w c (.slice Ad c.ds.length cd) (.slice Ae c.es.length ce) (.slice Au c.us.length cu) (.slice Ap c.ps.length cp)
  have hWe' := hWe.symm
  have hV := Lib.hid (show CfgV W (.agg (cfgCells c (.slice Ad c.ds.length cd) (.slice Ae c.es.length ce) (.slice Au c.us.length cu) (.slice Ap c.ps.length cp)).toArray) c from ⟨_, _, _, _, rfl, hd0.below hB0, he0.below hB0, hu0.below hB0, hp0.below hB0⟩)
  have hd' := Lib.hid (hd0.below hB0)
  have hh' := Lib.hid (he0.below hB0)
  have hu' := Lib.hid (hu0.below hB0)
  have hq' := Lib.hid (hp0.below hB0)
  have hC' := Lib.hid hC
  have hB0' := Lib.hid hB0
  have hWl : w.heap.size ≤ W.heap.size := by omega
  have c0 := hC.at_ 0 _ rfl
  have c1 := hC.at_ 1 _ rfl
  have c2 := hC.at_ 2 _ rfl
  have c3 := hC.at_ 3 _ rfl
  have c4 := hC.at_ 4 _ rfl
  have hCl := Lib.hid hC.load
  clear hWe hd0 he0 hu0 hp0 hC hB0
  unfold cfgCells
  have hEW := Lib.hid (hE.of hB0'.out)
  have hG := Lib.hid (great_any c _ W hV.out hA.pin hA.ds hA.es hA.us hA.ps)
  have hin := Lib.hid hA.inn
  have hlc := hCl.out
  clear hE hA c0 c1 c2 c3 c4
  go_enter Tryz.func4, Tryz.ntmps4
  go_wp2_with (refine wpList_load_list rfl 27 _ rfl ⟨w.heap.size, 0, none⟩ rfl (cfgCells c (.slice Ad c.ds.length cd) (.slice Ae c.es.length ce) (.slice Au c.us.length cu) (.slice Ap c.ps.length cp)) hlc ?_)
  clear hWe'
  refine hG.out.mono ?_
  rintro e w1 ⟨rfl, b1⟩
  have B1 := Lib.hid b1
  have HA := Lib.hid (fun (w' : World) (hb : Below W.heap.size W w') => awake_any w' (hEW.out.of hb))
  clear hlc hG
  cases hg : great c with
  | true =>
    clear hg
    go_wp2_with fail
    refine (HA.out w1 b1).mono ?_
    rintro e w2 ⟨rfl, b2⟩
    have B2 := Lib.hid (then_ B1.out b2)
    clear b1 b2
    go_wp2
    go_ret
    exact ⟨rfl, hB0'.out.trans (B2.out.mono hWl)⟩
  | false =>
    have hsm := small_of hg
    have hsm' := Lib.hid hsm
    have hlc := (hC'.out.below b1).load
    have HF := Lib.hid (format_any c _ w1 (hEW.out.of b1) (hV.out.below b1) hin.out hsm.fair)
    clear hg hsm b1
    by_cases hr : right c = 0
    rotate_left
    · have f1 : fmtS c = [] := by unfold fmtS; rw [if_neg (fun e => hr e.1)]
      have f2 : fmtE c = 1 := by unfold fmtE; rw [if_neg hr]
      have t : (right c != 0) = true := by simp [hr]
      rw [f1, f2] at HF
      clear f1 f2 hr
      go_wp2_with (refine wpList_load_list rfl 27 _ rfl ⟨w.heap.size, 0, none⟩ rfl (cfgCells c (.slice Ad c.ds.length cd) (.slice Ae c.es.length ce) (.slice Au c.us.length cu) (.slice Ap c.ps.length cp)) hlc ?_)
      refine HF.out.mono ?_
      rintro e w2 ⟨rfl, b2⟩
      have B2 := Lib.hid (then_ B1.out b2)
      have hl2 := (hC'.out.below B2.out).load
      clear hlc HF b2
      go_wp2_with (refine wpList_load_list rfl 27 _ rfl ⟨w.heap.size, 0, none⟩ rfl (cfgCells c (.slice Ad c.ds.length cd) (.slice Ae c.es.length ce) (.slice Au c.us.length cu) (.slice Ap c.ps.length cp)) hl2 ?_)
      refine (right_any c _ w2 (hV.out.below B2.out) hin.out hsm'.out).mono ?_
      rintro e w3 ⟨rfl, b3⟩
      have B3 := Lib.hid (then_ B2.out b3)
      clear hl2 b3
      go_wp2_with fail
      refine (HA.out w3 B3.out).mono ?_
      rintro e w4 ⟨rfl, b4⟩
      have B4 := Lib.hid (then_ B3.out b4)
      clear b4
      go_wp2
      go_ret
      exact ⟨rfl, hB0'.out.trans (B4.out.mono hWl)⟩
    · have hsl := small_text hsm'.out hr
      have hmp := parse_text hr hsl
      have f1 : fmtS c = text c := by unfold fmtS; rw [if_pos ⟨hr, hsl⟩]
      have f2 : fmtE c = 0 := by unfold fmtE; rw [if_pos hr, if_pos hsl]
      have hti := Lib.hid (textIn_of hr)
      rw [f1, f2] at HF
      have HT := Lib.hid (fun (w' : World) (v : Value) (h : CfgV w' v c) => text_any c v w' h hsm'.out hti.out)
      obtain ⟨S, hS⟩ : ∃ S, text c = S := ⟨_, rfl⟩
      rw [hS] at HF hsl hmp HT
      have HPs := Lib.hid (fun (w' : World) (hb : Below W.heap.size W w') => parse_any S w' (hEW.out.of hb) (by omega))
      rw [hmp] at HPs
      have t : (right c != 0) = false := by simp [hr]
      clear f1 f2 hS hsl hmp
      go_wp2_with (refine wpList_load_list rfl 27 _ rfl ⟨w.heap.size, 0, none⟩ rfl (cfgCells c (.slice Ad c.ds.length cd) (.slice Ae c.es.length ce) (.slice Au c.us.length cu) (.slice Ap c.ps.length cp)) hlc ?_)
      refine HF.out.mono ?_
      rintro e w2 ⟨rfl, b2⟩
      have B2 := Lib.hid (then_ B1.out b2)
      have hl2 := (hC'.out.below B2.out).load
      clear hlc HF b2
      go_wp2_with (refine wpList_load_list rfl 27 _ rfl ⟨w.heap.size, 0, none⟩ rfl (cfgCells c (.slice Ad c.ds.length cd) (.slice Ae c.es.length ce) (.slice Au c.us.length cu) (.slice Ap c.ps.length cp)) hl2 ?_)
      refine (right_any c _ w2 (hV.out.below B2.out) hin.out hsm'.out).mono ?_
      rintro e w3 ⟨rfl, b3⟩
      have B3 := Lib.hid (then_ B2.out b3)
      clear hl2 b3
      go_wp2_with fail
      refine (HPs.out w3 B3.out).mono ?_
      rintro e w4 ⟨u, rfl, hu, b4⟩
      obtain ⟨arr, rfl, hs, hone⟩ := cfgV_arr hu
      have hi := info_cfg arr hs
      have hx0 : (w4.alloc (.cells zArr 27)).heap[w4.heap.size]? = some (.cells zArr 27 (0, 0)) := heap_alloc_new _ _
      have hx5 := setRow_heap _ _ _ arr _ _ hx0
      have b5 : Below w4.heap.size w4 ((w4.alloc (.cells zArr 27)).setRow w4.heap.size arr) := below_setRow (alloc_below w4 _) (Nat.le_refl _) arr
      have hold0 : zArr.size = arr.size := by rw [hs]; rfl
      have B5 := Lib.hid (then_ (then_ B3.out b4) b5)
      have hx5' := Lib.hid hx5
      have V5 := Lib.hid (hu.below b5)
      have hl5 := (hC'.out.below B5.out).load
      have HT5 := Lib.hid (HT.out _ _ (hV.out.below B5.out))
      clear hx5 b4 b5 hu HPs HT
      go_wp2_with (first
        | (refine wpList_store_row rfl 27 _ _ rfl w4.heap.size arr rfl rfl 27 zArr hx0 hi hold0 hone ?_)
        | (refine wpList_load_list rfl 27 _ rfl ⟨w.heap.size, 0, none⟩ rfl (cfgCells c (.slice Ad c.ds.length cd) (.slice Ae c.es.length ce) (.slice Au c.us.length cu) (.slice Ap c.ps.length cp)) hl5 ?_))
      refine HT5.out.mono ?_
      rintro e w6 ⟨rfl, b6⟩
      have B6 := Lib.hid (then_ B5.out b6)
      have hl6 := (hC'.out.below B6.out).load
      have hy6 := load_arr ((b6.block _ (Array.getElem?_eq_some_iff.1 hx5'.out).1).trans hx5'.out) hs
      have V6 := Lib.hid (V5.out.below b6)
      have hQ : ((S == S) = true) := by simp
      clear hx0 hl5 HT5 b6
      go_wp2_with (first
        | (refine wpList_load_gda rfl 27 _ rfl ⟨w4.heap.size, 0, none⟩ rfl arr hy6 ?_)
        | (refine wpList_load_gd rfl 27 _ rfl ⟨w.heap.size, 0, none⟩ rfl (cfgCells c (.slice Ad c.ds.length cd) (.slice Ae c.es.length ce) (.slice Au c.us.length cu) (.slice Ap c.ps.length cp)) hl6 ?_))
      refine (same_any c c _ _ w6 V6.out (hV.out.below B6.out) hsm'.out hsm'.out).mono ?_
      rintro e w7 ⟨rfl, b7⟩
      rw [decide_eq_true (rfl : c = c)]
      have B7 := Lib.hid (then_ B6.out b7)
      clear hl6 hy6 b7
      go_wp2_with fail
      refine (HA.out w7 B7.out).mono ?_
      rintro e w8 ⟨rfl, b8⟩
      have B8 := Lib.hid (then_ B7.out b8)
      clear b8
      go_wp2
      go_ret
      exact ⟨rfl, hB0'.out.trans (B8.out.mono hWl)⟩
end Go.Proofs.YtjklpikopgihgaaGreatDoor
