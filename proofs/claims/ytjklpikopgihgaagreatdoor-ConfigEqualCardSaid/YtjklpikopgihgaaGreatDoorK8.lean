/- The code: Format. -/
import Derived.Test.YtjklpikopgihgaaGreatDoorK7
set_option linter.unusedVariables false
set_option maxRecDepth 100000
set_option linter.unusedSimpArgs false
namespace Go.Proofs.YtjklpikopgihgaaGreatDoor
open Go.RowKit Go.Lib Cf

def fmtE (c : Cfg) : Int := if right c = 0 then (if (text c).length ≤ 65536 then 0 else 3) else 1
def fmtS (c : Cfg) : Bs := if right c = 0 ∧ (text c).length ≤ 65536 then text c else []
theorem dg18 {z : Int} (h : N18 z) : Dg z := ⟨h.1, by have := h.2; omega⟩
theorem ret_t {a b : Value} (h : a = b) : Ending.returned a = .returned b := by rw [h]
theorem node_line {d : Int} {X : Bs} (h : dig d = X) : wdNode ++ [32] ++ X ++ [10] = lNode d := by rw [← h]; simp [lNode, wNode, wdNode]
theorem edge_line {e : Int × Int × Int} {X Y Z : Bs} (h1 : dig e.1 = X) (h2 : dig e.2.1 = Y) (h3 : time e.2.2 = Z) : wdEdge ++ [32] ++ X ++ [32] ++ Y ++ [32] ++ Z ++ [10] = lEdge e := by rw [← h1, ← h2, ← h3]; simp [lEdge, wEdge, wdEdge]
theorem unit_line {e : Int × Int × Int} {X Y Z : Bs} (h1 : kindName e.1 = X) (h2 : dig e.2.1 = Y) (h3 : dig e.2.2 = Z) : wdUnit ++ [32] ++ X ++ [32] ++ Y ++ [32] ++ Z ++ [10] = lUnit e := by rw [← h1, ← h2, ← h3]; simp [lUnit, wUnit, wdUnit]
theorem i64_of_time {z : Int} (h : N18 z ∨ z = 4611686018427387904) : I64 z := by
  unfold I64
  rcases h with h | h
  · have := h.1; have := h.2; omega
  · omega
theorem dg_of_time {z : Int} (h : N18 z ∨ z = 4611686018427387904) : Dg z := by
  rcases h with h | h
  · exact (dg18 h)
  · exact ⟨by omega, by omega⟩
theorem i64_of_kind {z : Int} (h : kndOk z = true) : I64 z := by
  unfold kndOk inR at h; simp at h; unfold I64; omega
theorem plan_small {p : Plan} (h : planOk p = true) : p.kinds.length ≤ 100 ∧ p.code.length ≤ 1000000 := by
  unfold planOk codeOk at h
  simp only [Bool.and_eq_true, decide_eq_true_eq] at h
  omega
theorem plan_len400 {p : Plan} (h : planOk p = true) : (lPlan p).length ≤ 400 := by
  unfold planOk codeOk inR at h
  simp only [Bool.and_eq_true, decide_eq_true_eq] at h
  have := lPlan_len (p := p) (by omega)
  omega
theorem range_snoc (f : Nat → Bs) (k : Nat) : (List.range (k + 1)).flatMap f = (List.range k).flatMap f ++ f k := by rw [List.range_succ]; simp

set_option maxHeartbeats 8000000 in
theorem format_any (c : Cfg) (v : Value) (w : World) (hE : Env w) (h : CfgV w v c) (hin : CfgIn c) (hf : Fair c) :
    Calls Tryz.prog 12 #[v] w fun r w' => r = .returned (.tuple #[.string ⟨(fmtS c).toArray⟩, .int .i64 (fmtE c)]) ∧ Below w.heap.size w w' := by
  obtain ⟨vd, ve, vu, vp, rfl, hd0, he0, hu0, hp0⟩ := h
  obtain ⟨Ad, cd, rfl⟩ := hd0.form
  obtain ⟨Ae, ce, rfl⟩ := he0.form
  obtain ⟨Au, cu, rfl⟩ := hu0.form
  obtain ⟨Ap, cp, rfl⟩ := hp0.form
  obtain ⟨W, hWe, hC, hB0, hWs⟩ := box_cfg w c (.slice Ad c.ds.length cd) (.slice Ae c.es.length ce) (.slice Au c.us.length cu) (.slice Ap c.ps.length cp)
  have hWe' := hWe.symm
  have hV := Lib.hid (show CfgV W (.agg (cfgCells c (.slice Ad c.ds.length cd) (.slice Ae c.es.length ce) (.slice Au c.us.length cu) (.slice Ap c.ps.length cp)).toArray) c from ⟨_, _, _, _, rfl, hd0.below hB0, he0.below hB0, hu0.below hB0, hp0.below hB0⟩)
  have hd' := Lib.hid (hd0.below hB0)
  have hh' := Lib.hid (he0.below hB0)
  have hu' := Lib.hid (hu0.below hB0)
  have hq' := Lib.hid (hp0.below hB0)
  have hC' := Lib.hid hC
  have hB0' := Lib.hid hB0
  have hWl : w.heap.size ≤ W.heap.size := by omega
  have c0 := hC.at_ 0 _ rfl
  have c1 := hC.at_ 1 _ rfl
  have c2 := hC.at_ 2 _ rfl
  have c3 := hC.at_ 3 _ rfl
  have c4 := hC.at_ 4 _ rfl
  have hCl := Lib.hid hC.load
  clear hWe hd0 he0 hu0 hp0 hC hB0
  unfold cfgCells
  have hEW := Lib.hid (hE.of hB0'.out)
  have hW9 : 9 ≤ W.heap.size := by have := hE.size; omega
  have l1 := hf.ds; have l2 := hf.es; have l3 := hf.us; have l4 := hf.ps
  have HV := Lib.hid (validate_any c _ W hV.out hin hf)
  have hlc := hCl.out
  clear hE hin hf
  go_enter Tryz.func12, Tryz.ntmps12
  go_wp2_with (refine wpList_load_list rfl 27 _ rfl ⟨w.heap.size, 0, none⟩ rfl (cfgCells c (.slice Ad c.ds.length cd) (.slice Ae c.es.length ce) (.slice Au c.us.length cu) (.slice Ap c.ps.length cp)) hlc ?_)
  refine HV.out.mono ?_
  rintro r w1 ⟨rfl, b1⟩
  have B1 := Lib.hid b1
  clear hlc hWe' c0 c1 c2 c3 c4 HV
  by_cases hr : right c = 0
  rotate_left
  · have q : (right c != 0) = true := by simp [hr]
    have hfin := Lib.hid (show (.tuple #[.string ⟨#[]⟩, .int .i64 1] : Value) = .tuple #[.string ⟨(fmtS c).toArray⟩, .int .i64 (fmtE c)] from by unfold fmtS fmtE; rw [if_neg hr, if_neg (fun e => hr e.1)])
    clear hr b1
    go_wp2
    go_ret2
    exact ⟨ret_t hfin.out, hB0'.out.trans (B1.out.mono hWl)⟩
  have q : (right c != 0) = false := by simp [hr]
  have hfit := Lib.hid (fit_of hr)
  obtain ⟨p1, p2, p3, p4, p5, p6, p7⟩ := right_parts hr
  have n1 := p2.2; have n2 := p4.2; have n3 := p5.2
  have n4 : c.ps.length ≤ 64 := by have := plansOk_len c.ps [] p6 (by simp); simpa using this
  have hpk := Lib.hid (plansOk_all c.ps [] p6)
  have hr' := Lib.hid hr
  have hcv := (dg18 hfit.out.ce)
  obtain ⟨X, hX⟩ : ∃ X, dig c.ce = X := ⟨_, rfl⟩
  have hXl := dig_len hcv.2
  have HN := Lib.hid (numI_any c.ce w1 (hEW.out.of b1) hcv)
  rw [hX] at hXl HN
  have hX' := Lib.hid hX
  have c0 := (hC'.out.below b1).at_ 0 _ rfl
  clear hr p1 p2 p3 p4 p5 p6 p7 hX hcv b1
  go_wp2_with fail
  refine HN.out.mono ?_
  rintro r w2 ⟨rfl, b2⟩
  have B2 := Lib.hid (then_ B1.out b2)
  have s2 : W.heap.size ≤ w2.heap.size := B2.out.size
  have hlen := Lib.hid (show (wdCentres ++ [32] ++ X).length ≤ 100000 from by simp [wdCentres]; omega)
  clear c0 b2 HN
  go_wp2_with fail
  refine (appendLine_any W.heap.size (.slice none 0 0) [] _ [wdCentres, X] (wdCentres ++ [32] ++ X) _ (OwnB.nil _ _) (le_alloc s2) (ws_lit w2 [wdCentres, X]) (join2 _ _) (by simp) hlen.out (by simp)).mono ?_
  rintro r w3 ⟨v3, rfl, O3, b3, k3⟩
  have B3 := Lib.hid ((B2.out.alloc s2 _).trans b3)
  obtain ⟨vA3, vn3, vc3, rfl⟩ := own_form3 O3
  have O3' := Lib.hid O3
  have hl0 := Lib.hid (show [] ++ (wdCentres ++ [32] ++ X) ++ [10] = lCentres c.ce from by unfold lCentres; rw [hX'.out]; simp [wCentres, wdCentres])
  have c1 := (hC'.out.below B3.out).at_ 1 _ rfl
  have hL0 := Lib.hid (show (lCentres c.ce).length ≤ 28 from by unfold lCentres; rw [hX'.out]; simp [wCentres]; omega)
  clear O3 b3 k3 hlen
  go_wp2_with fail
  clear c1 q
  have Oz := O3'
  have Bz := B3
  go_loopw [4, 28] (fun s i w' => ∃ (k : Nat) (l : Bs), i = .int .i64 (k : Int) ∧ k ≤ c.ds.length ∧ l = lCentres c.ce ++ (c.ds.take k).flatMap lNode ∧ OwnB w' W.heap.size s l ∧ Below W.heap.size W w') (fun _ i _ => c.ds.length - (RowKit.intOf i).toNat)
  case atStart => exact ⟨0, lCentres c.ce, rfl, by omega, by simp, hl0.out ▸ Oz.out, Bz.out⟩
  case round =>
    clear Oz Bz
    obtain ⟨k, l1, rfl, hk, hl, hO, hB⟩ := hrel
    have hB' := Lib.hid hB
    have sB := hB.size
    have hCr := Lib.hid (hC'.out.below hB)
    obtain ⟨vA, vn, vc, rfl⟩ := own_form3 hO
    have hO' := Lib.hid hO
    have hl1 := Lib.hid hl
    have hll1 : l1.length ≤ 102428 := by
      have h1 := flat_len lNode 25 (c.ds.take k) (fun x hx => lNode_len (dg18 (hfit.out.ds x (List.mem_of_mem_take hx))).2)
      have h2 := hL0.out
      rw [List.length_take] at h1
      rw [hl, List.length_append]; omega
    clear hl hO hB
    by_cases hlt : k < c.ds.length
    · obtain ⟨x, hx⟩ : ∃ x, c.ds[k]? = some x := ⟨_, List.getElem?_eq_getElem hlt⟩
      obtain ⟨ad, rfl, d0⟩ := (hd'.out.below hB'.out).at_ hx
      have e1 : (k : Int) < (c.ds.length : Int) := by omega
      have e2 : (0 : Int) ≤ (k : Int) := by omega
      have hz := (dg18 (hfit.out.ds x (List.mem_of_getElem? hx)))
      obtain ⟨Y, hY⟩ : ∃ Y, dig x = Y := ⟨_, rfl⟩
      have hYl := dig_len hz.2
      have HN := Lib.hid (numI_any x wr (hEW.out.of hB'.out) hz)
      rw [hY] at hYl HN
      have hlen := Lib.hid (show (wdNode ++ [32] ++ Y).length ≤ 100000 from by simp [wdNode]; omega)
      have hst := Lib.hid (show l1 ++ (wdNode ++ [32] ++ Y) ++ [10] = lCentres c.ce ++ (c.ds.take (k + 1)).flatMap lNode from by
        rw [flatMap_take lNode hx, ← node_line hY, hl1.out]; simp)
      have h9 := Lib.hid (show l1.length ≤ 9000000 from by omega)
      clear hx hz hY
      go_wp2_with fail
      refine HN.out.mono ?_
      rintro r w4 ⟨rfl, b4⟩
      have O4 := Lib.hid (own_below hO'.out b4)
      have B4 := Lib.hid (then_ hB'.out b4)
      have s4 : W.heap.size ≤ w4.heap.size := B4.out.size
      clear b4 d0
      go_wp2_with fail
      refine (appendLine_any W.heap.size (.slice vA vn vc) l1 _ [wdNode, Y] (wdNode ++ [32] ++ Y) _ (World.ownsRow.alloc O4.out _) (le_alloc s4) (ws_lit w4 [wdNode, Y]) (join2 _ _) (by simp) hlen.out h9.out).mono ?_
      rintro r w5 ⟨v5, rfl, O5, b5, k5⟩
      obtain ⟨A5, n5, c5, rfl⟩ := own_form3 O5
      have O5' := Lib.hid O5
      have B5 := Lib.hid ((B4.out.alloc s4 _).trans b5)
      clear O5 b5 k5
      go_wp2
      go_roundw
      case rel => exact ⟨k + 1, _, by go_num, by omega, hst.out, O5'.out, B5.out⟩
      case measure => simp [RowKit.intOf]; omega
    · obtain rfl : k = c.ds.length := by omega
      have hl1 := Lib.hid (show l1 = lCentres c.ce ++ c.ds.flatMap lNode from by rw [hl1.out, List.take_length])
      have hL1 := Lib.hid hll1
      have cz := hCr.out.at_ 2 _ rfl
      have Oz := hO'
      have Bz := hB'
      clear hll1 hCr hO' hB' sB
      go_wp2_with fail
      clear cz
      go_loopw [4, 41] (fun s i w' => ∃ (k : Nat) (l : Bs), i = .int .i64 (k : Int) ∧ k ≤ c.es.length ∧ l = l1 ++ (c.es.take k).flatMap lEdge ∧ OwnB w' W.heap.size s l ∧ Below W.heap.size W w') (fun _ i _ => c.es.length - (RowKit.intOf i).toNat)
      case atStart => exact ⟨0, l1, rfl, by omega, by simp, Oz.out, Bz.out⟩
      case round =>
        clear Oz Bz
        obtain ⟨k, l2, rfl, hk, hl, hO, hB⟩ := hrel
        have hB' := Lib.hid hB
        have sB := hB.size
        have hCr := Lib.hid (hC'.out.below hB)
        obtain ⟨vA, vn, vc, rfl⟩ := own_form3 hO
        have hO' := Lib.hid hO
        have hl2 := Lib.hid hl
        have hll2 : l2.length ≤ 1167388 := by
          have h1 := flat_len lEdge 65 (c.es.take k) (fun x hx => lEdge_len ⟨⟨by have := (dg18 (hfit.out.es x (List.mem_of_mem_take hx)).1).1; omega, (dg18 (hfit.out.es x (List.mem_of_mem_take hx)).1).2⟩, ⟨by have := (dg18 (hfit.out.es x (List.mem_of_mem_take hx)).2.1).1; omega, (dg18 (hfit.out.es x (List.mem_of_mem_take hx)).2.1).2⟩, i64_of_time (hfit.out.es x (List.mem_of_mem_take hx)).2.2⟩)
          have h2 := hL1.out
          rw [List.length_take] at h1
          rw [hl, List.length_append]; omega
        clear hl hO hB
        by_cases hlt : k < c.es.length
        · obtain ⟨x, hx⟩ : ∃ x, c.es[k]? = some x := ⟨_, List.getElem?_eq_getElem hlt⟩
          obtain ⟨ad, rfl, hat⟩ := (hh'.out.below hB'.out).at_ hx
          have e1 : (k : Int) < (c.es.length : Int) := by omega
          have e2 : (0 : Int) ≤ (k : Int) := by omega
          have hz := Lib.hid (hfit.out.es x (List.mem_of_getElem? hx))
          have hle := load_edge hat
          have hxs := Lib.hid hx
          obtain ⟨x1, x2, x3⟩ := x
          simp only at hle
          obtain ⟨Y1, hY1⟩ : ∃ Y, dig x1 = Y := ⟨_, rfl⟩
          obtain ⟨Y2, hY2⟩ : ∃ Y, dig x2 = Y := ⟨_, rfl⟩
          obtain ⟨Y3, hY3⟩ : ∃ Y, time x3 = Y := ⟨_, rfl⟩
          have hlen := Lib.hid (show (wdEdge ++ [32] ++ Y1 ++ [32] ++ Y2 ++ [32] ++ Y3).length ≤ 100000 from by
            have h1 : Y1.length ≤ 19 := by rw [← hY1]; exact dig_len (dg18 hz.out.1).2
            have h2 : Y2.length ≤ 19 := by rw [← hY2]; exact dig_len (dg18 hz.out.2.1).2
            have h3 : Y3.length ≤ 19 := by rw [← hY3]; exact time_len (i64_of_time hz.out.2.2).2
            simp [wdEdge]; omega)
          have hst := Lib.hid (show l2 ++ (wdEdge ++ [32] ++ Y1 ++ [32] ++ Y2 ++ [32] ++ Y3) ++ [10] = l1 ++ (c.es.take (k + 1)).flatMap lEdge from by
            rw [flatMap_take lEdge hx, ← edge_line (e := (x1, x2, x3)) hY1 hY2 hY3, hl2.out]; simp)
          have h9 := Lib.hid (show l2.length ≤ 9000000 from by omega)
          have H1 := Lib.hid (fun (w' : World) (h : Below W.heap.size W w') => show Calls Tryz.prog 32 #[.int .i64 x1] w' (fun e w'' => e = .returned (.string ⟨Y1.toArray⟩) ∧ Below w'.heap.size w' w'') from hY1 ▸ numI_any _ w' (hEW.out.of h) (dg18 hz.out.1))
          have H2 := Lib.hid (fun (w' : World) (h : Below W.heap.size W w') => show Calls Tryz.prog 32 #[.int .i64 x2] w' (fun e w'' => e = .returned (.string ⟨Y2.toArray⟩) ∧ Below w'.heap.size w' w'') from hY2 ▸ numI_any _ w' (hEW.out.of h) (dg18 hz.out.2.1))
          have H3 := Lib.hid (fun (w' : World) (h : Below W.heap.size W w') => show Calls Tryz.prog 33 #[.int .i64 x3] w' (fun e w'' => e = .returned (.string ⟨Y3.toArray⟩) ∧ Below w'.heap.size w' w'') from hY3 ▸ time_any _ w' (hEW.out.of h) (dg_of_time hz.out.2.2))
          clear hx hat hz hY1 hY2 hY3
          have hnew := heap_alloc_new wr (.cells #[.int .i64 x1, .int .i64 x2, .int .i64 x3] 47)
          have hBa : Below wr.heap.size wr (wr.alloc (.cells #[.int .i64 x1, .int .i64 x2, .int .i64 x3] 47)) := (Below.refl _ _).alloc (Nat.le_refl _) _
          go_wp2_with (refine wpList_load_list rfl 47 _ rfl (ad.add (k * 3)) rfl [.int .i64 x1, .int .i64 x2, .int .i64 x3] hle ?_)
          have Bw := then_ hB'.out hBa
          have Ow := own_below hO'.out hBa
          clear hle hBa hO' hB'
          generalize wr.alloc (.cells #[.int .i64 x1, .int .i64 x2, .int .i64 x3] 47) = V at hnew Bw Ow ⊢
          generalize wr.heap.size = gb at hnew sB ⊢
          have HS := Lib.hid (fun w' (hk : Kb V w') => show w'.cell? ⟨gb, 0, none⟩ = some (.int .i64 x1) ∧ w'.cell? ⟨gb, 1, none⟩ = some (.int .i64 x2) ∧ w'.cell? ⟨gb, 2, none⟩ = some (.int .i64 x3) from by
            have h := hk _ _ _ _ hnew (by decide)
            exact ⟨by rw [cell_of_row _ _ 0 _ _ _ h]; rfl, by rw [cell_of_row _ _ 1 _ _ _ h]; rfl, by rw [cell_of_row _ _ 2 _ _ _ h]; rfl⟩)
          have hdr : Below V.heap.size V V.drew := (Below.refl _ _).drew
          have Bw := then_ Bw hdr
          have Ow := own_below Ow hdr
          have Kw := Kb.of_below hdr
          have hS := HS.out _ Kw
          clear hdr hnew
          go_region_held3 (fun w' => w'.cell? ⟨gb, 0, none⟩ = some (.int .i64 x1) ∧ w'.cell? ⟨gb, 1, none⟩ = some (.int .i64 x2) ∧ w'.cell? ⟨gb, 2, none⟩ = some (.int .i64 x3)) (first | exact HS.out _ Kw | exact HS.out _ (Kw.alloc _)) (first
            | (go_at_call_of 32 (Value.int IntKind.i64 x1); refine (H1.out _ Bw).mono ?_; rintro r w4 ⟨rfl, b4⟩; have Kw := Kw.then b4; have Ow := own_below Ow b4; have Bw := Bw.trans (b4.mono Bw.size); have hS := HS.out _ Kw)
            | (go_at_call_of 32 (Value.int IntKind.i64 x2); refine (H2.out _ Bw).mono ?_; rintro r w4 ⟨rfl, b4⟩; have Kw := Kw.then b4; have Ow := own_below Ow b4; have Bw := Bw.trans (b4.mono Bw.size); have hS := HS.out _ Kw)
            | (go_at_call_of 33 (Value.int IntKind.i64 x3); refine (H3.out _ Bw).mono ?_; rintro r w4 ⟨rfl, b4⟩; have Kw := Kw.then b4; have Ow := own_below Ow b4; have Bw := Bw.trans (b4.mono Bw.size); have hS := HS.out _ Kw)
            | (go_at_call 31; refine (appendLine_any W.heap.size (.slice vA vn vc) l2 _ [wdEdge, Y1, Y2, Y3] (wdEdge ++ [32] ++ Y1 ++ [32] ++ Y2 ++ [32] ++ Y3) _ (World.ownsRow.alloc Ow _) (le_alloc Bw.size) (ws_lit _ [wdEdge, Y1, Y2, Y3]) (join4 _ _ _ _) (by simp) hlen.out h9.out).mono ?_; rintro r w5 ⟨v5, rfl, O5, b5, k5⟩; have Kw := (Kw.alloc _).trans k5; have B5 := (Bw.alloc Bw.size _).trans b5; have hS := HS.out _ Kw))
          all_goals (
            obtain ⟨A5, n5, c5, rfl⟩ := own_form3 O5
            have O5' := Lib.hid O5
            have B5' := Lib.hid B5
            clear hS Kw Bw Ow B5 O5
            go_wp2
            go_roundw
            case rel => exact ⟨k + 1, _, by go_num, by omega, hst.out, O5'.out, B5'.out⟩
            case measure => simp [RowKit.intOf]; omega)
        · obtain rfl : k = c.es.length := by omega
          have hl2 := Lib.hid (show l2 = l1 ++ c.es.flatMap lEdge from by rw [hl2.out, List.take_length])
          have hL2 := Lib.hid hll2
          have cz := hCr.out.at_ 3 _ rfl
          have Oz := hO'
          have Bz := hB'
          clear hll2 hCr hO' hB' sB
          go_wp2_with fail
          clear cz
          go_loopw [4, 61] (fun s i w' => ∃ (k : Nat) (l : Bs), i = .int .i64 (k : Int) ∧ k ≤ c.us.length ∧ l = l2 ++ (c.us.take k).flatMap lUnit ∧ OwnB w' W.heap.size s l ∧ Below W.heap.size W w') (fun _ i _ => c.us.length - (RowKit.intOf i).toNat)
          case atStart => exact ⟨0, l2, rfl, by omega, by simp, Oz.out, Bz.out⟩
          case round =>
            clear Oz Bz
            obtain ⟨k, l3, rfl, hk, hl, hO, hB⟩ := hrel
            have hB' := Lib.hid hB
            have sB := hB.size
            have hCr := Lib.hid (hC'.out.below hB)
            obtain ⟨vA, vn, vc, rfl⟩ := own_form3 hO
            have hO' := Lib.hid hO
            have hl3 := Lib.hid hl
            have hll3 : l3.length ≤ 1180700 := by
              have h1 := flat_len lUnit 52 (c.us.take k) (fun x hx => lUnit_len ⟨i64_of_kind (hfit.out.us x (List.mem_of_mem_take hx)).1, ⟨by have := (dg18 (hfit.out.us x (List.mem_of_mem_take hx)).2.1).1; omega, (dg18 (hfit.out.us x (List.mem_of_mem_take hx)).2.1).2⟩, ⟨by have := (dg18 (hfit.out.us x (List.mem_of_mem_take hx)).2.2).1; omega, (dg18 (hfit.out.us x (List.mem_of_mem_take hx)).2.2).2⟩⟩)
              have h2 := hL2.out
              rw [List.length_take] at h1
              rw [hl, List.length_append]; omega
            clear hl hO hB
            by_cases hlt : k < c.us.length
            · obtain ⟨x, hx⟩ : ∃ x, c.us[k]? = some x := ⟨_, List.getElem?_eq_getElem hlt⟩
              obtain ⟨ad, rfl, hat⟩ := (hu'.out.below hB'.out).at_ hx
              have e1 : (k : Int) < (c.us.length : Int) := by omega
              have e2 : (0 : Int) ≤ (k : Int) := by omega
              have hz := Lib.hid (hfit.out.us x (List.mem_of_getElem? hx))
              have hle := load_unit hat
              have hxs := Lib.hid hx
              obtain ⟨x1, x2, x3⟩ := x
              simp only at hle
              obtain ⟨Y1, hY1⟩ : ∃ Y, kindName x1 = Y := ⟨_, rfl⟩
              obtain ⟨Y2, hY2⟩ : ∃ Y, dig x2 = Y := ⟨_, rfl⟩
              obtain ⟨Y3, hY3⟩ : ∃ Y, dig x3 = Y := ⟨_, rfl⟩
              have hlen := Lib.hid (show (wdUnit ++ [32] ++ Y1 ++ [32] ++ Y2 ++ [32] ++ Y3).length ≤ 100000 from by
                have h1 : Y1.length ≤ 19 := by rw [← hY1]; exact Nat.le_trans (kind_len _) (by decide)
                have h2 : Y2.length ≤ 19 := by rw [← hY2]; exact dig_len (dg18 hz.out.2.1).2
                have h3 : Y3.length ≤ 19 := by rw [← hY3]; exact dig_len (dg18 hz.out.2.2).2
                simp [wdUnit]; omega)
              have hst := Lib.hid (show l3 ++ (wdUnit ++ [32] ++ Y1 ++ [32] ++ Y2 ++ [32] ++ Y3) ++ [10] = l2 ++ (c.us.take (k + 1)).flatMap lUnit from by
                rw [flatMap_take lUnit hx, ← unit_line (e := (x1, x2, x3)) hY1 hY2 hY3, hl3.out]; simp)
              have h9 := Lib.hid (show l3.length ≤ 9000000 from by omega)
              have H1 := Lib.hid (fun (w' : World) (h : Below W.heap.size W w') => show Calls Tryz.prog 34 #[.int .i64 x1] w' (fun e w'' => e = .returned (.string ⟨Y1.toArray⟩) ∧ Below w'.heap.size w' w'') from hY1 ▸ (kname_any _ w' (hEW.out.of h) hz.out.1).mono fun e w'' ⟨he, hb⟩ => ⟨he, hb ▸ Below.refl _ _⟩)
              have H2 := Lib.hid (fun (w' : World) (h : Below W.heap.size W w') => show Calls Tryz.prog 32 #[.int .i64 x2] w' (fun e w'' => e = .returned (.string ⟨Y2.toArray⟩) ∧ Below w'.heap.size w' w'') from hY2 ▸ numI_any _ w' (hEW.out.of h) (dg18 hz.out.2.1))
              have H3 := Lib.hid (fun (w' : World) (h : Below W.heap.size W w') => show Calls Tryz.prog 32 #[.int .i64 x3] w' (fun e w'' => e = .returned (.string ⟨Y3.toArray⟩) ∧ Below w'.heap.size w' w'') from hY3 ▸ numI_any _ w' (hEW.out.of h) (dg18 hz.out.2.2))
              clear hx hat hz hY1 hY2 hY3
              have hnew := heap_alloc_new wr (.cells #[.int .i64 x1, .int .i64 x2, .int .i64 x3] 50)
              have hBa : Below wr.heap.size wr (wr.alloc (.cells #[.int .i64 x1, .int .i64 x2, .int .i64 x3] 50)) := (Below.refl _ _).alloc (Nat.le_refl _) _
              go_wp2_with (refine wpList_load_list rfl 50 _ rfl (ad.add (k * 3)) rfl [.int .i64 x1, .int .i64 x2, .int .i64 x3] hle ?_)
              have Bw := then_ hB'.out hBa
              have Ow := own_below hO'.out hBa
              clear hle hBa hO' hB'
              generalize wr.alloc (.cells #[.int .i64 x1, .int .i64 x2, .int .i64 x3] 50) = V at hnew Bw Ow ⊢
              generalize wr.heap.size = gb at hnew sB ⊢
              have HS := Lib.hid (fun w' (hk : Kb V w') => show w'.cell? ⟨gb, 0, none⟩ = some (.int .i64 x1) ∧ w'.cell? ⟨gb, 1, none⟩ = some (.int .i64 x2) ∧ w'.cell? ⟨gb, 2, none⟩ = some (.int .i64 x3) from by
                have h := hk _ _ _ _ hnew (by decide)
                exact ⟨by rw [cell_of_row _ _ 0 _ _ _ h]; rfl, by rw [cell_of_row _ _ 1 _ _ _ h]; rfl, by rw [cell_of_row _ _ 2 _ _ _ h]; rfl⟩)
              have hdr : Below V.heap.size V V.drew := (Below.refl _ _).drew
              have Bw := then_ Bw hdr
              have Ow := own_below Ow hdr
              have Kw := Kb.of_below hdr
              have hS := HS.out _ Kw
              clear hdr hnew
              go_region_held3 (fun w' => w'.cell? ⟨gb, 0, none⟩ = some (.int .i64 x1) ∧ w'.cell? ⟨gb, 1, none⟩ = some (.int .i64 x2) ∧ w'.cell? ⟨gb, 2, none⟩ = some (.int .i64 x3)) (first | exact HS.out _ Kw | exact HS.out _ (Kw.alloc _)) (first
                | (go_at_call_of 34 (Value.int IntKind.i64 x1); refine (H1.out _ Bw).mono ?_; rintro r w4 ⟨rfl, b4⟩; have Kw := Kw.then b4; have Ow := own_below Ow b4; have Bw := Bw.trans (b4.mono Bw.size); have hS := HS.out _ Kw)
                | (go_at_call_of 32 (Value.int IntKind.i64 x2); refine (H2.out _ Bw).mono ?_; rintro r w4 ⟨rfl, b4⟩; have Kw := Kw.then b4; have Ow := own_below Ow b4; have Bw := Bw.trans (b4.mono Bw.size); have hS := HS.out _ Kw)
                | (go_at_call_of 32 (Value.int IntKind.i64 x3); refine (H3.out _ Bw).mono ?_; rintro r w4 ⟨rfl, b4⟩; have Kw := Kw.then b4; have Ow := own_below Ow b4; have Bw := Bw.trans (b4.mono Bw.size); have hS := HS.out _ Kw)
                | (go_at_call 31; refine (appendLine_any W.heap.size (.slice vA vn vc) l3 _ [wdUnit, Y1, Y2, Y3] (wdUnit ++ [32] ++ Y1 ++ [32] ++ Y2 ++ [32] ++ Y3) _ (World.ownsRow.alloc Ow _) (le_alloc Bw.size) (ws_lit _ [wdUnit, Y1, Y2, Y3]) (join4 _ _ _ _) (by simp) hlen.out h9.out).mono ?_; rintro r w5 ⟨v5, rfl, O5, b5, k5⟩; have Kw := (Kw.alloc _).trans k5; have B5 := (Bw.alloc Bw.size _).trans b5; have hS := HS.out _ Kw))
              all_goals (
                obtain ⟨A5, n5, c5, rfl⟩ := own_form3 O5
                have O5' := Lib.hid O5
                have B5' := Lib.hid B5
                clear hS Kw Bw Ow B5 O5
                go_wp2
                go_roundw
                case rel => exact ⟨k + 1, _, by go_num, by omega, hst.out, O5'.out, B5'.out⟩
                case measure => simp [RowKit.intOf]; omega)
            · obtain rfl : k = c.us.length := by omega
              have hl3 := Lib.hid (show l3 = l2 ++ c.us.flatMap lUnit from by rw [hl3.out, List.take_length])
              have hL3 := Lib.hid hll3
              have cz := hCr.out.at_ 4 _ rfl
              have Oz := hO'
              have Bz := hB'
              clear hll3 hCr hO' hB' sB
              go_wp2_with fail
              clear cz
              go_loopw [4, 81] (fun s i w' => ∃ (k : Nat) (l : Bs), i = .int .i64 (k : Int) ∧ k ≤ c.ps.length ∧ l = l3 ++ (c.ps.take k).flatMap lPlan ∧ OwnB w' W.heap.size s l ∧ Below W.heap.size W w') (fun _ i _ => c.ps.length - (RowKit.intOf i).toNat)
              case atStart => exact ⟨0, l3, rfl, by omega, by simp, Oz.out, Bz.out⟩
              case round =>
                clear Oz Bz
                obtain ⟨k, l4, rfl, hk, hl, hO, hB⟩ := hrel
                have hB' := Lib.hid hB
                have sB := hB.size
                have hCr := Lib.hid (hC'.out.below hB)
                obtain ⟨vA, vn, vc, rfl⟩ := own_form3 hO
                have hO' := Lib.hid hO
                have hl4 := Lib.hid hl
                have hll4 : l4.length ≤ 1206300 := by
                  have h1 := flat_len lPlan 400 (c.ps.take k) (fun x hx => plan_len400 (hpk.out x (List.mem_of_mem_take hx)))
                  have h2 := hL3.out
                  rw [List.length_take] at h1
                  rw [hl, List.length_append]; omega
                clear hl hO hB
                by_cases hlt : k < c.ps.length
                · obtain ⟨x, hx⟩ : ∃ x, c.ps[k]? = some x := ⟨_, List.getElem?_eq_getElem hlt⟩
                  obtain ⟨ad, u, rfl, hat, hru⟩ := (hq'.out.below hB'.out).at_ hx
                  obtain ⟨Ak, ak, rfl⟩ := hru.form
                  have e1 : (k : Int) < (c.ps.length : Int) := by omega
                  have e2 : (0 : Int) ≤ (k : Int) := by omega
                  have hz := Lib.hid (hfit.out.ps x (List.mem_of_getElem? hx))
                  have hpo := Lib.hid (plan_small (hpk.out x (List.mem_of_getElem? hx)))
                  have hle := load_plan hat
                  have hlen := Lib.hid (show ∀ m, join (wordsP x) [32] = m → m.length ≤ 100000 from by
                    intro m hm
                    have h1 := plan_len400 (hpk.out x (List.mem_of_getElem? hx))
                    rw [← join_plan x, hm, List.length_append] at h1
                    simp at h1; omega)
                  have hst := Lib.hid (show ∀ m, join (wordsP x) [32] = m → l4 ++ m ++ [10] = l3 ++ (c.ps.take (k + 1)).flatMap lPlan from by
                    intro m hm
                    rw [flatMap_take lPlan hx, ← join_plan x, hm, hl4.out]; simp)
                  have h9 := Lib.hid (show l4.length ≤ 9000000 from by omega)
                  have hBa : Below wr.heap.size wr (wr.alloc (.cells #[.string ⟨x.code.toArray⟩, .int .i64 x.urg, .slice Ak x.kinds.length ak] 43)) := (Below.refl _ _).alloc (Nat.le_refl _) _
                  have hnew := heap_alloc_new wr (.cells #[.string ⟨x.code.toArray⟩, .int .i64 x.urg, .slice Ak x.kinds.length ak] 43)
                  have hat2 : PAt (wr.alloc (.cells #[.string ⟨x.code.toArray⟩, .int .i64 x.urg, .slice Ak x.kinds.length ak] 43)) ⟨wr.heap.size, 0, none⟩ x (.slice Ak x.kinds.length ak) := ⟨by rw [cell_of_row _ _ 0 _ _ _ hnew]; rfl, by show World.cell? _ ⟨wr.heap.size, 0 + 1, none⟩ = _; rw [cell_of_row _ _ 1 _ _ _ hnew]; rfl, by show World.cell? _ ⟨wr.heap.size, 0 + 2, none⟩ = _; rw [cell_of_row _ _ 2 _ _ _ hnew]; rfl⟩
                  have hle2 := load_plan hat2
                  have BV := Lib.hid (then_ hB'.out hBa)
                  have OV := Lib.hid (own_below hO'.out hBa)
                  have HP := Lib.hid (planWords_any x _ (wr.alloc (.cells #[.string ⟨x.code.toArray⟩, .int .i64 x.urg, .slice Ak x.kinds.length ak] 43)) (hEW.out.of BV.out) (hru.below hBa) (dg18 hz.out.2.1) hz.out.2.2.1 hpo.out.1 hpo.out.2)
                  have hwl := Lib.hid (show (wordsP x).length ≤ 1000 from by have := hpo.out.1; unfold wordsP; simp; omega)
                  have hwn := Lib.hid (show wordsP x ≠ [] from by unfold wordsP; simp)
                  clear hx hat hat2 hnew hru hBa
                  go_wp2_with (first
                    | (refine wpList_load_list rfl 43 _ rfl (ad.add (k * 3)) rfl [.string ⟨x.code.toArray⟩, .int .i64 x.urg, .slice Ak x.kinds.length ak] hle ?_)
                    | (refine wpList_load_list rfl 43 _ rfl ⟨wr.heap.size, 0, none⟩ rfl [.string ⟨x.code.toArray⟩, .int .i64 x.urg, .slice Ak x.kinds.length ak] hle2 ?_))
                  refine HP.out.mono ?_
                  rintro r w4 ⟨v4, rfl, O4, b4⟩
                  have B4 := Lib.hid (then_ BV.out b4)
                  have OT4 := Lib.hid (own_below OV.out b4)
                  have W4 := Lib.hid (OwnS.ws O4 hwn.out)
                  obtain ⟨A4, n4, c4, rfl⟩ := own_form3 O4
                  have s4 : W.heap.size ≤ w4.heap.size := B4.out.size
                  obtain ⟨m, hm⟩ : ∃ m, join (wordsP x) [32] = m := ⟨_, rfl⟩
                  have hm' := Lib.hid hm
                  have hst := Lib.hid (hst.out m hm)
                  have hlen := Lib.hid (hlen.out m hm)
                  clear hle hle2 O4 b4 hm
                  go_wp2_with fail
                  refine (appendLine_any W.heap.size (.slice vA vn vc) l4 _ (wordsP x) m w4 OT4.out s4 W4.out hm'.out hwl.out hlen.out h9.out).mono ?_
                  rintro r w5 ⟨v5, rfl, O5, b5, k5⟩
                  obtain ⟨A5, n5, c5, rfl⟩ := own_form3 O5
                  have O5' := Lib.hid O5
                  have B5 := Lib.hid (B4.out.trans b5)
                  clear O5 b5 k5
                  go_wp2
                  go_roundw
                  case rel => exact ⟨k + 1, _, by go_num, by omega, hst.out, O5'.out, B5.out⟩
                  case measure => simp [RowKit.intOf]; omega
                · obtain rfl : k = c.ps.length := by omega
                  have hl4 := Lib.hid (show l4 = l3 ++ c.ps.flatMap lPlan from by rw [hl4.out, List.take_length])
                  have hL4 := Lib.hid hll4
                  clear hll4 hCr
                  go_wp2_with fail
                  refine (default_is wr).mono ?_
                  rintro r w6 ⟨rfl, b6⟩
                  have O6 := Lib.hid (own_below hO'.out b6)
                  have B6 := Lib.hid (then_ hB'.out b6)
                  have hC6 := cb_new w6 dflt (.slice none 0 0) (.slice none 0 0) (.slice none 0 0) (.slice none 0 0)
                  have hB7 : Below w6.heap.size w6 (w6.alloc (.cells (cfgCells dflt (.slice none 0 0) (.slice none 0 0) (.slice none 0 0) (.slice none 0 0)).toArray 27)) := (Below.refl _ _).alloc (Nat.le_refl _) _
                  have O7 := own_below O6.out hB7
                  have B7 := then_ B6.out hB7
                  clear hO' hB' b6 sB hB7
                  unfold cfgCells dflt at hC6 O7 B7 ⊢
                  go_wp2_with fail
                  generalize w6.alloc _ = w7 at hC6 O7 B7 ⊢
                  refine (parameters_any w7).mono ?_
                  rintro r w8 ⟨Aq, cq, rfl, hPs, ⟨cs8, hPb⟩, b8⟩
                  have O8 := Lib.hid (own_below O7 b8)
                  have B8 := Lib.hid (B7.trans (b8.mono B7.size))
                  have hPs' := Lib.hid hPs
                  have hPb' := Lib.hid hPb
                  have hC8 := Lib.hid (hC6.below b8)
                  clear hC6 O7 B7 hPs hPb b8 O6 B6 hl0
                  go_wp2_with fail
                  go_loopw [4, 93] (fun s i w' => ∃ (k : Nat) (l : Bs), i = .int .i64 (k : Int) ∧ k ≤ 10 ∧ l = l4 ++ (List.range k).flatMap (fun i => lNum i (c.nums.getD i 0)) ∧ OwnB w' W.heap.size s l ∧ Below W.heap.size W w' ∧ Kb w8 w') (fun _ i _ => 10 - (RowKit.intOf i).toNat)
                  case atStart => exact ⟨0, l4, rfl, by omega, by simp, O8.out, B8.out, Kb.refl _⟩
                  case round =>
                    clear O8 B8
                    obtain ⟨k, l5, rfl, hk, hl, hO, hB, hKb⟩ := hrel
                    have hB' := Lib.hid hB
                    have sB := hB.size
                    obtain ⟨vA, vn, vc, rfl⟩ := own_form3 hO
                    have hO' := Lib.hid hO
                    have hKb' := Lib.hid hKb
                    have hl5 := Lib.hid hl
                    have hll5 : l5.length ≤ 1206300 + 29 * k := by
                      have h1 := flat_len (fun i => lNum i (c.nums.getD i 0)) 29 (List.range k) (fun i hi => lNum_len (dg18 (hfit.out.nums i (by have := List.mem_range.1 hi; omega))).2)
                      have h2 := hL4.out
                      rw [List.length_range] at h1
                      rw [hl, List.length_append]; omega
                    clear hl hO hB hKb
                    by_cases hlt : k < 10
                    · have e1 : (k : Int) < 10 := by omega
                      have e2 : (0 : Int) ≤ (k : Int) := by omega
                      have hle := (hPs'.out.same ((hKb'.out _ _ _ _ hPb'.out (by decide)).trans hPb'.out.symm)).load hlt
                      obtain ⟨nm, hnm⟩ : ∃ nm, word k = nm := ⟨_, rfl⟩
                      obtain ⟨lo, hi, hb⟩ : ∃ lo hi, bounds k = (lo, hi) := ⟨_, _, rfl⟩
                      obtain ⟨gf, hgf⟩ : ∃ gf, getF k = gf := ⟨_, rfl⟩
                      obtain ⟨pf, hpf⟩ : ∃ pf, putF k = pf := ⟨_, rfl⟩
                      obtain ⟨z, hz⟩ : ∃ z, c.nums.getD k 0 = z := ⟨_, rfl⟩
                      obtain ⟨d, hd⟩ : ∃ d, dflt.nums.getD k 0 = d := ⟨_, rfl⟩
                      have hz18 : N18 z := hz ▸ hfit.out.nums k hlt
                      have hdz := dg18 hz18
                      have hrun : ∀ args w, Sem.run Tryz.prog (callFunc gf args) w = Result.ok (Next.enter gf args) w := fun args w => by rw [← hgf]; exact run_getF k hlt args w
                      have HG := Lib.hid (fun (cc : Cfg) (v : Value) (w' : World) (h : CfgV w' v cc) => show Calls Tryz.prog gf #[v] w' (fun r w'' => r = .returned (.int .i64 (cc.nums.getD k 0)) ∧ Below w'.heap.size w' w'') from hgf ▸ get_any k hlt cc v w' h)
                      have hln := Lib.hid (show lNum k z = if z = d then [] else nm ++ [32] ++ dig z ++ [10] from by unfold lNum; rw [hd, hnm])
                      have hnext := Lib.hid (show l5 ++ lNum k z = l4 ++ (List.range (k + 1)).flatMap (fun i => lNum i (c.nums.getD i 0)) from by rw [range_snoc, hl5.out, hz]; simp)
                      have hnl := word_len k
                      rw [hnm] at hnl
                      unfold parCells at hle
                      rw [hnm, hb, hgf, hpf] at hle
                      simp only at hle
                      have hz' := Lib.hid hz
                      have hd' := Lib.hid hd
                      clear hnm hb hgf hpf hz hd
                      have hnew := heap_alloc_new wr (.cells #[.string ⟨nm.toArray⟩, .int .i64 lo, .int .i64 hi, .func (.func gf) #[] #[], .func (.func pf) #[] #[]] 67)
                      have hBa : Below wr.heap.size wr (wr.alloc (.cells #[.string ⟨nm.toArray⟩, .int .i64 lo, .int .i64 hi, .func (.func gf) #[] #[], .func (.func pf) #[] #[]] 67)) := (Below.refl _ _).alloc (Nat.le_refl _) _
                      have BV := then_ hB'.out hBa
                      have OV := own_below hO'.out hBa
                      have KV := hKb'.out.then hBa
                      have hlc := (hC'.out.below BV).load
                      have x3 : (wr.alloc (.cells #[.string ⟨nm.toArray⟩, .int .i64 lo, .int .i64 hi, .func (.func gf) #[] #[], .func (.func pf) #[] #[]] 67)).cell? ⟨wr.heap.size, 3, none⟩ = some (.func (.func gf) #[] #[]) := by rw [cell_of_row _ _ 3 _ _ _ hnew]; rfl
                      have hnew' := Lib.hid hnew
                      have BV' := Lib.hid BV
                      have OV' := Lib.hid OV
                      have KV' := Lib.hid KV
                      clear hnew hBa BV OV KV hO' hB' hKb'
                      go_wp2_with (first
                        | (refine wpList_load_list rfl 67 _ rfl (Aq.add (k * 5)) rfl [.string ⟨nm.toArray⟩, .int .i64 lo, .int .i64 hi, .func (.func gf) #[] #[], .func (.func pf) #[] #[]] hle ?_)
                        | (refine wpList_load_list rfl 27 _ rfl ⟨w.heap.size, 0, none⟩ rfl (cfgCells c (.slice Ad c.ds.length cd) (.slice Ae c.es.length ce) (.slice Au c.us.length cu) (.slice Ap c.ps.length cp)) hlc ?_))
                      refine (HG.out c _ _ (hV.out.below BV'.out)).mono ?_
                      rintro r w9 ⟨rfl, b9⟩
                      rw [hz'.out]
                      have B9 := Lib.hid (BV'.out.trans (b9.mono BV'.out.size))
                      have O9 := Lib.hid (own_below OV'.out b9)
                      have K9 := Lib.hid (KV'.out.then b9)
                      have hn9 := (b9.block _ (Array.getElem?_eq_some_iff.1 hnew'.out).1).trans hnew'.out
                      have x3 : w9.cell? ⟨wr.heap.size, 3, none⟩ = some (.func (.func gf) #[] #[]) := by rw [cell_of_row _ _ 3 _ _ _ hn9]; rfl
                      have hn9' := Lib.hid hn9
                      have hCs : CB w9 w6.heap.size dflt (.slice none 0 0) (.slice none 0 0) (.slice none 0 0) (.slice none 0 0) := K9.out _ _ _ _ hC8.out (by decide)
                      have hls := hCs.load
                      have hVs := Lib.hid (dflt_v w9)
                      clear hlc b9 hle hn9 hCs BV' OV' KV' hnew'
                      go_wp2_with (first
                        | (refine wpList_load_list rfl 27 _ rfl ⟨w6.heap.size, 0, none⟩ rfl (cfgCells dflt (.slice none 0 0) (.slice none 0 0) (.slice none 0 0) (.slice none 0 0)) hls ?_))
                      refine (HG.out dflt _ _ hVs.out).mono ?_
                      rintro r w10 ⟨rfl, b10⟩
                      rw [hd'.out]
                      have B10 := Lib.hid (B9.out.trans (b10.mono B9.out.size))
                      have O10 := Lib.hid (own_below O9.out b10)
                      have K10 := Lib.hid (K9.out.then b10)
                      have hn10 := Lib.hid ((b10.block _ (Array.getElem?_eq_some_iff.1 hn9'.out).1).trans hn9'.out)
                      clear hls x3 b10 O9 B9 K9 hn9'
                      by_cases hzd : z = d
                      · have q : (z != d) = false := by simp [hzd]
                        have hnext := Lib.hid (show l5 = l4 ++ (List.range (k + 1)).flatMap (fun i => lNum i (c.nums.getD i 0)) from by rw [← hnext.out, hln.out, if_pos hzd]; simp)
                        clear hzd
                        go_wp2
                        go_roundw
                        case rel => exact ⟨k + 1, l5, by go_num, by omega, hnext.out, O10.out, B10.out, K10.out⟩
                        case measure => simp [RowKit.intOf]; omega
                      · have q : (z != d) = true := by simp [hzd]
                        obtain ⟨Y, hY⟩ : ∃ Y, dig z = Y := ⟨_, rfl⟩
                        have hYl := dig_len hdz.2
                        rw [hY] at hYl
                        have hnext := Lib.hid (show l5 ++ (nm ++ [32] ++ Y) ++ [10] = l4 ++ (List.range (k + 1)).flatMap (fun i => lNum i (c.nums.getD i 0)) from by rw [← hnext.out, hln.out, if_neg hzd, hY]; simp)
                        have hlen := Lib.hid (show (nm ++ [32] ++ Y).length ≤ 100000 from by simp; omega)
                        have h9 := Lib.hid (show l5.length ≤ 9000000 from by omega)
                        have H1 := Lib.hid (fun (w' : World) (h : Below W.heap.size W w') => show Calls Tryz.prog 37 #[.int .i64 z] w' (fun e w'' => e = .returned (.string ⟨Y.toArray⟩) ∧ Below w'.heap.size w' w'') from hY ▸ num64_any z w' (hEW.out.of h) hdz)
                        clear hzd hY hdz hz18
                        generalize wr.heap.size = gb at hn10 sB ⊢
                        go_wp2_with fail
                        have HS := Lib.hid (fun w' (hk : Kb w10 w') => show w'.cell? ⟨gb, 0, none⟩ = some (.string ⟨nm.toArray⟩) from by
                          have h := hk _ _ _ _ hn10.out (by decide)
                          rw [cell_of_row _ _ 0 _ _ _ h]; rfl)
                        have hdr : Below w10.heap.size w10 w10.drew := (Below.refl _ _).drew
                        have Bw := B10.out.trans (hdr.mono B10.out.size)
                        have Ow := own_below O10.out hdr
                        have Kw := Kb.of_below hdr
                        have hS := HS.out _ Kw
                        clear hdr
                        go_region_held3 (fun w' => w'.cell? ⟨gb, 0, none⟩ = some (.string ⟨nm.toArray⟩)) (first | exact HS.out _ Kw | exact HS.out _ (Kw.alloc _)) (first
                          | (go_at_call 37; refine (H1.out _ Bw).mono ?_; rintro r w4 ⟨rfl, b4⟩; have Kw := Kw.then b4; have Ow := own_below Ow b4; have Bw := Bw.trans (b4.mono Bw.size); have hS := HS.out _ Kw)
                          | (go_at_call 31; refine (appendLine_any W.heap.size (.slice vA vn vc) l5 _ [nm, Y] (nm ++ [32] ++ Y) _ (World.ownsRow.alloc Ow _) (le_alloc Bw.size) (ws_lit _ [nm, Y]) (join2 _ _) (by simp) hlen.out h9.out).mono ?_; rintro r w5 ⟨v5, rfl, O5, b5, k5⟩; have Kw := (Kw.alloc _).trans k5; have B5 := (Bw.alloc Bw.size _).trans b5; have hS := HS.out _ Kw))
                        all_goals (
                          obtain ⟨A5, n5, c5, rfl⟩ := own_form3 O5
                          have O5' := Lib.hid O5
                          have B5' := Lib.hid B5
                          have K5' := Lib.hid (K10.out.trans Kw)
                          clear hS Kw Bw Ow B5 O5
                          go_wp2
                          go_roundw
                          case rel => exact ⟨k + 1, _, by go_num, by omega, hnext.out, O5'.out, B5'.out, K5'.out⟩
                          case measure => simp [RowKit.intOf]; omega)
                    · obtain rfl : k = 10 := by omega
                      have htx := Lib.hid (show l5 = text c from by
                        rw [hl5.out, hl4.out, hl3.out, hl2.out, hl1.out]
                        unfold text tNums
                        rfl)
                      obtain ⟨A0, c0, e0⟩ := own_form hO'.out
                      injection e0 with e01 e02 e03
                      subst e02
                      clear e01 e03
                      have hcv := OwnB.conv (l := l5) hO'.out
                      by_cases hbig : 65536 < l5.length
                      · have t : (65536 : Int) < (l5.length : Int) := by omega
                        have hfin := Lib.hid (show (.tuple #[.string ⟨#[]⟩, .int .i64 3] : Value) = .tuple #[.string ⟨(fmtS c).toArray⟩, .int .i64 (fmtE c)] from by
                          unfold fmtS fmtE; rw [← htx.out, if_pos hr'.out, if_neg (by omega), if_neg (fun e => by omega)])
                        clear hcv
                        go_wp2
                        go_ret2
                        exact ⟨ret_t hfin.out, hB0'.out.trans (hB'.out.mono hWl)⟩
                      · have t : ¬ (65536 : Int) < (l5.length : Int) := by omega
                        have hfin := Lib.hid (show (.tuple #[.string ⟨l5.toArray⟩, .int .i64 0] : Value) = .tuple #[.string ⟨(fmtS c).toArray⟩, .int .i64 (fmtE c)] from by
                          have h2 : l5.length ≤ 65536 := by omega
                          unfold fmtS fmtE; rw [← htx.out]; simp [hr'.out, h2])
                        go_wp2
                        go_ret2
                        exact ⟨ret_t hfin.out, hB0'.out.trans (hB'.out.mono hWl)⟩
end Go.Proofs.YtjklpikopgihgaaGreatDoor
