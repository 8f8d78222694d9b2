/- The code: Equal, whole. -/
import Derived.Test.YtjklpikopgihgaaGreatDoorKI
import Derived.Test.YtjklpikopgihgaaGreatDoorK8
set_option linter.unusedVariables false
set_option maxRecDepth 100000
set_option linter.unusedSimpArgs false
namespace Go.Proofs.YtjklpikopgihgaaGreatDoor
open Go.RowKit Go.Lib Cf

set_option maxHeartbeats 8000000 in
theorem equal_any (a b : Cfg) (va vb : Value) (w : World) (ha : CfgV w va a) (hb : CfgV w vb b) (fa : Fair a) (fb : Fair b) :
    Calls Tryz.prog 16 #[va, vb] w fun e w' => e = .returned (.bool (decide (a = b))) ∧ Below w.heap.size w w' := by
  obtain ⟨_, _, _, _, rfl, ad, ae, au, ap⟩ := ha
  obtain ⟨_, _, _, _, rfl, bd, be, bu, bp⟩ := hb
  obtain ⟨A1d, c1d, rfl⟩ := ad.form
  obtain ⟨A1e, c1e, rfl⟩ := ae.form
  obtain ⟨A1u, c1u, rfl⟩ := au.form
  obtain ⟨A1p, c1p, rfl⟩ := ap.form
  obtain ⟨A2d, c2d, rfl⟩ := bd.form
  obtain ⟨A2e, c2e, rfl⟩ := be.form
  obtain ⟨A2u, c2u, rfl⟩ := bu.form
  obtain ⟨A2p, c2p, rfl⟩ := bp.form
  have hA : Below w.heap.size w (w.alloc (.cells (cfgCells a (.slice A1d a.ds.length c1d) (.slice A1e a.es.length c1e) (.slice A1u a.us.length c1u) (.slice A1p a.ps.length c1p)).toArray 27)) := (Below.refl _ _).alloc (Nat.le_refl _) _
  have hCa1 : CB (w.alloc (.cells (cfgCells a (.slice A1d a.ds.length c1d) (.slice A1e a.es.length c1e) (.slice A1u a.us.length c1u) (.slice A1p a.ps.length c1p)).toArray 27)) w.heap.size a _ _ _ _ := cb_new w a (.slice A1d a.ds.length c1d) (.slice A1e a.es.length c1e) (.slice A1u a.us.length c1u) (.slice A1p a.ps.length c1p)
  have hAB := (Below.refl (w.alloc (.cells (cfgCells a (.slice A1d a.ds.length c1d) (.slice A1e a.es.length c1e) (.slice A1u a.us.length c1u) (.slice A1p a.ps.length c1p)).toArray 27)).heap.size (w.alloc (.cells (cfgCells a (.slice A1d a.ds.length c1d) (.slice A1e a.es.length c1e) (.slice A1u a.us.length c1u) (.slice A1p a.ps.length c1p)).toArray 27))).alloc (Nat.le_refl _) (.cells (cfgCells b (.slice A2d b.ds.length c2d) (.slice A2e b.es.length c2e) (.slice A2u b.us.length c2u) (.slice A2p b.ps.length c2p)).toArray 27)
  have hCa := hCa1.below hAB
  have hCb := cb_new (w.alloc (.cells (cfgCells a (.slice A1d a.ds.length c1d) (.slice A1e a.es.length c1e) (.slice A1u a.us.length c1u) (.slice A1p a.ps.length c1p)).toArray 27)) b (.slice A2d b.ds.length c2d) (.slice A2e b.es.length c2e) (.slice A2u b.us.length c2u) (.slice A2p b.ps.length c2p)
  rw [World.size_alloc] at hCb
  have hB0 := then_ hA hAB
  obtain ⟨W, hW⟩ : ∃ W, (w.alloc (.cells (cfgCells a (.slice A1d a.ds.length c1d) (.slice A1e a.es.length c1e) (.slice A1u a.us.length c1u) (.slice A1p a.ps.length c1p)).toArray 27)).alloc (.cells (cfgCells b (.slice A2d b.ds.length c2d) (.slice A2e b.es.length c2e) (.slice A2u b.us.length c2u) (.slice A2p b.ps.length c2p)).toArray 27) = W := ⟨_, rfl⟩
  rw [hW] at hCa hCb hB0
  have hVa := Lib.hid (show CfgV W (.agg (cfgCells a (.slice A1d a.ds.length c1d) (.slice A1e a.es.length c1e) (.slice A1u a.us.length c1u) (.slice A1p a.ps.length c1p)).toArray) a from ⟨_, _, _, _, rfl, ad.below hB0, ae.below hB0, au.below hB0, ap.below hB0⟩)
  have hVb := Lib.hid (show CfgV W (.agg (cfgCells b (.slice A2d b.ds.length c2d) (.slice A2e b.es.length c2e) (.slice A2u b.us.length c2u) (.slice A2p b.ps.length c2p)).toArray) b from ⟨_, _, _, _, rfl, bd.below hB0, be.below hB0, bu.below hB0, bp.below hB0⟩)
  have hB0' := Lib.hid hB0
  have hWl : w.heap.size ≤ W.heap.size := hB0.size
  have hCa' := Lib.hid hCa
  have hCb' := Lib.hid hCb
  have rda := Lib.hid (ad.below hB0)
  have rea := Lib.hid (ae.below hB0)
  have rua := Lib.hid (au.below hB0)
  have rpa := Lib.hid (ap.below hB0)
  have rdb := Lib.hid (bd.below hB0)
  have reb := Lib.hid (be.below hB0)
  have rub := Lib.hid (bu.below hB0)
  have rpb := Lib.hid (bp.below hB0)
  have fa' := Lib.hid fa
  have fb' := Lib.hid fb
  have p0 := hCa.at_ 0 _ rfl
  have q0 := hCb.at_ 0 _ rfl
  have p1 := hCa.at_ 1 _ rfl
  have q1 := hCb.at_ 1 _ rfl
  clear ad ae au ap bd be bu bp hA hAB hCa1 hCa hCb hB0 fa fb
  unfold cfgCells at hW ⊢
  by_cases c0 : a.ce = b.ce
  rotate_left
  · have hr := Lib.hid (show decide (a = b) = false from decide_eq_false fun e => c0 (by rw [e]))
    have t0 : (a.ce == b.ce) = false := by simp [c0]
    clear c0
    go_enter Tryz.func16, Tryz.ntmps16
    go_wp2
    go_ret
    exact ⟨ret_b hr.out.symm, hB0'.out⟩
  have t0 : (a.ce == b.ce) = true := by simp [c0]
  have c0' := Lib.hid c0
  clear c0
  go_enter Tryz.func16, Tryz.ntmps16
  go_wp2_with fail
  clear hW t0 p0 q0 p1 q1
  refine (eqInts_any a.ds b.ds _ _ W (rda.out.below (Below.refl W.heap.size W)) (rdb.out.below (Below.refl W.heap.size W)) fa'.out.ds fb'.out.ds).mono ?_
  rintro e w1 ⟨rfl, b1⟩
  have B1 := Lib.hid (then_ (Below.refl W.heap.size W) b1)
  clear b1
  cases d1 : decide (a.ds = b.ds) with
  | false =>
    have hr := Lib.hid (show decide (a = b) = false from decide_eq_false fun e => of_decide_eq_false d1 (by rw [e]))
    clear d1
    go_wp2
    go_ret
    exact ⟨ret_b hr.out.symm, hB0'.out.trans (B1.out.mono hWl)⟩
  | true =>
    have c1' := Lib.hid (of_decide_eq_true d1)
    clear d1
    have p2 := (hCa'.out.below B1.out).at_ 2 _ rfl
    have q2 := (hCb'.out.below B1.out).at_ 2 _ rfl
    go_wp2_with fail
    clear p2 q2
    refine (eqEdges_any a.es b.es _ _ w1 (rea.out.below B1.out) (reb.out.below B1.out) fa'.out.es fb'.out.es).mono ?_
    rintro e w2 ⟨rfl, b2⟩
    have B2 := Lib.hid (then_ B1.out b2)
    clear b2
    cases d2 : decide (a.es = b.es) with
    | false =>
      have hr := Lib.hid (show decide (a = b) = false from decide_eq_false fun e => of_decide_eq_false d2 (by rw [e]))
      clear d2
      go_wp2
      go_ret
      exact ⟨ret_b hr.out.symm, hB0'.out.trans (B2.out.mono hWl)⟩
    | true =>
      have c2' := Lib.hid (of_decide_eq_true d2)
      clear d2
      have p3 := (hCa'.out.below B2.out).at_ 3 _ rfl
      have q3 := (hCb'.out.below B2.out).at_ 3 _ rfl
      go_wp2_with fail
      clear p3 q3
      refine (eqUnits_any a.us b.us _ _ w2 (rua.out.below B2.out) (rub.out.below B2.out) fa'.out.us fb'.out.us).mono ?_
      rintro e w3 ⟨rfl, b3⟩
      have B3 := Lib.hid (then_ B2.out b3)
      clear b3
      cases d3 : decide (a.us = b.us) with
      | false =>
        have hr := Lib.hid (show decide (a = b) = false from decide_eq_false fun e => of_decide_eq_false d3 (by rw [e]))
        clear d3
        go_wp2
        go_ret
        exact ⟨ret_b hr.out.symm, hB0'.out.trans (B3.out.mono hWl)⟩
      | true =>
        have c3' := Lib.hid (of_decide_eq_true d3)
        clear d3
        have p4 := (hCa'.out.below B3.out).at_ 4 _ rfl
        have q4 := (hCb'.out.below B3.out).at_ 4 _ rfl
        go_wp2_with fail
        clear p4 q4
        refine (eqFunc_any a.ps b.ps _ _ w3 (rpa.out.below B3.out) (rpb.out.below B3.out) fa'.out.ps fb'.out.ps (fun p hp => (fa'.out.pin p hp).2) (fun p hp => (fb'.out.pin p hp).2)).mono ?_
        rintro e w4 ⟨rfl, b4⟩
        have B4 := Lib.hid (then_ B3.out b4)
        clear b4
        cases d4 : decide (a.ps = b.ps) with
        | false =>
          have hr := Lib.hid (show decide (a = b) = false from decide_eq_false fun e => of_decide_eq_false d4 (by rw [e]))
          clear d4
          go_wp2
          go_ret
          exact ⟨ret_b hr.out.symm, hB0'.out.trans (B4.out.mono hWl)⟩
        | true =>
          have c4' := Lib.hid (of_decide_eq_true d4)
          clear d4
          have hla := (hCa'.out.below B4.out).load
          have hlb := (hCb'.out.below B4.out).load
          go_wp2_with (first
            | (refine wpList_load_gd rfl 27 _ rfl ⟨w.heap.size, 0, none⟩ rfl (cfgCells a (.slice A1d a.ds.length c1d) (.slice A1e a.es.length c1e) (.slice A1u a.us.length c1u) (.slice A1p a.ps.length c1p)) hla ?_)
            | (refine wpList_load_gd rfl 27 _ rfl ⟨w.heap.size + 1, 0, none⟩ rfl (cfgCells b (.slice A2d b.ds.length c2d) (.slice A2e b.es.length c2e) (.slice A2u b.us.length c2u) (.slice A2p b.ps.length c2p)) hlb ?_))
          refine (equalParameters_any a b _ _ w4 (hVa.out.below B4.out) (hVb.out.below B4.out)).mono ?_
          rintro e w5 ⟨rfl, b5⟩
          have B5 := Lib.hid (then_ B4.out b5)
          have hr := Lib.hid (show decide (a = b) = decide (a.nums = b.nums) from by
            rw [decide_eq_decide]
            exact ⟨fun e => by rw [e], fun e => cfg_eq c0'.out c1'.out c2'.out c3'.out c4'.out e⟩)
          clear b5 hla hlb
          go_wp2
          go_ret
          exact ⟨ret_b hr.out.symm, hB0'.out.trans (B5.out.mono hWl)⟩

theorem textIn_of {c : Cfg} (h : right c = 0) : TextIn c := by
  have f := fit_of h
  have d18 : ∀ {z : Int}, N18 z → Dg z := fun h => ⟨h.1, by have := h.2; omega⟩
  refine ⟨d18 f.ce, fun d hd => d18 (f.ds d hd), fun e he => ⟨d18 (f.es e he).1, d18 (f.es e he).2.1, ?_⟩, fun e he => ⟨?_, d18 (f.us e he).2.1, d18 (f.us e he).2.2⟩, fun p hp => ⟨d18 (f.ps p hp).2.1, fun k hk => ?_⟩, fun n hn => ?_⟩
  · rcases (f.es e he).2.2 with h | h
    · exact d18 h
    · exact ⟨by omega, by omega⟩
  · have := (f.us e he).1
    unfold kndOk inR at this; simp at this; omega
  · have := (f.ps p hp).2.2.1 k hk
    unfold kndOk inR at this; simp at this; omega
  · obtain ⟨i, hi⟩ := List.getElem?_of_mem hn
    have hl : i < 10 := (List.getElem?_eq_some_iff.1 hi).1
    have := f.nums i hl
    rw [getD_of hi] at this
    exact d18 this
theorem small_text {c : Cfg} (hs : Small c) (h : right c = 0) : (text c).length ≤ 65536 := by
  have f := fit_of h
  have t := textIn_of h
  obtain ⟨_, _, _, _, _, h6, _⟩ := right_parts h
  have a1 := flat_len lNode 25 c.ds (fun x hx => lNode_len (t.ds x hx).2)
  have a2 := flat_len lEdge 65 c.es (fun x hx => lEdge_len (i64_3 (t.es x hx)))
  have a3 := flat_len lUnit 52 c.us (fun x hx => lUnit_len (i64_u (t.us x hx)))
  have a4 := plans_len c.ps (fun p hp => (t.ps p hp).1.2)
  have a5 := nums_len c (fun n hn => ⟨(t.nums n hn).1, (t.nums n hn).2⟩) 10 (Nat.le_refl _)
  have a6 := dig_len t.ce.2
  have b1 := hs.ds; have b2 := hs.es; have b3 := hs.us; have b4 := hs.ps; have b5 := hs.cost
  unfold text tNums lCentres wCentres
  simp only [List.length_append, List.length_cons, List.length_nil]
  omega
end Go.Proofs.YtjklpikopgihgaaGreatDoor
