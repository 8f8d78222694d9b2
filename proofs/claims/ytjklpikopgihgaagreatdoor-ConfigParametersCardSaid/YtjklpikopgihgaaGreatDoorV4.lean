/- The law ConfigParameters. -/
import Derived.Test.YtjklpikopgihgaaGreatDoorV3
set_option linter.unusedVariables false
set_option maxRecDepth 100000
set_option linter.unusedSimpArgs false
namespace Go.Proofs.YtjklpikopgihgaaGreatDoor
open Go.RowKit Go.Lib Cf

theorem setN_small (i : Nat) (z : Int) : Small (setN cOne i z) := by
  obtain ⟨e1, e2, e3, e4⟩ := setN_ds cOne i z
  refine ⟨by rw [e1]; decide, by rw [e2]; decide, by rw [e3]; decide, by rw [e4]; decide, by rw [e4]; decide⟩
theorem parse_nil : mParse [] = (zeroC, 0, .bad) := by
  unfold mParse
  rw [if_neg (by decide), mLines_nil]
  simp only
  rw [if_neg (by decide), if_neg (fun e => absurd e.1 (by decide))]
set_option maxHeartbeats 8000000 in
theorem lawParameters (n : Nat) (z : Int) (w : World) (hn : n ≤ 255) (hz : I64 z) (hE : Env w) :
    Calls Tryz.prog 6 #[.int .u8 (n : Int), .int .i64 z] w fun e w' => e = .returned (.bool true) ∧ Below w.heap.size w w' := by
  have hE' := Lib.hid hE
  have HA := Lib.hid (fun (w' : World) (hb : Below w.heap.size w w') => awake_any w' (hE'.out.of hb))
  obtain ⟨i, hi⟩ : ∃ i, n % 10 = i := ⟨_, rfl⟩
  have hi9 : i ≤ 9 := by omega
  have hin := Lib.hid (setN_in one_in i hz)
  have hsm := Lib.hid (setN_small i z)
  have hmod : (n : Int) % 10 = (i : Int) := by omega
  clear hE hz
  go_enter Tryz.func6, Tryz.ntmps6
  go_wp2_with fail
  refine (default_is w).mono ?_
  rintro e w1 ⟨rfl, b1⟩
  -- the box of the default, the list of one node, the two stores
  have hC1 := cb_new w1 dflt (.slice none 0 0) (.slice none 0 0) (.slice none 0 0) (.slice none 0 0)
  have h1 := alloc_below w1 (.cells (cfgCells dflt (.slice none 0 0) (.slice none 0 0) (.slice none 0 0) (.slice none 0 0)).toArray 27)
  have h2 := alloc_below (w1.alloc (.cells (cfgCells dflt (.slice none 0 0) (.slice none 0 0) (.slice none 0 0) (.slice none 0 0)).toArray 27)) (.cells #[.int .i64 0] 3)
  have hC2 := hC1.below h2
  have hR2 := heap_alloc_new (w1.alloc (.cells (cfgCells dflt (.slice none 0 0) (.slice none 0 0) (.slice none 0 0) (.slice none 0 0)).toArray 27)) (.cells #[.int .i64 0] 3)
  have B2 := then_ (then_ b1 h1) h2
  rw [World.size_alloc] at hR2
  have hs1 : w.heap.size ≤ w1.heap.size := b1.size
  unfold cfgCells dflt at hC2 hR2 B2
  unfold cfgCells dflt
  obtain ⟨W2, hW2⟩ : ∃ W2, (w1.alloc (.cells #[.int .i64 0, .slice none 0 0, .slice none 0 0, .slice none 0 0, .slice none 0 0, .int .i64 2, .int .i64 10, .int .i64 12, .int .i64 20, .int .i64 30, .int .i64 4, .int .i64 10, .int .i64 50, .int .i64 1, .int .i64 8] 27)).alloc (.cells #[.int .i64 0] 3) = W2 := ⟨_, rfl⟩
  rw [hW2] at hC2 hR2 B2
  have c0 := hC2.at_ 0 _ rfl
  have f0 := hC2.frozen 0
  have hC3 : CB (W2.setCell ⟨w1.heap.size, 0, none⟩ (.int .i64 1)) w1.heap.size ⟨1, [], [], [], [], 2, 10, 12, 20, 30, 4, 10, 50, 1, 8⟩ (.slice none 0 0) (.slice none 0 0) (.slice none 0 0) (.slice none 0 0) := by
    unfold CB; rw [heap_setCell_same W2 w1.heap.size 0 _ _ _ hC2]; rfl
  have c1 := hC3.at_ 1 _ rfl
  have f1 := hC3.frozen 1
  have hC4 : CB ((W2.setCell ⟨w1.heap.size, 0, none⟩ (.int .i64 1)).setCell ⟨w1.heap.size, 1, none⟩ (.slice (some ⟨w1.heap.size + 1, 0, none⟩) 1 1)) w1.heap.size cOne (.slice (some ⟨w1.heap.size + 1, 0, none⟩) 1 1) (.slice none 0 0) (.slice none 0 0) (.slice none 0 0) := by
    unfold CB; rw [heap_setCell_same _ w1.heap.size 1 _ _ _ hC3]; rfl
  have hR4 : ((W2.setCell ⟨w1.heap.size, 0, none⟩ (.int .i64 1)).setCell ⟨w1.heap.size, 1, none⟩ (.slice (some ⟨w1.heap.size + 1, 0, none⟩) 1 1)).heap[w1.heap.size + 1]? = some (.cells #[.int .i64 0] 3 (0, 0)) := by
    rw [heap_setCell_other _ ⟨w1.heap.size, 1, none⟩ _ _ (by simp), heap_setCell_other _ ⟨w1.heap.size, 0, none⟩ _ _ (by simp)]; exact hR2
  have B4 := Lib.hid ((B2.setCell (p := ⟨w1.heap.size, 0, none⟩) hs1 (.int .i64 1)).setCell (p := ⟨w1.heap.size, 1, none⟩) hs1 (.slice (some ⟨w1.heap.size + 1, 0, none⟩) 1 1))
  obtain ⟨W4, hW4⟩ : ∃ W4, (W2.setCell ⟨w1.heap.size, 0, none⟩ (.int .i64 1)).setCell ⟨w1.heap.size, 1, none⟩ (.slice (some ⟨w1.heap.size + 1, 0, none⟩) 1 1) = W4 := ⟨_, rfl⟩
  rw [hW4] at hC4 hR4 B4
  have hV4 := Lib.hid (show CfgV W4 (.agg (cfgCells cOne (.slice (some ⟨w1.heap.size + 1, 0, none⟩) 1 1) (.slice none 0 0) (.slice none 0 0) (.slice none 0 0)).toArray) cOne from ⟨_, _, _, _, rfl, .inr ⟨_, _, rfl, fun j y hy => by
    match j, hy with
    | 0, hy => simp [cOne] at hy; subst hy; rw [add_nil, cell_of_row _ _ 0 _ _ _ hR4]; rfl
    | j + 1, hy => simp [cOne] at hy⟩, R3.nil _, R3.nil _, RP.nil _⟩)
  have hl4 := hC4.load
  clear hC1 hC2 hC3 hC4 hR2 hR4 h1 h2 B2 b1
  go_wp2_with (refine wpList_load_list rfl 27 _ rfl ⟨w1.heap.size, 0, none⟩ rfl (cfgCells cOne (.slice (some ⟨w1.heap.size + 1, 0, none⟩) 1 1) (.slice none 0 0) (.slice none 0 0) (.slice none 0 0)) hl4 ?_)
  refine (set_any cOne _ i hi9 z W4 hV4.out).mono ?_
  rintro e w5 ⟨v5, rfl, hV5, b5⟩
  obtain ⟨arr, rfl, hs, hone⟩ := cfgV_arr hV5
  have hia := info_cfg arr hs
  have hx0 : (w5.alloc (.cells zArr 27)).heap[w5.heap.size]? = some (.cells zArr 27 (0, 0)) := heap_alloc_new _ _
  have hx6 := setRow_heap _ _ _ arr _ _ hx0
  have b6 : Below w5.heap.size w5 ((w5.alloc (.cells zArr 27)).setRow w5.heap.size arr) := below_setRow (alloc_below w5 _) (Nat.le_refl _) arr
  have hold0 : zArr.size = arr.size := by rw [hs]; rfl
  have hb46 := then_ b5 b6
  have B6 := Lib.hid (B4.out.trans (hb46.mono B4.out.size))
  have hx6' := Lib.hid hx6
  have V6 := Lib.hid (hV5.below b6)
  have l6 := load_arr hx6 hs
  have hF := Lib.hid (format_any (setN cOne i z) _ _ (hE'.out.of B6.out) V6.out hin.out hsm.out.fair)
  clear hx6 b5 b6 hb46 hV5 hl4 c0 c1 f0 f1 hW4 hW2 hmod
  by_cases hr : right (setN cOne i z) = 0
  · have hsl := small_text hsm.out hr
    have hmp := parse_text hr hsl
    have f1 : fmtS (setN cOne i z) = text (setN cOne i z) := by unfold fmtS; rw [if_pos ⟨hr, hsl⟩]
    have f2 : fmtE (setN cOne i z) = 0 := by unfold fmtE; rw [if_pos hr, if_pos hsl]
    have hFt := Lib.hid (f2 ▸ f1 ▸ hF.out)
    obtain ⟨S, hS⟩ : ∃ S, text (setN cOne i z) = S := ⟨_, rfl⟩
    rw [hS] at hFt hsl hmp
    have hPs := Lib.hid (fun (w' : World) (hb : Below w.heap.size w w') => parse_any S w' (hE'.out.of hb) (by omega))
    rw [hmp] at hPs
    clear f1 f2 hS hsl hmp hF
    go_wp2_with (first
      | (refine wpList_store_row rfl 27 _ _ rfl w5.heap.size arr rfl rfl 27 zArr hx0 hia hold0 hone ?_)
      | (refine wpList_load_arr rfl 27 _ rfl ⟨w5.heap.size, 0, none⟩ rfl arr l6 ?_))
    refine (hFt.out).mono ?_
    rintro e w7 ⟨rfl, b7⟩
    have B7 := Lib.hid (B6.out.trans (b7.mono B6.out.size))
    have hx7 := Lib.hid ((b7.block _ (Array.getElem?_eq_some_iff.1 hx6'.out).1).trans hx6'.out)
    have V7 := Lib.hid (V6.out.below b7)
    have l7 := load_arr hx7.out hs
    clear b7 hFt hx0 l6
    go_wp2_with (refine wpList_load_arr rfl 27 _ rfl ⟨w5.heap.size, 0, none⟩ rfl arr l7 ?_)
    refine (right_any (setN cOne i z) _ w7 V7.out hin.out hsm.out).mono ?_
    rintro e w8 ⟨rfl, b8⟩
    rw [hr]
    have B8 := Lib.hid (B7.out.trans (b8.mono B7.out.size))
    have hx8 := Lib.hid ((b8.block _ (Array.getElem?_eq_some_iff.1 hx7.out).1).trans hx7.out)
    have V8 := Lib.hid (V7.out.below b8)
    have l8 := load_arr hx8.out hs
    clear b8 l7 hx7
    go_wp2_with (refine wpList_load_arr rfl 27 _ rfl ⟨w5.heap.size, 0, none⟩ rfl arr l8 ?_)
    refine (validate_any (setN cOne i z) _ w8 V8.out hin.out hsm.out.fair).mono ?_
    rintro e w9 ⟨rfl, b9⟩
    rw [hr]
    have B9 := Lib.hid (B8.out.trans (b9.mono B8.out.size))
    have hx9 := Lib.hid ((b9.block _ (Array.getElem?_eq_some_iff.1 hx8.out).1).trans hx8.out)
    have V9 := Lib.hid (V8.out.below b9)
    clear b9 l8 hx8
    go_wp2_with fail
    refine (hPs.out w9 B9.out).mono ?_
    rintro e w10 ⟨u, rfl, hu, b10⟩
    obtain ⟨arr2, rfl, hs2, hone2⟩ := cfgV_arr hu
    have hi2 := info_cfg arr2 hs2
    have hy0 : (w10.alloc (.cells zArr 27)).heap[w10.heap.size]? = some (.cells zArr 27 (0, 0)) := heap_alloc_new _ _
    have hy1 := setRow_heap _ _ _ arr2 _ _ hy0
    have b11 : Below w10.heap.size w10 ((w10.alloc (.cells zArr 27)).setRow w10.heap.size arr2) := below_setRow (alloc_below w10 _) (Nat.le_refl _) arr2
    have hold2 : zArr.size = arr2.size := by rw [hs2]; rfl
    have hb911 := then_ b10 b11
    have B11 := Lib.hid (B9.out.trans (hb911.mono B9.out.size))
    have hx11 := (hb911.block _ (Array.getElem?_eq_some_iff.1 hx9.out).1).trans hx9.out
    have V11 := Lib.hid (V9.out.below hb911)
    have U11 := Lib.hid (hu.below b11)
    clear b10 b11 hb911 hu hx9 hPs
    have ly := load_arr hy1 hs2
    have lx := load_arr hx11 hs
    go_wp2_with (first
      | (refine wpList_store_row rfl 27 _ _ rfl w10.heap.size arr2 rfl rfl 27 zArr hy0 hi2 hold2 hone2 ?_)
      | (refine wpList_load_gda rfl 27 _ rfl ⟨w10.heap.size, 0, none⟩ rfl arr2 ly ?_)
      | (refine wpList_load_gda rfl 27 _ rfl ⟨w5.heap.size, 0, none⟩ rfl arr lx ?_))
    refine (same_any (setN cOne i z) (setN cOne i z) _ _ _ U11.out V11.out hsm.out hsm.out).mono ?_
    rintro e w12 ⟨rfl, b12⟩
    rw [decide_eq_true (rfl : setN cOne i z = setN cOne i z)]
    have B12 := Lib.hid (B11.out.trans (b12.mono B11.out.size))
    clear b12 ly lx hx11 hy0 hy1
    go_wp2_with fail
    refine (HA.out w12 B12.out).mono ?_
    rintro e w13 ⟨rfl, b13⟩
    have B13 := Lib.hid (then_ B12.out b13)
    clear b13
    go_wp2
    go_ret
    exact ⟨rfl, B13.out⟩
  · have f1 : fmtS (setN cOne i z) = [] := by unfold fmtS; rw [if_neg (fun e => hr e.1)]
    have f2 : fmtE (setN cOne i z) = 1 := by unfold fmtE; rw [if_neg hr]
    have hFt := Lib.hid (f2 ▸ f1 ▸ hF.out)
    obtain ⟨r, hrr⟩ : ∃ r, right (setN cOne i z) = r := ⟨_, rfl⟩
    have t1 : (r == 0) = false := by rw [beq_eq_false_iff_ne, ← hrr]; exact hr
    have t2 : (r != 0) = true := by simp [bne, t1]
    have hr := hrr
    have hPs := Lib.hid (fun (w' : World) (hb : Below w.heap.size w w') => parse_any [] w' (hE'.out.of hb) (by simp))
    rw [parse_nil] at hPs
    clear f1 f2 hF hrr
    go_wp2_with (first
      | (refine wpList_store_row rfl 27 _ _ rfl w5.heap.size arr rfl rfl 27 zArr hx0 hia hold0 hone ?_)
      | (refine wpList_load_arr rfl 27 _ rfl ⟨w5.heap.size, 0, none⟩ rfl arr l6 ?_))
    refine (hFt.out).mono ?_
    rintro e w7 ⟨rfl, b7⟩
    have B7 := Lib.hid (B6.out.trans (b7.mono B6.out.size))
    have hx7 := Lib.hid ((b7.block _ (Array.getElem?_eq_some_iff.1 hx6'.out).1).trans hx6'.out)
    have V7 := Lib.hid (V6.out.below b7)
    have l7 := load_arr hx7.out hs
    clear b7 hFt hx0 l6
    go_wp2_with (refine wpList_load_arr rfl 27 _ rfl ⟨w5.heap.size, 0, none⟩ rfl arr l7 ?_)
    refine (right_any (setN cOne i z) _ w7 V7.out hin.out hsm.out).mono ?_
    rintro e w8 ⟨rfl, b8⟩
    rw [hr]
    have B8 := Lib.hid (B7.out.trans (b8.mono B7.out.size))
    have hx8 := Lib.hid ((b8.block _ (Array.getElem?_eq_some_iff.1 hx7.out).1).trans hx7.out)
    have V8 := Lib.hid (V7.out.below b8)
    have l8 := load_arr hx8.out hs
    clear b8 l7 hx7
    go_wp2_with (refine wpList_load_arr rfl 27 _ rfl ⟨w5.heap.size, 0, none⟩ rfl arr l8 ?_)
    refine (validate_any (setN cOne i z) _ w8 V8.out hin.out hsm.out.fair).mono ?_
    rintro e w9 ⟨rfl, b9⟩
    rw [hr]
    have B9 := Lib.hid (B8.out.trans (b9.mono B8.out.size))
    have hx9 := Lib.hid ((b9.block _ (Array.getElem?_eq_some_iff.1 hx8.out).1).trans hx8.out)
    have V9 := Lib.hid (V8.out.below b9)
    clear b9 l8 hx8
    go_wp2_with fail
    refine (hPs.out w9 B9.out).mono ?_
    rintro e w10 ⟨u, rfl, hu, b10⟩
    obtain ⟨arr2, rfl, hs2, hone2⟩ := cfgV_arr hu
    have hi2 := info_cfg arr2 hs2
    have hy0 : (w10.alloc (.cells zArr 27)).heap[w10.heap.size]? = some (.cells zArr 27 (0, 0)) := heap_alloc_new _ _
    have hy1 := setRow_heap _ _ _ arr2 _ _ hy0
    have b11 : Below w10.heap.size w10 ((w10.alloc (.cells zArr 27)).setRow w10.heap.size arr2) := below_setRow (alloc_below w10 _) (Nat.le_refl _) arr2
    have hold2 : zArr.size = arr2.size := by rw [hs2]; rfl
    have hb911 := then_ b10 b11
    have B11 := Lib.hid (B9.out.trans (hb911.mono B9.out.size))
    have hx11 := (hb911.block _ (Array.getElem?_eq_some_iff.1 hx9.out).1).trans hx9.out
    have V11 := Lib.hid (V9.out.below hb911)
    have U11 := Lib.hid (hu.below b11)
    clear b10 b11 hb911 hu hx9 hPs
    go_wp2_with (refine wpList_store_row rfl 27 _ _ rfl w10.heap.size arr2 rfl rfl 27 zArr hy0 hi2 hold2 hone2 ?_)
    refine (HA.out _ B11.out).mono ?_
    rintro e w13 ⟨rfl, b13⟩
    have B13 := Lib.hid (then_ B11.out b13)
    clear b13
    go_wp2
    go_ret
    exact ⟨rfl, B13.out⟩
end Go.Proofs.YtjklpikopgihgaaGreatDoor
