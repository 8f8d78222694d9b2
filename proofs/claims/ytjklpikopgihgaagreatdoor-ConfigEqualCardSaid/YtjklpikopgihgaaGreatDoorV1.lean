/- The examples; awake. -/
import Derived.Test.YtjklpikopgihgaaGreatDoorKH
import Derived.Test.YtjklpikopgihgaaGreatDoorKJ
set_option linter.unusedVariables false
set_option maxRecDepth 100000
set_option linter.unusedSimpArgs false
namespace Go.Proofs.YtjklpikopgihgaaGreatDoor
open Go.RowKit Go.Lib Cf

/-- The examples' configuration. -/
def cOne : Cfg := ⟨1, [0], [], [], [], 2, 10, 12, 20, 30, 4, 10, 50, 1, 8⟩
def ex1 : Bs := [99, 101, 110, 116, 114, 101, 115, 32, 49, 10, 110, 111, 100, 101, 32, 48, 10]
def ex2 : Bs := [99, 101, 110, 116, 114, 101, 115, 32, 49, 10, 110, 111, 100, 101, 32, 48, 10, 98, 101, 97, 116, 32, 50, 10]
theorem dig_one (k : Nat) (h : k < 10) : dig (k : Int) = [UInt8.ofNat (48 + k)] := by unfold dig; rw [Int.toNat_natCast, dd_small h]
theorem one_right : right cOne = 0 := by decide
theorem one_nums : tNums cOne = [] := by decide
theorem one_text : text cOne = ex1 := by
  unfold text
  rw [one_nums]
  have h1 : dig 1 = [49] := dig_one 1 (by decide)
  have h0 : dig 0 = [48] := dig_one 0 (by decide)
  simp [cOne, lCentres, lNode, h0, h1, wCentres, wNode, ex1]
theorem parse_ex1 : mParse ex1 = (cOne, 0, .ok) := by
  have h := parse_text one_right (by rw [one_text]; decide)
  rw [one_text] at h
  exact h
theorem line_centres {z : Int} (h : N18 z) (c : Cfg) : mLine c (wdCentres ++ 32 :: dig z) = ({ c with ce := z }, 1) := by
  unfold mLine
  rw [sp2 (by decide) (dig_32 _)]
  have hn := mNum_dig h [] false
  simp [mWords, hd, tl, hn, wdCentres]
theorem line_node1 {d : Int} (h : N18 d) (c : Cfg) : mLine c (wdNode ++ 32 :: dig d) = ({ c with ds := c.ds ++ [d] }, 2) := by
  unfold mLine
  rw [sp2 (by decide) (dig_32 d)]
  have hn := mNum_dig h [] false
  simp [mWords, hd, tl, hn, wdNode, wdCentres]
theorem lines_ex2 : mLines dflt 0 0 ex2 = (cOne, 3, true) := by
  have h1 : dig 1 = [49] := dig_one 1 (by decide)
  have h0 : dig 0 = [48] := dig_one 0 (by decide)
  have h2 : dig 2 = [50] := dig_one 2 (by decide)
  have n1 : N18 1 := by unfold N18; decide
  have n0 : N18 0 := by unfold N18; decide
  have n2 : N18 2 := by unfold N18; decide
  have e : ex2 = (wdCentres ++ 32 :: dig 1) ++ 10 :: ((wdNode ++ 32 :: dig 0) ++ 10 :: ((word 0 ++ 32 :: dig 2) ++ 10 :: [])) := by rw [h1, h0, h2]; rfl
  rw [e, lines_step (by rw [h1]; decide) (line_centres n1 dflt) (by decide), lines_step (by rw [h0]; decide) (line_node1 n0 _) (by decide), lines_step (by rw [h2]; decide) (line_param (by decide) n2 _) (by decide), mLines_nil]
  rfl
theorem parse_ex2 : mParse ex2 = (zeroC, 3, .bad) := by
  unfold mParse
  rw [if_neg (by decide), lines_ex2]
  simp only
  rw [if_neg (by decide), if_neg (fun e => by
    have h := e.2.2
    rw [one_text] at h
    revert h; decide)]
theorem one_in : CfgIn cOne := by
  refine ⟨?_, (fun d h => ?_), (fun d h => by cases h), (fun d h => by cases h), (fun d h => by cases h), ?_⟩
  · unfold cOne I64; simp
  · simp [cOne] at h; subst h; unfold I64; simp
  · unfold cOne I64; simp [Cfg.nums]
theorem one_fair : Fair cOne := ⟨by decide, by decide, by decide, by decide, (fun p h => by cases h)⟩

set_option maxHeartbeats 4000000 in
theorem awake_any (w : World) (hE : Env w) : Calls Tryz.prog 9 #[] w fun e w' => e = .returned (.bool true) ∧ Below w.heap.size w w' := by
  have H1 := Lib.hid (parse_any ex1 w hE (by decide))
  have hE' := Lib.hid hE
  rw [parse_ex1] at H1
  unfold ex1 at H1
  clear hE
  go_enter Tryz.func9, Tryz.ntmps9
  go_wp2_with fail
  refine H1.out.mono ?_
  rintro e w1 ⟨v, rfl, hV, b1⟩
  obtain ⟨vd, ve, vu, vp, rfl, hd, he, hu, hp⟩ := hV
  obtain ⟨Ad, cd, rfl⟩ := hd.form
  obtain ⟨Ae, ce, rfl⟩ := he.form
  obtain ⟨Au, cu, rfl⟩ := hu.form
  obtain ⟨Ap, cp, rfl⟩ := hp.form
  have ha := alloc_below w1 (.cells (cfgCells cOne (.slice Ad cOne.ds.length cd) (.slice Ae cOne.es.length ce) (.slice Au cOne.us.length cu) (.slice Ap cOne.ps.length cp)).toArray 27)
  have hCB := cb_new w1 cOne (.slice Ad cOne.ds.length cd) (.slice Ae cOne.es.length ce) (.slice Au cOne.us.length cu) (.slice Ap cOne.ps.length cp)
  have hV2 := Lib.hid (show CfgV (w1.alloc (.cells (cfgCells cOne (.slice Ad cOne.ds.length cd) (.slice Ae cOne.es.length ce) (.slice Au cOne.us.length cu) (.slice Ap cOne.ps.length cp)).toArray 27)) (.agg (cfgCells cOne (.slice Ad cOne.ds.length cd) (.slice Ae cOne.es.length ce) (.slice Au cOne.us.length cu) (.slice Ap cOne.ps.length cp)).toArray) cOne from ⟨_, _, _, _, rfl, hd.below ha, he.below ha, hu.below ha, hp.below ha⟩)
  have B2 := Lib.hid (then_ b1 ha)
  have hCB' := Lib.hid hCB
  have H2 := Lib.hid (parse_any ex2 _ (hE'.out.of B2.out) (by decide))
  rw [parse_ex2] at H2
  obtain ⟨W2, hW2⟩ : ∃ W2, w1.alloc (.cells (cfgCells cOne (.slice Ad cOne.ds.length cd) (.slice Ae cOne.es.length ce) (.slice Au cOne.us.length cu) (.slice Ap cOne.ps.length cp)).toArray 27) = W2 := ⟨_, rfl⟩
  rw [hW2] at hV2 B2 hCB' H2
  unfold cfgCells cOne at hW2
  simp only [List.length_cons, List.length_nil, Nat.zero_add] at hW2
  unfold ex2 at H2
  unfold cfgCells cOne
  simp only [List.length_cons, List.length_nil, Nat.zero_add]
  clear hd he hu hp ha hCB b1 H1
  go_wp2_with fail
  clear hW2
  refine H2.out.mono ?_
  rintro e w3 ⟨v3, rfl, hV3, b3⟩
  obtain ⟨vd3, ve3, vu3, vp3, rfl, hd, he, hu, hp⟩ := hV3
  obtain ⟨Bd, dd, rfl⟩ := hd.form
  obtain ⟨Be, de, rfl⟩ := he.form
  obtain ⟨Bu, du, rfl⟩ := hu.form
  obtain ⟨Bp, dp, rfl⟩ := hp.form
  have ha := alloc_below w3 (.cells (cfgCells zeroC (.slice Bd zeroC.ds.length dd) (.slice Be zeroC.es.length de) (.slice Bu zeroC.us.length du) (.slice Bp zeroC.ps.length dp)).toArray 27)
  have B4 := Lib.hid (then_ (then_ B2.out b3) ha)
  have V4 := Lib.hid ((hV2.out.below b3).below ha)
  have C4 := (hCB'.out.below b3).below ha
  unfold cfgCells zeroC at ha B4 V4 C4
  unfold cfgCells zeroC
  simp only [List.length_nil] at ha B4 V4 C4 ⊢
  have c1 := C4.at_ 1 _ rfl
  have c5 := C4.at_ 5 _ rfl
  have hl := C4.load
  have HV := Lib.hid (validate_any cOne _ _ V4.out one_in one_fair)
  clear hd he hu hp ha b3 C4 H2
  go_wp2_with (refine wpList_load_gd rfl 27 _ rfl ⟨w1.heap.size, 0, none⟩ rfl (cfgCells cOne (.slice Ad cOne.ds.length cd) (.slice Ae cOne.es.length ce) (.slice Au cOne.us.length cu) (.slice Ap cOne.ps.length cp)) hl ?_)
  refine HV.out.mono ?_
  rintro e w5 ⟨rfl, b5⟩
  rw [one_right]
  have B5 := Lib.hid (then_ B4.out b5)
  clear c1 c5 hl b5 HV
  go_wp2
  go_ret
  exact ⟨rfl, B5.out⟩
end Go.Proofs.YtjklpikopgihgaaGreatDoor
