/- The laws ConfigEqual, ConfigParameters. -/
import Derived.Test.YtjklpikopgihgaaGreatDoorV2
import Derived.Test.YtjklpikopgihgaaGreatDoorW7
set_option linter.unusedVariables false
set_option maxRecDepth 100000
set_option linter.unusedSimpArgs false
namespace Go.Proofs.YtjklpikopgihgaaGreatDoor
open Go.RowKit Go.Lib Cf

set_option maxHeartbeats 8000000 in
theorem lawEqual (a b : Cfg) (va vb : Value) (w : World) (ha : CfgV w va a) (hb : CfgV w vb b) (pa : ArgC a) (pb : ArgC b) (hE : Env w) :
    Calls Tryz.prog 5 #[va, vb] w fun e w' => e = .returned (.bool true) ∧ Below w.heap.size w w' := by
  obtain ⟨_, _, _, _, rfl, ad, ae, au, ap⟩ := ha
  obtain ⟨_, _, _, _, rfl, bd, be, bu, bp⟩ := hb
  obtain ⟨A1d, c1d, rfl⟩ := ad.form
  obtain ⟨A1e, c1e, rfl⟩ := ae.form
  obtain ⟨A1u, c1u, rfl⟩ := au.form
  obtain ⟨A1p, c1p, rfl⟩ := ap.form
  obtain ⟨A2d, c2d, rfl⟩ := bd.form
  obtain ⟨A2e, c2e, rfl⟩ := be.form
  obtain ⟨A2u, c2u, rfl⟩ := bu.form
  obtain ⟨A2p, c2p, rfl⟩ := bp.form
  have hA : Below w.heap.size w (w.alloc (.cells (cfgCells a (.slice A1d a.ds.length c1d) (.slice A1e a.es.length c1e) (.slice A1u a.us.length c1u) (.slice A1p a.ps.length c1p)).toArray 27)) := (Below.refl _ _).alloc (Nat.le_refl _) _
  have hCa1 : CB (w.alloc (.cells (cfgCells a (.slice A1d a.ds.length c1d) (.slice A1e a.es.length c1e) (.slice A1u a.us.length c1u) (.slice A1p a.ps.length c1p)).toArray 27)) w.heap.size a _ _ _ _ := cb_new w a (.slice A1d a.ds.length c1d) (.slice A1e a.es.length c1e) (.slice A1u a.us.length c1u) (.slice A1p a.ps.length c1p)
  have hAB := (Below.refl (w.alloc (.cells (cfgCells a (.slice A1d a.ds.length c1d) (.slice A1e a.es.length c1e) (.slice A1u a.us.length c1u) (.slice A1p a.ps.length c1p)).toArray 27)).heap.size (w.alloc (.cells (cfgCells a (.slice A1d a.ds.length c1d) (.slice A1e a.es.length c1e) (.slice A1u a.us.length c1u) (.slice A1p a.ps.length c1p)).toArray 27))).alloc (Nat.le_refl _) (.cells (cfgCells b (.slice A2d b.ds.length c2d) (.slice A2e b.es.length c2e) (.slice A2u b.us.length c2u) (.slice A2p b.ps.length c2p)).toArray 27)
  have hCa := hCa1.below hAB
  have hCb := cb_new (w.alloc (.cells (cfgCells a (.slice A1d a.ds.length c1d) (.slice A1e a.es.length c1e) (.slice A1u a.us.length c1u) (.slice A1p a.ps.length c1p)).toArray 27)) b (.slice A2d b.ds.length c2d) (.slice A2e b.es.length c2e) (.slice A2u b.us.length c2u) (.slice A2p b.ps.length c2p)
  rw [World.size_alloc] at hCb
  have hB0 := then_ hA hAB
  obtain ⟨W, hW⟩ : ∃ W, (w.alloc (.cells (cfgCells a (.slice A1d a.ds.length c1d) (.slice A1e a.es.length c1e) (.slice A1u a.us.length c1u) (.slice A1p a.ps.length c1p)).toArray 27)).alloc (.cells (cfgCells b (.slice A2d b.ds.length c2d) (.slice A2e b.es.length c2e) (.slice A2u b.us.length c2u) (.slice A2p b.ps.length c2p)).toArray 27) = W := ⟨_, rfl⟩
  rw [hW] at hCa hCb hB0
  have hVa := Lib.hid (show CfgV W (.agg (cfgCells a (.slice A1d a.ds.length c1d) (.slice A1e a.es.length c1e) (.slice A1u a.us.length c1u) (.slice A1p a.ps.length c1p)).toArray) a from ⟨_, _, _, _, rfl, ad.below hB0, ae.below hB0, au.below hB0, ap.below hB0⟩)
  have hVb := Lib.hid (show CfgV W (.agg (cfgCells b (.slice A2d b.ds.length c2d) (.slice A2e b.es.length c2e) (.slice A2u b.us.length c2u) (.slice A2p b.ps.length c2p)).toArray) b from ⟨_, _, _, _, rfl, bd.below hB0, be.below hB0, bu.below hB0, bp.below hB0⟩)
  have hB0' := Lib.hid hB0
  have hWl : w.heap.size ≤ W.heap.size := hB0.size
  have hCa' := Lib.hid hCa
  have hCb' := Lib.hid hCb
  have hEW := Lib.hid (hE.of hB0)
  have hla := hCa.load
  have hlb := hCb.load
  have pa' := Lib.hid pa
  have pb' := Lib.hid pb
  clear ad ae au ap bd be bu bp hA hAB hCa1 hCa hCb hB0 hE pa pb
  unfold cfgCells at hW ⊢
  have HA := Lib.hid (fun (w' : World) (hb : Below W.heap.size W w') => awake_any w' (hEW.out.of hb))
  go_enter Tryz.func5, Tryz.ntmps5
  go_wp2_with (refine wpList_load_list rfl 27 _ rfl ⟨w.heap.size, 0, none⟩ rfl (cfgCells a (.slice A1d a.ds.length c1d) (.slice A1e a.es.length c1e) (.slice A1u a.us.length c1u) (.slice A1p a.ps.length c1p)) hla ?_)
  clear hW
  refine (great_any a _ W hVa.out pa'.out.pin pa'.out.ds pa'.out.es pa'.out.us pa'.out.ps).mono ?_
  rintro e w1 ⟨rfl, b1⟩
  have B1 := Lib.hid b1
  clear hla hlb
  cases ga : great a with
  | true =>
    clear ga
    go_wp2_with fail
    refine (HA.out w1 b1).mono ?_
    rintro e w2 ⟨rfl, b2⟩
    have B2 := Lib.hid (then_ B1.out b2)
    clear b1 b2
    go_wp2
    go_ret
    exact ⟨rfl, hB0'.out.trans (B2.out.mono hWl)⟩
  | false =>
    have sa := Lib.hid (small_of ga)
    have hlb := (hCb'.out.below b1).load
    clear ga b1
    go_wp2_with (refine wpList_load_gd rfl 27 _ rfl ⟨w.heap.size + 1, 0, none⟩ rfl (cfgCells b (.slice A2d b.ds.length c2d) (.slice A2e b.es.length c2e) (.slice A2u b.us.length c2u) (.slice A2p b.ps.length c2p)) hlb ?_)
    refine (great_any b _ w1 (hVb.out.below B1.out) pb'.out.pin pb'.out.ds pb'.out.es pb'.out.us pb'.out.ps).mono ?_
    rintro e w2 ⟨rfl, b2⟩
    have B2 := Lib.hid (then_ B1.out b2)
    clear hlb b2
    cases gb : great b with
    | true =>
      clear gb
      go_wp2_with fail
      refine (HA.out w2 B2.out).mono ?_
      rintro e w3 ⟨rfl, b3⟩
      have B3 := Lib.hid (then_ B2.out b3)
      clear b3
      go_wp2
      go_ret
      exact ⟨rfl, hB0'.out.trans (B3.out.mono hWl)⟩
    | false =>
      have sb := Lib.hid (small_of gb)
      clear gb
      obtain ⟨d, hd⟩ : ∃ d, decide (a = b) = d := ⟨_, rfl⟩
      obtain ⟨G, hG1, hG2⟩ := gworlds w2
      have hW0 : ∃ q, w2.drew = G q := hG2 _ (Below.refl _ _).drew
      have hbw := fun p => then_ B2.out (hG1 p)
      have HLa := Lib.hid (fun p => (hCa'.out.below (hbw p)).load)
      have HLb := Lib.hid (fun p => (hCb'.out.below (hbw p)).load)
      have HE1 := Lib.hid (fun p => show Calls Tryz.prog 16 #[.agg (cfgCells a (.slice A1d a.ds.length c1d) (.slice A1e a.es.length c1e) (.slice A1u a.us.length c1u) (.slice A1p a.ps.length c1p)).toArray, .agg (cfgCells b (.slice A2d b.ds.length c2d) (.slice A2e b.es.length c2e) (.slice A2u b.us.length c2u) (.slice A2p b.ps.length c2p)).toArray] (G p) (fun e w'' => e = .returned (.bool d) ∧ ∃ q : Regrown, w'' = G q) from hd ▸ (equal_any a b _ _ (G p) (hVa.out.below (hbw p)) (hVb.out.below (hbw p)) sa.out.fair sb.out.fair).mono fun e w'' ⟨he, hb⟩ => ⟨he, hG2 _ (then_ (hG1 p) hb)⟩)
      have HS := Lib.hid (fun p => show Calls Tryz.prog 15 #[.agg (cfgCells a (.slice A1d a.ds.length c1d) (.slice A1e a.es.length c1e) (.slice A1u a.us.length c1u) (.slice A1p a.ps.length c1p)).toArray, .agg (cfgCells b (.slice A2d b.ds.length c2d) (.slice A2e b.es.length c2e) (.slice A2u b.us.length c2u) (.slice A2p b.ps.length c2p)).toArray] (G p) (fun e w'' => e = .returned (.bool d) ∧ ∃ q : Regrown, w'' = G q) from hd ▸ (same_any a b _ _ (G p) (hVa.out.below (hbw p)) (hVb.out.below (hbw p)) sa.out sb.out).mono fun e w'' ⟨he, hb⟩ => ⟨he, hG2 _ (then_ (hG1 p) hb)⟩)
      have HE2 := Lib.hid (fun p => show Calls Tryz.prog 16 #[.agg (cfgCells a (.slice A1d a.ds.length c1d) (.slice A1e a.es.length c1e) (.slice A1u a.us.length c1u) (.slice A1p a.ps.length c1p)).toArray, .agg (cfgCells a (.slice A1d a.ds.length c1d) (.slice A1e a.es.length c1e) (.slice A1u a.us.length c1u) (.slice A1p a.ps.length c1p)).toArray] (G p) (fun e w'' => e = .returned (.bool true) ∧ ∃ q : Regrown, w'' = G q) from (equal_any a a _ _ (G p) (hVa.out.below (hbw p)) (hVa.out.below (hbw p)) sa.out.fair sa.out.fair).mono fun e w'' ⟨he, hb⟩ => ⟨by rw [he, decide_eq_true (rfl : a = a)], hG2 _ (then_ (hG1 p) hb)⟩)
      have HD1 := Lib.hid (fun p => show Calls Tryz.prog 17 #[] (G p) (fun e w'' => e = .returned (.agg (cfgCells dflt (.slice none 0 0) (.slice none 0 0) (.slice none 0 0) (.slice none 0 0)).toArray) ∧ ∃ q : Regrown, w'' = G q) from (default_is (G p)).mono fun e w'' ⟨he, hb⟩ => ⟨he, hG2 _ (then_ (hG1 p) hb)⟩)
      have HD2 := Lib.hid (fun p => show Calls Tryz.prog 18 #[] (G p) (fun e w'' => e = .returned (.agg (cfgCells dflt (.slice none 0 0) (.slice none 0 0) (.slice none 0 0) (.slice none 0 0)).toArray) ∧ ∃ q : Regrown, w'' = G q) from (default_any (G p)).mono fun e w'' ⟨he, hb⟩ => ⟨he, hG2 _ (then_ (hG1 p) hb)⟩)
      have HE3 := Lib.hid (fun p => show Calls Tryz.prog 16 #[.agg (cfgCells dflt (.slice none 0 0) (.slice none 0 0) (.slice none 0 0) (.slice none 0 0)).toArray, .agg (cfgCells dflt (.slice none 0 0) (.slice none 0 0) (.slice none 0 0) (.slice none 0 0)).toArray] (G p) (fun e w'' => e = .returned (.bool true) ∧ ∃ q : Regrown, w'' = G q) from (equal_any dflt dflt _ _ (G p) (dflt_v (G p)) (dflt_v (G p)) (okc_dflt.fair (by decide)) (okc_dflt.fair (by decide))).mono fun e w'' ⟨he, hb⟩ => ⟨by rw [he, decide_eq_true (rfl : dflt = dflt)], hG2 _ (then_ (hG1 p) hb)⟩)
      have HW := Lib.hid (fun p => show Calls Tryz.prog 9 #[] (G p) (fun e w'' => e = .returned (.bool true) ∧ ∃ q : Regrown, w'' = G q) from (HA.out (G p) (hbw p)).mono fun e w'' ⟨he, hb⟩ => ⟨he, hG2 _ (then_ (hG1 p) hb)⟩)
      have HB := Lib.hid hbw
      have t : (d == d) = true := by simp
      clear hG1 hG2 hd hbw
      go_wp2_with fail
      refine wp_region_G (G := G) (by kernel_rfl) (by kernel_rfl) hW0 ?_
      repeat (first | go_big_quiet_skip | (go_big_quiet_want; first
        | (refine q_load_list 27 _ ⟨w.heap.size, 0, none⟩ (cfgCells a (.slice A1d a.ds.length c1d) (.slice A1e a.es.length c1e) (.slice A1u a.us.length c1u) (.slice A1p a.ps.length c1p)) rfl rfl HLa.out ?_; simp only [Act.put, List.setIfInBounds_toArray, List.set_cons_zero, List.set_cons_succ]; go_big_quiet_on)
        | (refine q_load_list 27 _ ⟨w.heap.size + 1, 0, none⟩ (cfgCells b (.slice A2d b.ds.length c2d) (.slice A2e b.es.length c2e) (.slice A2u b.us.length c2u) (.slice A2p b.ps.length c2p)) rfl rfl HLb.out ?_; simp only [Act.put, List.setIfInBounds_toArray, List.set_cons_zero, List.set_cons_succ]; go_big_quiet_on)
        | (go_big_quiet_op; first | go_big_quiet_on | go_big_quiet_call (first | (go_at_call 15; exact HS.out _) | (go_at_call 17; exact HD1.out _) | (go_at_call 18; exact HD2.out _) | (go_at_call 9; exact HW.out _)))))
      go_big_quiet_want
      go_big_quiet_op
      go_big_quiet_call ((go_at_call 16; exact HE1.out _))
      repeat (first | go_big_quiet_skip | (go_big_quiet_want; first
        | (refine q_load_list 27 _ ⟨w.heap.size, 0, none⟩ (cfgCells a (.slice A1d a.ds.length c1d) (.slice A1e a.es.length c1e) (.slice A1u a.us.length c1u) (.slice A1p a.ps.length c1p)) rfl rfl HLa.out ?_; simp only [Act.put, List.setIfInBounds_toArray, List.set_cons_zero, List.set_cons_succ]; go_big_quiet_on)
        | (refine q_load_list 27 _ ⟨w.heap.size + 1, 0, none⟩ (cfgCells b (.slice A2d b.ds.length c2d) (.slice A2e b.es.length c2e) (.slice A2u b.us.length c2u) (.slice A2p b.ps.length c2p)) rfl rfl HLb.out ?_; simp only [Act.put, List.setIfInBounds_toArray, List.set_cons_zero, List.set_cons_succ]; go_big_quiet_on)
        | (go_big_quiet_op; first | go_big_quiet_on | go_big_quiet_call (first | (go_at_call 15; exact HS.out _) | (go_at_call 17; exact HD1.out _) | (go_at_call 18; exact HD2.out _) | (go_at_call 9; exact HW.out _)))))
      go_big_quiet_want
      go_big_quiet_op
      go_big_quiet_call ((go_at_call 16; exact HE2.out _))
      repeat (first | go_big_quiet_skip | (go_big_quiet_want; first
        | (refine q_load_list 27 _ ⟨w.heap.size, 0, none⟩ (cfgCells a (.slice A1d a.ds.length c1d) (.slice A1e a.es.length c1e) (.slice A1u a.us.length c1u) (.slice A1p a.ps.length c1p)) rfl rfl HLa.out ?_; simp only [Act.put, List.setIfInBounds_toArray, List.set_cons_zero, List.set_cons_succ]; go_big_quiet_on)
        | (refine q_load_list 27 _ ⟨w.heap.size + 1, 0, none⟩ (cfgCells b (.slice A2d b.ds.length c2d) (.slice A2e b.es.length c2e) (.slice A2u b.us.length c2u) (.slice A2p b.ps.length c2p)) rfl rfl HLb.out ?_; simp only [Act.put, List.setIfInBounds_toArray, List.set_cons_zero, List.set_cons_succ]; go_big_quiet_on)
        | (go_big_quiet_op; first | go_big_quiet_on | go_big_quiet_call (first | (go_at_call 15; exact HS.out _) | (go_at_call 17; exact HD1.out _) | (go_at_call 18; exact HD2.out _) | (go_at_call 9; exact HW.out _)))))
      go_big_quiet_want
      go_big_quiet_op
      go_big_quiet_call ((go_at_call 16; exact HE3.out _))
      repeat (first | go_big_quiet_skip | (go_big_quiet_want; first
        | (refine q_load_list 27 _ ⟨w.heap.size, 0, none⟩ (cfgCells a (.slice A1d a.ds.length c1d) (.slice A1e a.es.length c1e) (.slice A1u a.us.length c1u) (.slice A1p a.ps.length c1p)) rfl rfl HLa.out ?_; simp only [Act.put, List.setIfInBounds_toArray, List.set_cons_zero, List.set_cons_succ]; go_big_quiet_on)
        | (refine q_load_list 27 _ ⟨w.heap.size + 1, 0, none⟩ (cfgCells b (.slice A2d b.ds.length c2d) (.slice A2e b.es.length c2e) (.slice A2u b.us.length c2u) (.slice A2p b.ps.length c2p)) rfl rfl HLb.out ?_; simp only [Act.put, List.setIfInBounds_toArray, List.set_cons_zero, List.set_cons_succ]; go_big_quiet_on)
        | (go_big_quiet_op; first | go_big_quiet_on | go_big_quiet_call (first | (go_at_call 15; exact HS.out _) | (go_at_call 17; exact HD1.out _) | (go_at_call 18; exact HD2.out _) | (go_at_call 9; exact HW.out _)))))
      refine wpQuiet_nil ?_
      rintro _ ⟨p, rfl⟩
      go_wp2
      go_ret
      exact ⟨rfl, hB0'.out.trans ((HB.out p).mono hWl)⟩
end Go.Proofs.YtjklpikopgihgaaGreatDoor
