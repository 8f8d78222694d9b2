/- The code: readWords, lines of three words. -/
import Derived.Test.YtjklpikopgihgaaGreatDoorKC
import Derived.Deep.RegionLaw
set_option linter.unusedVariables false
set_option maxRecDepth 100000
set_option linter.unusedSimpArgs false
namespace Go.Proofs.YtjklpikopgihgaaGreatDoor
open Go.RowKit Go.Lib Cf

set_option maxHeartbeats 8000000 in
theorem rw_edge (B gc gw : Nat) (c : Cfg) (r : List Bs) (b : Bool) (w : World)
    (C : CfP w B gc c) (H : WdP w gw r b) (hBw : B ≤ gw) (hB9 : 9 ≤ B) (hE : Env w) (hr : Wl r) (hlen : Lens c) (hx : hd r = wdEdge) :
    Calls Tryz.prog 87 #[.pointer (some ⟨gc, 0, none⟩), .pointer (some ⟨gw, 0, none⟩)] w (RwPost B gc gw c r b w) := by
  unfold RwPost
  have HX := Lib.hid (next_any B gw r b w H hBw hr.1)
  have hr1 := Lib.hid hr.tl
  have hE' := Lib.hid hE
  have hm := Lib.hid (show mWords c (r, b) = ({ c with es := c.es ++ [((mNum (tl r, b)).1, (mNum (mNum (tl r, b)).2).1, (mTime (mNum (mNum (tl r, b)).2).2).1)] }, 3, (mTime (mNum (mNum (tl r, b)).2).2).2) from by unfold mWords; simp only [hx]; rfl)
  have C' := Lib.hid C
  rw [hx] at HX
  generalize tl r = r1 at *
  obtain ⟨hl1, hl2, hl3, hl4⟩ := hlen
  clear hE H C hx
  go_enter Tryz.func87, Tryz.ntmps87
  go_wp2_with fail
  refine HX.out.mono ?_
  rintro e w1 ⟨rfl, L1⟩
  have hE1 := Lib.hid (hE'.out.keep (L1.bel.mono hB9))
  have L1' := Lib.hid L1
  obtain ⟨vd, ve, vu, vp, ps, C1⟩ := C'.out.words L1.kt
  have C1' := Lib.hid C1
  clear L1 C1 HX hE'
  obtain ⟨z1, q1, b1, hz1⟩ : ∃ z q b', mNum (r1, b) = (z, (q, b')) := ⟨_, _, _, rfl⟩
  have hr2 : Wl q1 := by have h := hr1.out.tl; rw [← rest_num (r1, b), hz1] at h; exact h
  obtain ⟨z2, q2, b2, hz2⟩ : ∃ z q b', mNum (q1, b1) = (z, (q, b')) := ⟨_, _, _, rfl⟩
  have hr3 : Wl q2 := by have h := hr2.tl; rw [← rest_num (q1, b1), hz2] at h; exact h
  obtain ⟨z3, q3, b3, hz3⟩ : ∃ z q b', mTime (q2, b2) = (z, (q, b')) := ⟨_, _, _, rfl⟩
  have H1 := Lib.hid (fun w' (h : Left B gw r1 b w1 w') => number_any B gw r1 b w' h.wd hBw hB9 (hE1.out.keep (h.bel.mono hB9)) hr1.out)
  have H2 := Lib.hid (fun w' (h : Left B gw q1 b1 w1 w') => number_any B gw q1 b1 w' h.wd hBw hB9 (hE1.out.keep (h.bel.mono hB9)) hr2)
  have H3 := Lib.hid (fun w' (h : Left B gw q2 b2 w1 w') => wtime_any B gw q2 b2 w' h.wd hBw hB9 (hE1.out.keep (h.bel.mono hB9)) hr3)
  rw [hz1] at H1 hm
  rw [hz2] at H2 hm
  rw [hz3] at H3 hm
  have hBs : B ≤ w1.heap.size := Nat.le_of_lt (Nat.lt_of_le_of_lt hBw L1'.out.wd.lt)
  clear hz1 hz2 hz3 hr2 hr3
  obtain ⟨rA, rc, rfl⟩ := own_form C1'.out.e
  have h63 := Lib.hid (show c.es.length ≤ 10000000 from by omega)
  go_wp2_with fail
  have hdr : Below w1.heap.size w1 w1.drew := (Below.refl _ _).drew
  have Lw := (Left.start (B := B) L1'.out.wd).below hBw hdr
  have Cw := C1'.out.below hdr
  have d1 := Cw.cb.at_ 2 _ rfl
  have f1 := Cw.cb.frozen 2
  clear hdr
  go_region_law (first
    | (go_simp; go_at_call 98; refine (H3.out _ Lw3).mono ?_; rintro e w4 ⟨rfl, L4⟩; have Cw := Cw.words L4.kt; have Lw4 := Lw3.after L4; have d4 := Cw.cb.at_ 2 _ rfl; have Ca := Cw.below (alloc_below w4 (.cells #[.int .i64 z1, .int .i64 z2, .int .i64 z3] 47)); have d5 := Ca.cb.at_ 2 _ rfl)
    | (go_simp; go_at_call 97; refine (H2.out _ Lw2).mono ?_; rintro e w3 ⟨rfl, L3⟩; have Cw := Cw.words L3.kt; have Lw3 := Lw2.after L3; have d3 := Cw.cb.at_ 2 _ rfl)
    | (go_simp; go_at_call 97; refine (H1.out _ Lw).mono ?_; rintro e w2 ⟨rfl, L2⟩; have Cw := Cw.words L2.kt; have Lw2 := Lw.after L2; have d2 := Cw.cb.at_ 2 _ rfl)
    | (refine step_append1 rfl _ _ 23 47 rfl 3 24 _ Tryz.underlying23 infoEdge rfl (by decide) (by decide) B (.slice rA c.es.length rc) _ _ rfl Ca.e w4.heap.size rfl [.int .i64 z1, .int .i64 z2, .int .i64 z3] rfl (row_new w4 47 [.int .i64 z1, .int .i64 z2, .int .i64 z3]) (one3 z1 z2 z3) h63.out (le_alloc (Nat.le_trans hBs Lw4.bel.size)) ?_; intro v5 w5 hO5 hg5 _; have hcb : CB w5 gc c vd (.slice rA c.es.length rc) vu vp := (Kt.grown Ca.e (X := [47]) (by simp) hg5) _ _ _ _ Ca.cb (by decide); have d6 := hcb.at_ 2 _ rfl; have f6 := hcb.frozen 2; have hS := Ca.push_e (x := (z1, z2, z3)) hO5 hg5; obtain ⟨A5, n5, c5, rfl⟩ := own_form3 hO5; have hb5 := (Lw4.bel.trans ((alloc_below w4 (.cells #[.int .i64 z1, .int .i64 z2, .int .i64 z3] 47)).mono (Nat.le_trans hBs Lw4.bel.size))).grown hg5 (le_alloc (Nat.le_trans hBs Lw4.bel.size)) (fun k hk => (World.ownsRow.lt Ca.e k hk).1)))
  all_goals (
    have hend := Lib.hid (show CfP (w5.setCell ⟨gc, 2, none⟩ (.slice A5 n5 c5)) B gc { c with es := c.es ++ [(z1, z2, z3)] } ∧ WdP (w5.setCell ⟨gc, 2, none⟩ (.slice A5 n5 c5)) gw q3 b3 ∧ Below B w (w5.setCell ⟨gc, 2, none⟩ (.slice A5 n5 c5)) from ⟨⟨_, _, _, _, _, hS.1⟩, wd_cfg (Lw4.wd.below (alloc_below w4 _)) hS.2, (L1'.out.bel.trans hb5).setCell (p := ⟨gc, 2, none⟩) C1'.out.low _⟩)
    clear hS hb5 hO5 hg5 hcb d1 d2 d3 d4 d5 d6 f1 f6 Lw2 Lw3 Lw4 Ca L2 L3 L4
    go_wp2
    go_ret
    rw [hm.out]
    exact ⟨rfl, hend.out⟩)
set_option maxHeartbeats 8000000 in
theorem rw_unit (B gc gw : Nat) (c : Cfg) (r : List Bs) (b : Bool) (w : World)
    (C : CfP w B gc c) (H : WdP w gw r b) (hBw : B ≤ gw) (hB9 : 9 ≤ B) (hE : Env w) (hr : Wl r) (hlen : Lens c) (hx : hd r = wdUnit) :
    Calls Tryz.prog 87 #[.pointer (some ⟨gc, 0, none⟩), .pointer (some ⟨gw, 0, none⟩)] w (RwPost B gc gw c r b w) := by
  unfold RwPost
  have HX := Lib.hid (next_any B gw r b w H hBw hr.1)
  have hr1 := Lib.hid hr.tl
  have hE' := Lib.hid hE
  have hm := Lib.hid (show mWords c (r, b) = ({ c with us := c.us ++ [((mKind (tl r, b)).1, (mNum (mKind (tl r, b)).2).1, (mNum (mNum (mKind (tl r, b)).2).2).1)] }, 4, (mNum (mNum (mKind (tl r, b)).2).2).2) from by unfold mWords; simp only [hx]; rfl)
  have C' := Lib.hid C
  rw [hx] at HX
  generalize tl r = r1 at *
  obtain ⟨hl1, hl2, hl3, hl4⟩ := hlen
  clear hE H C hx
  go_enter Tryz.func87, Tryz.ntmps87
  go_wp2_with fail
  refine HX.out.mono ?_
  rintro e w1 ⟨rfl, L1⟩
  have hE1 := Lib.hid (hE'.out.keep (L1.bel.mono hB9))
  have L1' := Lib.hid L1
  obtain ⟨vd, ve, vu, vp, ps, C1⟩ := C'.out.words L1.kt
  have C1' := Lib.hid C1
  clear L1 C1 HX hE'
  obtain ⟨z1, q1, b1, hz1⟩ : ∃ z q b', mKind (r1, b) = (z, (q, b')) := ⟨_, _, _, rfl⟩
  have hr2 : Wl q1 := by have h := hr1.out.tl; rw [← rest_kind (r1, b), hz1] at h; exact h
  obtain ⟨z2, q2, b2, hz2⟩ : ∃ z q b', mNum (q1, b1) = (z, (q, b')) := ⟨_, _, _, rfl⟩
  have hr3 : Wl q2 := by have h := hr2.tl; rw [← rest_num (q1, b1), hz2] at h; exact h
  obtain ⟨z3, q3, b3, hz3⟩ : ∃ z q b', mNum (q2, b2) = (z, (q, b')) := ⟨_, _, _, rfl⟩
  have H1 := Lib.hid (fun w' (h : Left B gw r1 b w1 w') => wkind_any B gw r1 b w' h.wd hBw hB9 (hE1.out.keep (h.bel.mono hB9)) hr1.out)
  have H2 := Lib.hid (fun w' (h : Left B gw q1 b1 w1 w') => number_any B gw q1 b1 w' h.wd hBw hB9 (hE1.out.keep (h.bel.mono hB9)) hr2)
  have H3 := Lib.hid (fun w' (h : Left B gw q2 b2 w1 w') => number_any B gw q2 b2 w' h.wd hBw hB9 (hE1.out.keep (h.bel.mono hB9)) hr3)
  rw [hz1] at H1 hm
  rw [hz2] at H2 hm
  rw [hz3] at H3 hm
  have hBs : B ≤ w1.heap.size := Nat.le_of_lt (Nat.lt_of_le_of_lt hBw L1'.out.wd.lt)
  clear hz1 hz2 hz3 hr2 hr3
  obtain ⟨rA, rc, rfl⟩ := own_form C1'.out.u
  have h63 := Lib.hid (show c.us.length ≤ 10000000 from by omega)
  go_wp2_with fail
  have hdr : Below w1.heap.size w1 w1.drew := (Below.refl _ _).drew
  have Lw := (Left.start (B := B) L1'.out.wd).below hBw hdr
  have Cw := C1'.out.below hdr
  have d1 := Cw.cb.at_ 3 _ rfl
  have f1 := Cw.cb.frozen 3
  clear hdr
  go_region_law (first
    | (go_simp; go_at_call 97; refine (H3.out _ Lw3).mono ?_; rintro e w4 ⟨rfl, L4⟩; have Cw := Cw.words L4.kt; have Lw4 := Lw3.after L4; have d4 := Cw.cb.at_ 3 _ rfl; have Ca := Cw.below (alloc_below w4 (.cells #[.int .i64 z1, .int .i64 z2, .int .i64 z3] 50)); have d5 := Ca.cb.at_ 3 _ rfl)
    | (go_simp; go_at_call 97; refine (H2.out _ Lw2).mono ?_; rintro e w3 ⟨rfl, L3⟩; have Cw := Cw.words L3.kt; have Lw3 := Lw2.after L3; have d3 := Cw.cb.at_ 3 _ rfl)
    | (go_simp; go_at_call 99; refine (H1.out _ Lw).mono ?_; rintro e w2 ⟨rfl, L2⟩; have Cw := Cw.words L2.kt; have Lw2 := Lw.after L2; have d2 := Cw.cb.at_ 3 _ rfl)
    | (refine step_append1 rfl _ _ 24 50 rfl 3 24 _ Tryz.underlying24 infoUnit rfl (by decide) (by decide) B (.slice rA c.us.length rc) _ _ rfl Ca.u w4.heap.size rfl [.int .i64 z1, .int .i64 z2, .int .i64 z3] rfl (row_new w4 50 [.int .i64 z1, .int .i64 z2, .int .i64 z3]) (one3 z1 z2 z3) h63.out (le_alloc (Nat.le_trans hBs Lw4.bel.size)) ?_; intro v5 w5 hO5 hg5 _; have hcb : CB w5 gc c vd ve (.slice rA c.us.length rc) vp := (Kt.grown Ca.u (X := [50]) (by simp) hg5) _ _ _ _ Ca.cb (by decide); have d6 := hcb.at_ 3 _ rfl; have f6 := hcb.frozen 3; have hS := Ca.push_u (x := (z1, z2, z3)) hO5 hg5; obtain ⟨A5, n5, c5, rfl⟩ := own_form3 hO5; have hb5 := (Lw4.bel.trans ((alloc_below w4 (.cells #[.int .i64 z1, .int .i64 z2, .int .i64 z3] 50)).mono (Nat.le_trans hBs Lw4.bel.size))).grown hg5 (le_alloc (Nat.le_trans hBs Lw4.bel.size)) (fun k hk => (World.ownsRow.lt Ca.u k hk).1)))
  all_goals (
    have hend := Lib.hid (show CfP (w5.setCell ⟨gc, 3, none⟩ (.slice A5 n5 c5)) B gc { c with us := c.us ++ [(z1, z2, z3)] } ∧ WdP (w5.setCell ⟨gc, 3, none⟩ (.slice A5 n5 c5)) gw q3 b3 ∧ Below B w (w5.setCell ⟨gc, 3, none⟩ (.slice A5 n5 c5)) from ⟨⟨_, _, _, _, _, hS.1⟩, wd_cfg (Lw4.wd.below (alloc_below w4 _)) hS.2, (L1'.out.bel.trans hb5).setCell (p := ⟨gc, 3, none⟩) C1'.out.low _⟩)
    clear hS hb5 hO5 hg5 hcb d1 d2 d3 d4 d5 d6 f1 f6 Lw2 Lw3 Lw4 Ca L2 L3 L4
    go_wp2
    go_ret
    rw [hm.out]
    exact ⟨rfl, hend.out⟩)
set_option maxHeartbeats 8000000 in
theorem rw_plan (B gc gw : Nat) (c : Cfg) (r : List Bs) (b : Bool) (w : World)
    (C : CfP w B gc c) (H : WdP w gw r b) (hBw : B ≤ gw) (hB9 : 9 ≤ B) (hE : Env w) (hr : Wl r) (hlen : Lens c) (hx : hd r = wdPlan) :
    Calls Tryz.prog 87 #[.pointer (some ⟨gc, 0, none⟩), .pointer (some ⟨gw, 0, none⟩)] w (RwPost B gc gw c r b w) := by
  unfold RwPost
  have HX := Lib.hid (next_any B gw r b w H hBw hr.1)
  have hr1 := Lib.hid hr.tl
  have hE' := Lib.hid hE
  have hm := Lib.hid (show mWords c (r, b) = ({ c with ps := c.ps ++ [⟨(mCode (tl r, b)).1, (mNum (mCode (tl r, b)).2).1, (mKinds (mNum (mCode (tl r, b)).2).2).1⟩] }, 5, (mKinds (mNum (mCode (tl r, b)).2).2).2) from by unfold mWords; simp only [hx]; rfl)
  have C' := Lib.hid C
  rw [hx] at HX
  generalize tl r = r1 at *
  obtain ⟨hl1, hl2, hl3, hl4⟩ := hlen
  clear hE H C hx
  go_enter Tryz.func87, Tryz.ntmps87
  go_wp2_with fail
  refine HX.out.mono ?_
  rintro e w1 ⟨rfl, L1⟩
  have hE1 := Lib.hid (hE'.out.keep (L1.bel.mono hB9))
  have L1' := Lib.hid L1
  obtain ⟨vd, ve, vu, vp, ps, C1⟩ := C'.out.words L1.kt
  have C1' := Lib.hid C1
  clear L1 C1 HX hE'
  obtain ⟨z1, q1, b1, hz1⟩ : ∃ z q b', mCode (r1, b) = (z, (q, b')) := ⟨_, _, _, rfl⟩
  have hr2 : Wl q1 := by have h := hr1.out.tl; rw [← rest_code (r1, b), hz1] at h; exact h
  obtain ⟨z2, q2, b2, hz2⟩ : ∃ z q b', mNum (q1, b1) = (z, (q, b')) := ⟨_, _, _, rfl⟩
  have hr3 : Wl q2 := by have h := hr2.tl; rw [← rest_num (q1, b1), hz2] at h; exact h
  obtain ⟨z3, q3, b3, hz3⟩ : ∃ z q b', mKinds (q2, b2) = (z, (q, b')) := ⟨_, _, _, rfl⟩
  have H1 := Lib.hid (fun w' (h : Left B gw r1 b w1 w') => wcode_any B gw r1 b w' h.wd hBw hr1.out)
  have H2 := Lib.hid (fun w' (h : Left B gw q1 b1 w1 w') => number_any B gw q1 b1 w' h.wd hBw hB9 (hE1.out.keep (h.bel.mono hB9)) hr2)
  have H3 := Lib.hid (fun w' (h : Left B gw q2 b2 w1 w') => wkinds_any B gw q2 b2 w' h.wd hBw hB9 (hE1.out.keep (h.bel.mono hB9)) hr3)
  rw [hz1] at H1 hm
  rw [hz2] at H2 hm
  rw [hz3] at H3 hm
  have hBs : B ≤ w1.heap.size := Nat.le_of_lt (Nat.lt_of_le_of_lt hBw L1'.out.wd.lt)
  clear hz1 hz2 hz3 hr2 hr3
  obtain ⟨rA, rc, rfl⟩ := own_form C1'.out.p
  have h63 := Lib.hid (show c.ps.length ≤ 10000000 from by omega)
  go_wp2_with fail
  have hdr : Below w1.heap.size w1 w1.drew := (Below.refl _ _).drew
  have Lw := (Left.start (B := B) L1'.out.wd).below hBw hdr
  have Cw := C1'.out.below hdr
  have d1 := Cw.cb.at_ 4 _ rfl
  have f1 := Cw.cb.frozen 4
  clear hdr
  go_region_law (first
    | (go_simp; go_at_call 101; refine (H3.out _ Lw3).mono ?_; rintro e w4 ⟨u, rfl, Ou, L4⟩; have hud : ∀ i, u.ownBlock = some i → vd.ownBlock ≠ some i := fun i hi e2 => absurd (World.ownsRow.lt Ou i hi).1 (Nat.not_le.2 (World.ownsRow.lt Cw.d i e2).2); have Ou := own_mono Ou (Nat.le_trans hBs Lw3.bel.size); obtain ⟨uA, uc, rfl⟩ := own_form Ou; have Cw := Cw.words L4.kt; have Lw4 := Lw3.after L4; have d4 := Cw.cb.at_ 4 _ rfl; have Ca := Cw.below (alloc_below w4 (.cells #[.string ⟨z1.toArray⟩, .int .i64 z2, .slice uA z3.length uc] 43)); have d5 := Ca.cb.at_ 4 _ rfl)
    | (go_simp; go_at_call 97; refine (H2.out _ Lw2).mono ?_; rintro e w3 ⟨rfl, L3⟩; have Cw := Cw.words L3.kt; have Lw3 := Lw2.after L3; have d3 := Cw.cb.at_ 4 _ rfl)
    | (go_simp; go_at_call 100; refine (H1.out _ Lw).mono ?_; rintro e w2 ⟨rfl, L2⟩; have Cw := Cw.words L2.kt; have Lw2 := Lw.after L2; have d2 := Cw.cb.at_ 4 _ rfl)
    | (refine step_append1 rfl _ _ 25 43 rfl 3 48 _ Tryz.underlying25 infoPlan rfl (by decide) (by decide) B (.slice rA c.ps.length rc) _ _ rfl Ca.p w4.heap.size rfl [.string ⟨z1.toArray⟩, .int .i64 z2, .slice uA z3.length uc] rfl (row_new w4 43 [.string ⟨z1.toArray⟩, .int .i64 z2, .slice uA z3.length uc]) (oneP _ z2 uA z3.length uc) h63.out (le_alloc (Nat.le_trans hBs Lw4.bel.size)) ?_; intro v5 w5 hO5 hg5 _; have hcb : CB w5 gc c vd ve vu (.slice rA c.ps.length rc) := (Kt.grown Ca.p (X := [43]) (by simp) hg5) _ _ _ _ Ca.cb (by decide); have d6 := hcb.at_ 4 _ rfl; have f6 := hcb.frozen 4; have hS := Ca.push_p (q := ⟨z1, z2, z3⟩) (own_below Ou (alloc_below w4 (.cells #[.string ⟨z1.toArray⟩, .int .i64 z2, .slice uA z3.length uc] 43))) hud hO5 hg5; obtain ⟨A5, n5, c5, rfl⟩ := own_form3 hO5; have hb5 := (Lw4.bel.trans ((alloc_below w4 (.cells #[.string ⟨z1.toArray⟩, .int .i64 z2, .slice uA z3.length uc] 43)).mono (Nat.le_trans hBs Lw4.bel.size))).grown hg5 (le_alloc (Nat.le_trans hBs Lw4.bel.size)) (fun k hk => (World.ownsRow.lt Ca.p k hk).1)))
  all_goals (
    have hend := Lib.hid (show CfP (w5.setCell ⟨gc, 4, none⟩ (.slice A5 n5 c5)) B gc { c with ps := c.ps ++ [⟨z1, z2, z3⟩] } ∧ WdP (w5.setCell ⟨gc, 4, none⟩ (.slice A5 n5 c5)) gw q3 b3 ∧ Below B w (w5.setCell ⟨gc, 4, none⟩ (.slice A5 n5 c5)) from ⟨⟨_, _, _, _, _, hS.1⟩, wd_cfg (Lw4.wd.below (alloc_below w4 _)) hS.2, (L1'.out.bel.trans hb5).setCell (p := ⟨gc, 4, none⟩) C1'.out.low _⟩)
    clear hS hb5 hO5 hg5 hcb d1 d2 d3 d4 d5 d6 f1 f6 Lw2 Lw3 Lw4 Ca L2 L3 L4
    go_wp2
    go_ret
    rw [hm.out]
    exact ⟨rfl, hend.out⟩)
end Go.Proofs.YtjklpikopgihgaaGreatDoor
