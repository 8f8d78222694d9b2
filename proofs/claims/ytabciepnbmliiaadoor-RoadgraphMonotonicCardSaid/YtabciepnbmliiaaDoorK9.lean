/- Reverse: walk. -/
import Derived.Test.YtabciepnbmliiaaDoorK8
set_option linter.unusedVariables false
set_option linter.unusedSimpArgs false
set_option maxRecDepth 100000
namespace Go.Proofs.YtabciepnbmliiaaDoor
open Go.RowKit Go.Lib Go.Shelf Rg

set_option maxHeartbeats 1000000 in
theorem reverse_any (N : Nat) (l : List Ed3) (w : World) (lo hi G : Nat) (hG : GrP w lo hi G N l) (hhi : hi ≤ w.heap.size) :
    Calls Tryd.prog 34 #[.pointer (some ⟨G, 0, none⟩)] w fun e w' => Below w.heap.size w w' ∧ ∃ G2, e = .returned (.pointer (some ⟨G2, 0, none⟩)) ∧ GrP w' w.heap.size w'.heap.size G2 N (back l) := by
  have hF := hG.fair
  have hN1 := hF.lo
  have hN2 := hF.hi
  have hl := hF.few
  obtain ⟨AE, cE, AO, cO, AI, cI, hd0, hd1, hd2, hRe, us, is, hRO, hRI⟩ := hG.head
  have hmk := fun W => run_make_lists W N (by omega)
  have T := Lib.hid (And.intro hG (And.intro hRe hd0))
  clear hG hRe hRO hRI hd0 hd2
  go_enter Tryd.func34, Tryd.ntmps34
  go_wp2_with fail
  obtain ⟨Qx, hQx⟩ : ∃ Qx : Act → World → Prop, ∀ a' w', Qx a' w' ↔ ((∃ G2 gO gI, (∃ s1 s4 s5 s6 s7 s8 s9 s10 s11 s12 s13 s14 s15 s16 s17 s18 s19 s20 s21 s22 s23 s24 s25 s26 s27 s28 s29 s30, a' = { tmps := #[.pointer (some ⟨G, 0, none⟩), s1, .pointer none, .pointer (some ⟨G2, 0, none⟩), s4, s5, s6, s7, s8, s9, s10, s11, s12, s13, s14, s15, s16, s17, s18, s19, s20, s21, s22, s23, s24, s25, s26, s27, s28, s29, s30], defers := [] }) ∧ ∃ us is, GrC w' w.heap.size G2 (.slice none 0 0) (.slice (some ⟨gO, 0, none⟩) N N) (.slice (some ⟨gI, 0, none⟩) N N) [] us is (outsL [] N) (outsL [] N)) ∧ Below w.heap.size w w') := ⟨_, fun _ _ => Iff.rfl⟩
  have HQ := Lib.hid hQx; clear hQx
  refine Code.wp_mono (Q := Exit.then Qx (fun _ _ _ => False)) ?_ ?_
  rotate_left
  · go_region_law (go_simp; go_at_call 14; refine (nodes_any _ _ _ _ _ (by first | exact hd1 | exact cell?_alloc_some _ hd1 | exact cell?_alloc_some _ (cell?_alloc_some _ hd1) | exact cell?_alloc_some _ (cell?_alloc_some _ (cell?_alloc_some _ hd1)))).mono ?_; rintro e w2 ⟨rfl, rfl⟩)
    all_goals (first
      | exact (HQ.out _ _).2 ⟨⟨_, _, _, ⟨_, _, _, _, _, _, _, _, _, _, _, _, _, _, _, _, _, _, _, _, _, _, _, _, _, _, _, _, rfl⟩, GrC.start (three w _ _ _).1 (three w _ _ _).2.1 (three w _ _ _).2.2.1 (by omega) (by omega) (by omega) (by omega) (by omega)⟩, (three w _ _ _).2.2.2⟩
      | exact (HQ.out _ _).2 ⟨⟨_, _, _, ⟨_, _, _, _, _, _, _, _, _, _, _, _, _, _, _, _, _, _, _, _, _, _, _, _, _, _, _, _, rfl⟩, GrC.start (three w _ _ _).1 (three w _ _ _).2.2.1 (three w _ _ _).2.1 (by omega) (by omega) (by omega) (by omega) (by omega)⟩, (three w _ _ _).2.2.2⟩
      | exact (HQ.out _ _).2 ⟨⟨_, _, _, ⟨_, _, _, _, _, _, _, _, _, _, _, _, _, _, _, _, _, _, _, _, _, _, _, _, _, _, _, _, rfl⟩, GrC.start (three w _ _ _).2.1 (three w _ _ _).1 (three w _ _ _).2.2.1 (by omega) (by omega) (by omega) (by omega) (by omega)⟩, (three w _ _ _).2.2.2⟩
      | exact (HQ.out _ _).2 ⟨⟨_, _, _, ⟨_, _, _, _, _, _, _, _, _, _, _, _, _, _, _, _, _, _, _, _, _, _, _, _, _, _, _, _, rfl⟩, GrC.start (three w _ _ _).2.1 (three w _ _ _).2.2.1 (three w _ _ _).1 (by omega) (by omega) (by omega) (by omega) (by omega)⟩, (three w _ _ _).2.2.2⟩
      | exact (HQ.out _ _).2 ⟨⟨_, _, _, ⟨_, _, _, _, _, _, _, _, _, _, _, _, _, _, _, _, _, _, _, _, _, _, _, _, _, _, _, _, rfl⟩, GrC.start (three w _ _ _).2.2.1 (three w _ _ _).1 (three w _ _ _).2.1 (by omega) (by omega) (by omega) (by omega) (by omega)⟩, (three w _ _ _).2.2.2⟩
      | exact (HQ.out _ _).2 ⟨⟨_, _, _, ⟨_, _, _, _, _, _, _, _, _, _, _, _, _, _, _, _, _, _, _, _, _, _, _, _, _, _, _, _, rfl⟩, GrC.start (three w _ _ _).2.2.1 (three w _ _ _).2.1 (three w _ _ _).1 (by omega) (by omega) (by omega) (by omega) (by omega)⟩, (three w _ _ _).2.2.2⟩)
  · intro ex a' W2 hq2
    have hex : ex = .normal := by cases ex <;> first | rfl | exact (hq2 : False).elim
    subst hex
    obtain ⟨⟨G2, gO, gI, ⟨s1, s4, s5, s6, s7, s8, s9, s10, s11, s12, s13, s14, s15, s16, s17, s18, s19, s20, s21, s22, s23, s24, s25, s26, s27, s28, s29, s30, rfl⟩, us0, is0, hg0⟩, hB0⟩ := (HQ.out _ _).1 hq2
    clear hq2 HQ
    have HB := Lib.hid hB0; clear hB0
    have hz0 := HB.out.size
    have HG := Lib.hid hg0; clear hg0
    have hd0 := cell_keep T.out.2.2 HB.out
    go_wp2_with fail
    go_loopw [18] (fun i W => ∃ (k : Nat) (vE : Value) (us is : List Value), i = .int .i64 k ∧ k ≤ l.length ∧ Hid (GrC W w.heap.size G2 vE (.slice (some ⟨gO, 0, none⟩) N N) (.slice (some ⟨gI, 0, none⟩) N N) (back (l.take k)) us is (outsL (back (l.take k)) N) (outsL (back (back (l.take k))) N)) ∧ Hid (Below w.heap.size w W)) (fun i _ => l.length - (RowKit.intOf i).toNat)
    case atStart => exact ⟨0, _, us0, is0, rfl, by omega, HG.out, HB.out⟩
    case round =>
      obtain ⟨k, vE, us, is, rfl, hk, hg, hb⟩ := hrel
      clear HG HB hz0 hd0
      by_cases hlt : k < l.length
      · obtain ⟨ad, rfl, hc0, hc1, hc2⟩ := (T.out.2.1.below hb.out).at_ hlt
        have hs := Lib.hid (back_take l k hlt)
        have hmem := getD_mem_e l k hlt
        have hends := hF.ends _ hmem
        have hlb : (back (l.take k)).length ≤ 16384 := by rw [back_length, List.length_take]; omega
        generalize l.getD k (0, 0, 0) = x at hc0 hc1 hc2 hs hends hmem
        obtain ⟨x0, x1, x2⟩ := x
        have e0 : wr.cell? (ad.add (k * 3)) = some (.int .i64 x0) := hc0
        have e1 : wr.cell? ⟨(ad.add (k * 3)).block, (ad.add (k * 3)).off + 1, none⟩ = some (.int .i64 x1) := hc1
        have e2 : wr.cell? ⟨(ad.add (k * 3)).block, (ad.add (k * 3)).off + 2, none⟩ = some (.int .i64 x2) := hc2
        clear hc0 hc1 hc2
        dsimp only at hends
        have hga := Lib.hid (fun W (hB : Below wr.heap.size wr W) => by
          have hadd := add_next W w.heap.size G2 vE gO N gI N N (back (l.take k)) us is x1.toNat x0.toNat x2 (hg.out.below hB) (by omega) (by omega) (by omega) hlb (by have := hB.size; have := hb.out.size; omega)
          rw [show ((x0.toNat : Nat) : Int) = x0 by omega, show ((x1.toNat : Nat) : Int) = x1 by omega] at hadd
          exact hadd)
        have hbx := Lib.hid (show Below wr.heap.size wr (wr.alloc (.cells #[.int .i64 x1, .int .i64 x0, .int .i64 x2] 35)) from (Below.refl _ _).alloc (Nat.le_refl _) _)
        clear hends hmem
        go_wp2_with fail
        refine (hga.out _ hbx.out).mono ?_
        rintro e w2 ⟨rfl, hB2, vE', us', is', hg2⟩
        have hg2' := Lib.hid hg2; clear hg2
        have hB2' := Lib.hid (hb.out.trans ((hbx.out.mono hb.out.size).trans hB2)); clear hB2
        go_wp2_with fail
        go_roundw
        case rel =>
          refine ⟨k + 1, vE', us', is', by go_num, by omega, ?_, hB2'.out⟩
          rw [hs.out]
          exact hg2'.out
        case measure => simp [RowKit.intOf]; omega
      · have htk : l.take k = l := List.take_of_length_le (by omega)
        have hgl := hg.out
        rw [htk] at hgl
        have HGL := Lib.hid hgl
        clear hgl htk
        go_wp2_with fail
        go_ret
        exact ⟨hb.out, G2, rfl, HGL.out.done hF.back⟩
end Go.Proofs.YtabciepnbmliiaaDoor
