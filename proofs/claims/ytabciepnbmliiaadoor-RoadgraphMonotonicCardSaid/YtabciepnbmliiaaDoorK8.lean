/- New: walk. -/
import Derived.Test.YtabciepnbmliiaaDoorK7
set_option linter.unusedVariables false
set_option linter.unusedSimpArgs false
set_option maxRecDepth 100000
namespace Go.Proofs.YtabciepnbmliiaaDoor
open Go.RowKit Go.Lib Go.Shelf Rg

/-- What New gives. -/
def NewGives (w : World) (N : Int) (l : List Ed3) (e : Ending) (w' : World) : Prop :=
  Below w.heap.size w w' ∧ ((wrong N l ≠ 0 ∧ e = .returned (.tuple #[.pointer none, .int .i64 (wrong N l)])) ∨
    (wrong N l = 0 ∧ ∃ G, e = .returned (.tuple #[.pointer (some ⟨G, 0, none⟩), .int .i64 0]) ∧ GrP w' w.heap.size w'.heap.size G N.toNat l))
theorem fair_of {N : Nat} {l : List Ed3} (h : wrong (N : Int) l = 0) : FairR N l := fair_iff.1 h
theorem edgeOk_of {N x0 x1 x2 : Int} (h0 : 0 ≤ x0 ∧ x0 < N) (h1 : 0 ≤ x1 ∧ x1 < N) (h2 : (decide (x2 = inf) || decide (1 ≤ x2) && decide (x2 ≤ 1048576)) = true) : edgeOk N (x0, x1, x2) = true := by
  rw [edgeOk_iff]
  refine ⟨⟨h0.1, h0.2, h1.1, h1.2⟩, ?_⟩
  simpa using h2
theorem edgeOk_not {N x0 x1 x2 : Int} (h : ¬ (0 ≤ x0 ∧ x0 < N) ∨ ¬ (0 ≤ x1 ∧ x1 < N) ∨ (decide (x2 = inf) || decide (1 ≤ x2) && decide (x2 ≤ 1048576)) = false) : edgeOk N (x0, x1, x2) = false := by
  cases hc : edgeOk N (x0, x1, x2) with
  | false => rfl
  | true =>
    exfalso
    obtain ⟨⟨a, b, c, d⟩, e⟩ := edgeOk_iff.1 hc
    rcases h with h | h | h
    · exact h ⟨a, b⟩
    · exact h ⟨c, d⟩
    · simp at h
      simp only at e
      rcases e with e | e
      · exact h.1 e
      · have := h.2 e.1; omega

theorem three (w : World) (a b c : Obj) : (((w.alloc a).alloc b).alloc c).drew.heap[w.heap.size]? = some a ∧ (((w.alloc a).alloc b).alloc c).drew.heap[w.heap.size + 1]? = some b ∧ (((w.alloc a).alloc b).alloc c).drew.heap[w.heap.size + 1 + 1]? = some c ∧ Below w.heap.size w (((w.alloc a).alloc b).alloc c).drew := by
  have h1 := World.alloc_heap_new w a
  have h2 := World.alloc_heap_new (w.alloc a) b
  have h3 := World.alloc_heap_new ((w.alloc a).alloc b) c
  simp only [World.size_alloc] at h2 h3
  refine ⟨?_, ?_, h3, ((((Below.refl _ _).alloc (Nat.le_refl _) _).alloc (by simp) _).alloc (by simp; omega) _).drew⟩
  · exact (Below.heap_alloc _ _ _ (by simp; omega)).trans ((Below.heap_alloc _ _ _ (by simp)).trans h1)
  · exact (Below.heap_alloc _ _ _ (by simp)).trans h2
theorem new_err {w w' : World} {N k : Int} {l : List Ed3} (h : wrong N l = k) (hk : k ≠ 0) (hb : Below w.heap.size w w') : NewGives w N l (.returned (.tuple #[.pointer none, .int .i64 k])) w' := by
  subst h; exact ⟨hb, .inl ⟨hk, rfl⟩⟩
set_option maxHeartbeats 1000000 in
theorem new_any (A : Option Addr) (c n : Nat) (l : List Ed3) (N : Int) (w : World) (hr : Re w A n l) (hn : n ≤ 9223372036854775807) :
    Calls Tryd.prog 11 #[.int .i64 N, .slice A n c] w (NewGives w N l) := by
  have hl1 : n ≤ l.length := Nat.le_of_eq hr.1
  have hl2 : l.length ≤ n := Nat.le_of_eq hr.1.symm
  by_cases t1 : N < 1
  · have hw := Lib.hid (show wrong N l = 1 from by unfold wrong; rw [if_pos (.inl t1)])
    clear hr
    go_enter Tryd.func11, Tryd.ntmps11
    go_wp2
    go_ret2
    exact new_err hw.out (by decide) (Below.refl _ _)
  by_cases t2 : 4096 < N
  · have hw := Lib.hid (show wrong N l = 1 from by unfold wrong; rw [if_pos (.inr t2)])
    clear hr
    go_enter Tryd.func11, Tryd.ntmps11
    go_wp2
    go_ret2
    exact new_err hw.out (by decide) (Below.refl _ _)
  by_cases t3 : (16384 : Int) < (n : Int)
  · have hw := Lib.hid (show wrong N l = 3 from by unfold wrong; rw [if_neg (by omega), if_pos (by omega)])
    clear hr
    go_enter Tryd.func11, Tryd.ntmps11
    go_wp2
    go_ret2
    exact new_err hw.out (by decide) (Below.refl _ _)
  obtain ⟨Nn, rfl⟩ : ∃ k : Nat, N = (k : Int) := ⟨N.toNat, by omega⟩
  have hN1 : 1 ≤ Nn := by omega
  have hN2 : Nn ≤ 4096 := by omega
  have hmk := fun W => run_make_lists W Nn (by omega)
  have HR := Lib.hid hr; clear hr
  go_enter Tryd.func11, Tryd.ntmps11
  go_wp2_with fail
  obtain ⟨Qx, hQx⟩ : ∃ Qx : Act → World → Prop, ∀ a' w', Qx a' w' ↔ ((∃ G gO gI, (∃ s2 s3 s7 s8 s9 s10 s11 s12 s13 s14 s15 s16 s17 s18 s19 s20 s21 s22 s23 s24 s25 s26 s27 s28 s29 s30 s31 s32 s33 s34 s35 s36 s37 s38 s39 s40 s41 s42 s43 s44 s45 s46 s47, a' = { tmps := #[.int .i64 (Nn : Int), .slice A n c, s2, s3, .pointer none, .int .i64 0, .pointer (some ⟨G, 0, none⟩), s7, s8, s9, s10, s11, s12, s13, s14, s15, s16, s17, s18, s19, s20, s21, s22, s23, s24, s25, s26, s27, s28, s29, s30, s31, s32, s33, s34, s35, s36, s37, s38, s39, s40, s41, s42, s43, s44, s45, s46, s47], defers := [] }) ∧ ∃ us is, GrC w' w.heap.size G (.slice none 0 0) (.slice (some ⟨gO, 0, none⟩) Nn Nn) (.slice (some ⟨gI, 0, none⟩) Nn Nn) [] us is (outsL [] Nn) (outsL [] Nn)) ∧ Below w.heap.size w w') := ⟨_, fun _ _ => Iff.rfl⟩
  have HQ := Lib.hid hQx; clear hQx
  refine Code.wp_mono (Q := Exit.then Qx (fun _ _ _ => False)) ?_ ?_
  rotate_left
  · go_region
    all_goals (first
      | exact (HQ.out _ _).2 ⟨⟨_, _, _, ⟨_, _, _, _, _, _, _, _, _, _, _, _, _, _, _, _, _, _, _, _, _, _, _, _, _, _, _, _, _, _, _, _, _, _, _, _, _, _, _, _, _, _, _, rfl⟩, GrC.start (three w _ _ _).1 (three w _ _ _).2.1 (three w _ _ _).2.2.1 (by omega) (by omega) (by omega) (by omega) hN2⟩, (three w _ _ _).2.2.2⟩
      | exact (HQ.out _ _).2 ⟨⟨_, _, _, ⟨_, _, _, _, _, _, _, _, _, _, _, _, _, _, _, _, _, _, _, _, _, _, _, _, _, _, _, _, _, _, _, _, _, _, _, _, _, _, _, _, _, _, _, rfl⟩, GrC.start (three w _ _ _).1 (three w _ _ _).2.2.1 (three w _ _ _).2.1 (by omega) (by omega) (by omega) (by omega) hN2⟩, (three w _ _ _).2.2.2⟩
      | exact (HQ.out _ _).2 ⟨⟨_, _, _, ⟨_, _, _, _, _, _, _, _, _, _, _, _, _, _, _, _, _, _, _, _, _, _, _, _, _, _, _, _, _, _, _, _, _, _, _, _, _, _, _, _, _, _, _, rfl⟩, GrC.start (three w _ _ _).2.1 (three w _ _ _).1 (three w _ _ _).2.2.1 (by omega) (by omega) (by omega) (by omega) hN2⟩, (three w _ _ _).2.2.2⟩
      | exact (HQ.out _ _).2 ⟨⟨_, _, _, ⟨_, _, _, _, _, _, _, _, _, _, _, _, _, _, _, _, _, _, _, _, _, _, _, _, _, _, _, _, _, _, _, _, _, _, _, _, _, _, _, _, _, _, _, rfl⟩, GrC.start (three w _ _ _).2.1 (three w _ _ _).2.2.1 (three w _ _ _).1 (by omega) (by omega) (by omega) (by omega) hN2⟩, (three w _ _ _).2.2.2⟩
      | exact (HQ.out _ _).2 ⟨⟨_, _, _, ⟨_, _, _, _, _, _, _, _, _, _, _, _, _, _, _, _, _, _, _, _, _, _, _, _, _, _, _, _, _, _, _, _, _, _, _, _, _, _, _, _, _, _, _, rfl⟩, GrC.start (three w _ _ _).2.2.1 (three w _ _ _).1 (three w _ _ _).2.1 (by omega) (by omega) (by omega) (by omega) hN2⟩, (three w _ _ _).2.2.2⟩
      | exact (HQ.out _ _).2 ⟨⟨_, _, _, ⟨_, _, _, _, _, _, _, _, _, _, _, _, _, _, _, _, _, _, _, _, _, _, _, _, _, _, _, _, _, _, _, _, _, _, _, _, _, _, _, _, _, _, _, rfl⟩, GrC.start (three w _ _ _).2.2.1 (three w _ _ _).2.1 (three w _ _ _).1 (by omega) (by omega) (by omega) (by omega) hN2⟩, (three w _ _ _).2.2.2⟩)
  · intro ex a' W2 hq2
    have hex : ex = .normal := by cases ex <;> first | rfl | exact (hq2 : False).elim
    subst hex
    obtain ⟨⟨G, gO, gI, ⟨s2, s3, s7, s8, s9, s10, s11, s12, s13, s14, s15, s16, s17, s18, s19, s20, s21, s22, s23, s24, s25, s26, s27, s28, s29, s30, s31, s32, s33, s34, s35, s36, s37, s38, s39, s40, s41, s42, s43, s44, s45, s46, s47, rfl⟩, us0, is0, hg0⟩, hB0⟩ := (HQ.out _ _).1 hq2
    clear hq2 HQ
    have HB := Lib.hid hB0; clear hB0
    have hz0 := HB.out.size
    have HG := Lib.hid hg0; clear hg0
    go_wp2_with fail
    go_loopw [25] (fun i W => ∃ (k : Nat) (vE : Value) (us is : List Value), i = .int .i64 k ∧ k ≤ n ∧ Hid (GrC W w.heap.size G vE (.slice (some ⟨gO, 0, none⟩) Nn Nn) (.slice (some ⟨gI, 0, none⟩) Nn Nn) (l.take k) us is (outsL (l.take k) Nn) (outsL (back (l.take k)) Nn)) ∧ Hid ((l.take k).all (edgeOk (Nn : Int)) = true) ∧ Hid (Below w.heap.size w W)) (fun i _ => n - (RowKit.intOf i).toNat)
    case atStart => exact ⟨0, _, us0, is0, rfl, by omega, HG.out, by show (l.take 0).all _ = true; simp, HB.out⟩
    case round =>
      obtain ⟨k, vE, us, is, rfl, hk, hg, hall, hb⟩ := hrel
      clear HG HB hz0
      by_cases hlt : k < n
      · obtain ⟨ad, rfl, hc0, hc1, hc2⟩ := (HR.out.below hb.out).at_ hlt
        have hs := Lib.hid (take_next_e l k (by omega))
        have hbad := Lib.hid (fun (hb : edgeOk (Nn : Int) (l.getD k (0, 0, 0)) = false) => wrong_at (N := (Nn : Int)) (l := l) (k := k) (by omega) (by omega) (by omega) (by omega) rfl hb)
        generalize l.getD k (0, 0, 0) = x at hc0 hc1 hc2 hs hbad
        obtain ⟨x0, x1, x2⟩ := x
        have e0 : wr.cell? (ad.add (k * 3)) = some (.int .i64 x0) := hc0
        have e1 : wr.cell? ⟨(ad.add (k * 3)).block, (ad.add (k * 3)).off + 1, none⟩ = some (.int .i64 x1) := hc1
        have e2 : wr.cell? ⟨(ad.add (k * 3)).block, (ad.add (k * 3)).off + 2, none⟩ = some (.int .i64 x2) := hc2
        have ba : Below wr.heap.size wr (wr.alloc (.cells #[.int .i64 x0, .int .i64 x1, .int .i64 x2] 35)) := (Below.refl _ _).alloc (Nat.le_refl _) _
        have hga := Lib.hid (hg.out.below ba)
        have hd1 := hga.out.head.2.1
        have hb1 := Lib.hid (hb.out.alloc hb.out.size (.cells #[.int .i64 x0, .int .i64 x1, .int .i64 x2] 35))
        clear hc0 hc1 hc2 ba
        have HN1 := Lib.hid (fun h => edgeOk_not (N := (Nn : Int)) (x0 := x0) (x1 := x1) (x2 := x2) h)
        by_cases u0 : 0 ≤ x0 ∧ x0 < (Nn : Int)
        · by_cases u1 : 0 ≤ x1 ∧ x1 < (Nn : Int)
          · cases u2 : (decide (x2 = inf) || decide (1 ≤ x2) && decide (x2 ≤ 1048576)) with
            | true =>
              have d0 : decide (0 ≤ x0 ∧ x0 < (Nn : Int)) = true := decide_eq_true u0
              have d1 : decide (0 ≤ x1 ∧ x1 < (Nn : Int)) = true := decide_eq_true u1
              have hok := Lib.hid (edgeOk_of u0 u1 u2)
              have hadd := add_next _ w.heap.size G vE gO Nn gI Nn Nn (l.take k) us is x0.toNat x1.toNat x2 hga.out (by omega) (by omega) hN2 (by rw [List.length_take]; omega) hb1.out.size
              rw [show ((x0.toNat : Nat) : Int) = x0 by omega, show ((x1.toNat : Nat) : Int) = x1 by omega] at hadd
              have hT := fun W => isTime_any x2 W
              rw [u2] at hT
              have HA := Lib.hid hadd; clear hadd
              have HT := Lib.hid hT; clear hT
              clear u0 u1 u2 hbad HN1 hga
              go_wp2_with (first
                | (go_at_call_of 37 (Value.int IntKind.i64 x0); refine (gisNode_any _ _ _ _ _ _ hd1).mono ?_; rintro e w2 ⟨rfl, rfl⟩)
                | (go_at_call_of 37 (Value.int IntKind.i64 x1); refine (gisNode_any _ _ _ _ _ _ hd1).mono ?_; rintro e w2 ⟨rfl, rfl⟩)
                | (go_at_call 38; refine (HT.out _).mono ?_; rintro e w2 ⟨rfl, rfl⟩)
                | (go_at_call 39; refine HA.out.mono ?_; rintro e w2 ⟨rfl, hB2, vE', us', is', hg2⟩; have hg2' := Lib.hid hg2; clear hg2; have hB2' := Lib.hid hB2; clear hB2))
              go_roundw
              case rel =>
                refine ⟨k + 1, vE', us', is', by go_num, by omega, ?_, ?_, hb1.out.trans hB2'.out⟩
                · rw [hs.out]; exact hg2'.out
                · show (l.take (k + 1)).all _ = true
                  rw [hs.out, List.all_append, hall.out]; simpa using hok.out
              case measure => simp [RowKit.intOf]; omega
            | false =>
              have d0 : decide (0 ≤ x0 ∧ x0 < (Nn : Int)) = true := decide_eq_true u0
              have d1 : decide (0 ≤ x1 ∧ x1 < (Nn : Int)) = true := decide_eq_true u1
              have hw := Lib.hid (hbad.out (HN1.out (.inr (.inr u2))))
              have hT := fun W => isTime_any x2 W
              rw [u2] at hT
              have HT := Lib.hid hT; clear hT
              clear u0 u1 u2 hbad HN1 hga
              go_wp2_with (first
                | (go_at_call_of 37 (Value.int IntKind.i64 x0); refine (gisNode_any _ _ _ _ _ _ hd1).mono ?_; rintro e w2 ⟨rfl, rfl⟩)
                | (go_at_call_of 37 (Value.int IntKind.i64 x1); refine (gisNode_any _ _ _ _ _ _ hd1).mono ?_; rintro e w2 ⟨rfl, rfl⟩)
                | (go_at_call 38; refine (HT.out _).mono ?_; rintro e w2 ⟨rfl, rfl⟩))
              go_ret2
              exact new_err hw.out (by decide) hb1.out
          · have d0 : decide (0 ≤ x0 ∧ x0 < (Nn : Int)) = true := decide_eq_true u0
            have d1 : decide (0 ≤ x1 ∧ x1 < (Nn : Int)) = false := decide_eq_false u1
            have hw := Lib.hid (hbad.out (HN1.out (.inr (.inl u1))))
            clear u0 u1 hbad HN1 hga
            go_wp2_with (first
              | (go_at_call_of 37 (Value.int IntKind.i64 x0); refine (gisNode_any _ _ _ _ _ _ hd1).mono ?_; rintro e w2 ⟨rfl, rfl⟩)
              | (go_at_call_of 37 (Value.int IntKind.i64 x1); refine (gisNode_any _ _ _ _ _ _ hd1).mono ?_; rintro e w2 ⟨rfl, rfl⟩))
            go_ret2
            exact new_err hw.out (by decide) hb1.out
        · have d0 : decide (0 ≤ x0 ∧ x0 < (Nn : Int)) = false := decide_eq_false u0
          have hw := Lib.hid (hbad.out (HN1.out (.inl u0)))
          clear u0 hbad HN1 hga
          go_wp2_with (go_at_call 37; refine (gisNode_any _ _ _ _ _ _ hd1).mono ?_; rintro e w2 ⟨rfl, rfl⟩)
          go_ret2
          exact new_err hw.out (by decide) hb1.out
      · have htk : l.take k = l := List.take_of_length_le (by omega)
        have hall' := hall.out
        rw [htk] at hall'
        have hw := Lib.hid (wrong_none (N := (Nn : Int)) (l := l) (by omega) (by omega) (by omega) hall')
        have hgl := hg.out
        rw [htk] at hgl
        have HGL := Lib.hid hgl
        clear hgl hall' htk
        go_wp2_with fail
        go_ret2
        exact ⟨hb.out, .inr ⟨hw.out, G, rfl, HGL.out.done (fair_of hw.out)⟩⟩
end Go.Proofs.YtabciepnbmliiaaDoor
