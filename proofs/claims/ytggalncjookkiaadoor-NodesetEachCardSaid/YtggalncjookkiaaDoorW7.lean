/- List, Min: ranges over the iterator. -/
import Derived.Test.YtggalncjookkiaaDoorW6
import Derived.RangeFuncBox
import Derived.RangeFuncWrites
namespace Go.Proofs.YtggalncjookkiaaDoor
open Go.RowKit Go.Lib Go.Shelf Nds
attribute [local go_sem] Oper.semAt_some

theorem eisz (p : Nat → Bool) : (ei p).length ≤ 4096 := by rw [ei_length]; exact els_length p

set_option maxRecDepth 100000 in
set_option maxHeartbeats 2000000 in
theorem list_any (p : Nat → Bool) (w : World) (hE : Env w) :
    Calls Tryd.prog 21 #[.agg (cells p)] w (Gives w (ei p)) := by
  have hel := els_length p
  obtain ⟨i0, hi, hz0, hz1, hz2⟩ := info_parts info_int
  have s1 := SetAt.new w p
  refine (callsIn_wide (n := 7)).1 ?_
  refine callsIn_of_wp_marks Tryd.func21 rfl trivial ?_ rfl
  simp only [Tryd.ntmps21, List.size_toArray, List.length_cons, List.length_nil, Nat.reduceAdd, Nat.reduceSub, Array.replicate_succ, Array.replicate_zero, List.push_toArray, List.append_toArray, List.nil_append, List.cons_append]
  gi_wp2_with (first
    | refine wpListIn_load_set _ _ _ rfl rfl rfl s1 ?_
    | (refine ⟨trivial, ?_⟩; gi_at_call 19; refine (callsIn_wide.2 (len_any p _)).mono ?_; rintro e w2 ⟨rfl, b2⟩)
    | (refine wpListIn_make_own _ rfl _ _ 22 rfl w.heap.size 3 i0 (.int .i64 0) 1 ups hi hz0 hz1 .i64 .i64 _ (els p).length rfl rfl rfl (by rw [hz2]; omega) (by unfold maxLen; omega) (by have := b2.size; simp at this; omega) ?_; intro w3 hown3 hg3; have s3 : SetAt (w3.alloc (.cells #[.slice (some ⟨w2.heap.size, 0, none⟩) 0 (els p).length] 22)) w.heap.size p := SetAt.alloc (show SetAt w3 w.heap.size p from (hg3.block _ (s1.below b2 s1.lt).lt (by simp)).trans (s1.below b2 s1.lt)) _)
    | refine wpListIn_load_set _ _ _ rfl rfl rfl s3 ?_
    | (refine ⟨trivial, ?_⟩; gi_at_call 33; refine (callsIn_wide.2 (each_any p _)).mono ?_; rintro e w4 ⟨rfl, rfl⟩))
  have hsz := hE.size
  have hz2' := b2.size
  simp only [World.size_alloc] at hz2'
  have hz3 := hg3.size
  have B2 : Below w.heap.size w w2 := ((Below.refl _ w).alloc (Nat.le_refl _) _).trans (b2.mono (by simp))
  have B3 : Below w.heap.size w w3 := B2.grown hg3 (by omega) (fun k e => by cases e)
  have B5 : Below w.heap.size w ((w3.alloc (.cells #[.slice (some ⟨w2.heap.size, 0, none⟩) 0 (els p).length] 22)).alloc (.cells (cells p) 28)) := (B3.alloc (by omega) _).alloc (by simp; omega) _
  have bO : Boxed ((w3.alloc (.cells #[.slice (some ⟨w2.heap.size, 0, none⟩) 0 (els p).length] 22)).alloc (.cells (cells p) 28)) w3.heap.size 22 (.slice (some ⟨w2.heap.size, 0, none⟩) 0 (els p).length) := (Boxed.new w3 22 _).alloc _
  have s5 : SetAt ((w3.alloc (.cells #[.slice (some ⟨w2.heap.size, 0, none⟩) 0 (els p).length] 22)).alloc (.cells (cells p) 28)) (w3.heap.size + 1) p := by have := SetAt.new (w3.alloc (.cells #[.slice (some ⟨w2.heap.size, 0, none⟩) 0 (els p).length] 22)) p; simpa using this
  refine wpIn_rangeFunc_ownG rfl (by decide) (gf := 42) (lb := #[.pointer (some ⟨w3.heap.size + 1, 0, none⟩)]) rfl trivial (enters_of Tryd.func42 (by kernel_rfl) rfl)
    (each_stops 6 (by omega) (w3.heap.size + 1) w.heap.size p _ s5 (TabAt.below hE.db B5 (by omega)) hsz (by simp; omega)) belowK_t (belowK_b (by simp; omega)) (Below.refl _ _) (fun _ => rfl)
    (fun (pre : List Int) W => (∃ v, Boxed W w3.heap.size 22 v ∧ W.ownsRow w.heap.size 3 1 v pre.length (pre.map (Value.int .i64)) ∧ True) ∧ Below w.heap.size w W)
    (fun _ _ _ => False)
    (OwnFrom.and (Own.from (holdsRow_own w.heap.size w3.heap.size 22 3 1 (fun (pre : List Int) => pre.length) (fun (pre : List Int) => pre.map (Value.int .i64)) (fun _ _ => True)) _) (ownFrom_below (Nat.le_refl _) (by simp; omega)))
    (fun _ _ _ _ _ hs _ _ => hs)
    ⟨⟨_, bO, (hown3.alloc _).alloc _, trivial⟩, B5⟩
    (fun x => { tmps := #[.agg (cells p), .pointer (some ⟨w.heap.size, 0, none⟩), .slice none 0 0, .pointer (some ⟨w3.heap.size, 0, none⟩), .int .i64 x, .agg (cells p), .int .i64 (els p).length, .slice (some ⟨w2.heap.size, 0, none⟩) 0 (els p).length, .agg (cells p), .func (.func 42) #[] #[.pointer (some ⟨w3.heap.size + 1, 0, none⟩)], .int .i64 x, undef, undef, undef, undef, undef], defers := [] }) ?assign ?body ?done ?stop
  case assign =>
    intro l x W K hK
    gi_wp2
    exact hK
  case body =>
    rintro l pre x W ⟨⟨v, hv, hrow, _⟩, hB⟩ hlt
    have hc := hv.cell
    have hpl := eisz p
    have hBs := hB.size
    gi_wp2_with (gi_at_builtin; refine wpListIn_append_own _ rfl _ _ 22 rfl w.heap.size 3 i0 (.int .i64 0) 1 8 ups hi hz0 hz1 hz2 rfl (by decide) _ _ _ rfl (hrow.alloc _) ⟨W.heap.size, 0, none⟩ 1 1 [.int .i64 x] rfl rfl (cell_one_new _ _ _) (by simp [Value.oneCell']) (by unfold maxLen; omega) (by omega) (by simp; omega) ?_; intro v' w1 hown' hgrow _; obtain ⟨g', cap', rfl⟩ := ownsRow_succ hown'; obtain ⟨hv1, hv2, hr2, hk2, hb2⟩ := hv.appended (by decide) hrow hB.size (by omega) hown' hgrow; have hc1 := hv1.cell; have hf1 := hv1.frozen)
    exact ⟨hk2.from _, hb2, ⟨_, hv2, by simpa using hr2, trivial⟩, hB.trans hb2⟩
  case done =>
    rintro D ys W hD rfl ⟨⟨v, hv, hrow, _⟩, hB⟩ hK
    have hc := hv.cell
    gi_wp2
    refine ⟨by simp, .inl ⟨_, _, rfl, run_takeDeferred hK, ?_⟩⟩
    refine ⟨_, results_tmp rfl _ _ _, ?_⟩
    show Gives w (ei p) (.returned v) _
    exact OwnI.gives (ownsRow_putObj hrow _ hK rfl) (hB.trans (belowK_b (w := w) (Nat.le_refl _) W D _ _ (by simp at hD; omega) hK rfl rfl))
  case stop =>
    rintro D c pre W _ _ h _
    exact h.elim

/-- The smallest of an ascending list. -/
def least : List Int → Int × Bool
  | [] => (0, false)
  | x :: _ => (x, true)

set_option maxRecDepth 100000 in
set_option maxHeartbeats 2000000 in
theorem min_any (p : Nat → Bool) (w : World) (hE : Env w) :
    Calls Tryd.prog 36 #[.agg (cells p)] w fun e w' => e = .returned (.tuple #[.int .i64 (least (ei p)).1, .bool (least (ei p)).2]) ∧ Below w.heap.size w w' := by
  have hsz := hE.size
  have s3 : SetAt (((w.alloc (.cells (cells p) 28)).alloc (.cells #[.int .i64 0] 3)).alloc (.cells #[.bool false] 4)) w.heap.size p := ((SetAt.new w p).alloc _).alloc _
  refine (callsIn_wide (n := 7)).1 ?_
  refine callsIn_of_wp_marks Tryd.func36 rfl trivial ?_ rfl
  simp only [Tryd.ntmps36, List.size_toArray, List.length_cons, List.length_nil, Nat.reduceAdd, Nat.reduceSub, Array.replicate_succ, Array.replicate_zero, List.push_toArray, List.append_toArray, List.nil_append, List.cons_append]
  gi_wp2_with (first
    | refine wpListIn_load_set _ _ _ rfl rfl rfl s3 ?_
    | (refine ⟨trivial, ?_⟩; gi_at_call 33; refine (callsIn_wide.2 (each_any p _)).mono ?_; rintro e w4 ⟨rfl, rfl⟩))
  have B5 : Below w.heap.size w ((((w.alloc (.cells (cells p) 28)).alloc (.cells #[.int .i64 0] 3)).alloc (.cells #[.bool false] 4)).alloc (.cells (cells p) 28)) := ((((Below.refl _ w).alloc (Nat.le_refl _) _).alloc (by simp) _).alloc (by simp; omega) _).alloc (by simp; omega) _
  have b1 : Boxed ((((w.alloc (.cells (cells p) 28)).alloc (.cells #[.int .i64 0] 3)).alloc (.cells #[.bool false] 4)).alloc (.cells (cells p) 28)) (w.heap.size + 1) 3 (.int .i64 0) := by
    have := Boxed.new (w.alloc (.cells (cells p) 28)) 3 (.int .i64 0)
    rw [World.size_alloc] at this
    exact (this.alloc _).alloc _
  have b2 : Boxed ((((w.alloc (.cells (cells p) 28)).alloc (.cells #[.int .i64 0] 3)).alloc (.cells #[.bool false] 4)).alloc (.cells (cells p) 28)) (w.heap.size + 1 + 1) 4 (.bool false) := by
    have := Boxed.new ((w.alloc (.cells (cells p) 28)).alloc (.cells #[.int .i64 0] 3)) 4 (.bool false)
    simp only [World.size_alloc] at this
    exact this.alloc _
  have s5 : SetAt ((((w.alloc (.cells (cells p) 28)).alloc (.cells #[.int .i64 0] 3)).alloc (.cells #[.bool false] 4)).alloc (.cells (cells p) 28)) (w.heap.size + 1 + 1 + 1) p := by have := SetAt.new (((w.alloc (.cells (cells p) 28)).alloc (.cells #[.int .i64 0] 3)).alloc (.cells #[.bool false] 4)) p; simpa using this
  refine wpIn_rangeFunc_ownG rfl (by decide) (gf := 42) (lb := #[.pointer (some ⟨w.heap.size + 1 + 1 + 1, 0, none⟩)]) rfl trivial (enters_of Tryd.func42 (by kernel_rfl) rfl)
    (each_stops 6 (by omega) (w.heap.size + 1 + 1 + 1) w.heap.size p _ s5 (TabAt.below hE.db B5 (by omega)) hsz (by simp; omega)) belowK_t (belowK_b (by simp; omega)) (Below.refl _ _) (fun _ => rfl)
    (fun (pre : List Int) W => (pre = [] ∧ (Boxed W (w.heap.size + 1) 3 (.int .i64 0) ∧ Boxed W (w.heap.size + 1 + 1) 4 (.bool false))) ∧ Below w.heap.size w W)
    (fun c (pre : List Int) W => (c = .ret ∧ (Boxed W (w.heap.size + 1) 3 (.int .i64 (least pre).1) ∧ Boxed W (w.heap.size + 1 + 1) 4 (.bool true) ∧ (least pre).2 = true)) ∧ Below w.heap.size w W)
    (OwnFrom.and (OwnFrom.and (ownFrom_pure _ _) (OwnFrom.and (Own.from (boxed_own _ _ _) _) (Own.from (boxed_own _ _ _) _))) (ownFrom_below (Nat.le_refl _) (by simp; omega)))
    (fun c => OwnFrom.and (OwnFrom.and (ownFrom_pure _ _) (OwnFrom.and (Own.from (boxed_own _ _ fun (pre : List Int) => Value.int .i64 (least pre).1) _) (OwnFrom.and (Own.from (boxed_own _ _ _) _) (ownFrom_pure _ _)))) (ownFrom_below (Nat.le_refl _) (by simp; omega)))
    ⟨⟨rfl, b1, b2⟩, B5⟩
    (fun x => { tmps := #[.agg (cells p), .pointer (some ⟨w.heap.size, 0, none⟩), .pointer (some ⟨w.heap.size + 1, 0, none⟩), .pointer (some ⟨w.heap.size + 1 + 1, 0, none⟩), .int .i64 x, .agg (cells p), .func (.func 42) #[] #[.pointer (some ⟨w.heap.size + 1 + 1 + 1, 0, none⟩)], .int .i64 x, undef], defers := [] }) ?assign ?body ?done ?stop
  case assign =>
    intro l x W K hK
    gi_wp2
    exact hK
  case body =>
    rintro l pre x W ⟨⟨rfl, hv1, hv2⟩, hB⟩ hlt
    have hc1 := hv1.cell
    have hc2 := hv2.cell
    have hf1 := hv1.frozen
    have hf2 := hv2.frozen
    gi_wp2
    exact ⟨((KeepsOthers.setCell _ _ _).trans (KeepsOthers.setCell _ _ _)).from _, ⟨rfl, (hv1.set _).other (by omega) _, (hv2.other (by omega) _).set _, rfl⟩, (hB.setCell (p := ⟨w.heap.size + 1, 0, none⟩) (by simp) _).setCell (p := ⟨w.heap.size + 1 + 1, 0, none⟩) (by simp; omega) _⟩
  case done =>
    rintro D ys W hD rfl ⟨⟨hnil, hv1, hv2⟩, hB⟩ hK
    have hc1 := hv1.cell
    have hc2 := hv2.cell
    have hf1 := hv1.frozen
    have hf2 := hv2.frozen
    have HN := Lib.hid hnil; clear hnil
    gi_wp2
    have hK1 := (KeepsOthers.setCell W ⟨w.heap.size + 1, 0, none⟩ (.int .i64 0)).same D _ hK rfl
    have hK2 := (KeepsOthers.setCell _ ⟨w.heap.size + 1 + 1, 0, none⟩ (.bool false)).same D _ hK1 rfl
    have g1 := (hv1.set (.int .i64 0)).other (B' := w.heap.size + 1 + 1) (by omega) (.bool false)
    have g2 := (hv2.other (B' := w.heap.size + 1) (by omega) (.int .i64 0)).set (.bool false)
    refine ⟨by simp, .inl ⟨_, _, rfl, run_takeDeferred hK2, ?_⟩⟩
    have q1 := cell_kept g1.cell (grownBy_putObj' _ D (.deferred none)) (fun r e => by cases e; exact ⟨_, hK2, rfl⟩)
    have q2 := cell_kept g2.cell (grownBy_putObj' _ D (.deferred none)) (fun r e => by cases e; exact ⟨_, hK2, rfl⟩)
    refine ⟨.tuple #[.int .i64 0, .bool false], ?_, ?_, ((hB.setCell (p := ⟨w.heap.size + 1, 0, none⟩) (by simp) _).setCell (p := ⟨w.heap.size + 1 + 1, 0, none⟩) (by simp; omega) _).trans (belowK_b (w := w) (Nat.le_refl _) _ D _ _ (by simp at hD; omega) hK2 rfl rfl)⟩
    · simp [results, Tryd.f36, go_sem, q1, q2]
    · rw [HN.out]; rfl
  case stop =>
    rintro D c pre W hD hpre ⟨⟨rfl, hv1, hv2, hl⟩, hB⟩ hK
    have HP := Lib.hid hpre; clear hpre
    have HL := Lib.hid hl; clear hl
    gi_wp2
    refine ⟨by simp, .inl ⟨_, _, rfl, run_takeDeferred hK, ?_⟩⟩
    have q1 := cell_kept hv1.cell (grownBy_putObj' _ D (.deferred none)) (fun r e => by cases e; exact ⟨_, hK, rfl⟩)
    have q2 := cell_kept hv2.cell (grownBy_putObj' _ D (.deferred none)) (fun r e => by cases e; exact ⟨_, hK, rfl⟩)
    refine ⟨.tuple #[.int .i64 (least pre).1, .bool true], ?_, ?_, hB.trans (belowK_b (w := w) (Nat.le_refl _) W D _ _ (by simp at hD; omega) hK rfl rfl)⟩
    · simp [results, Tryd.f36, go_sem, q1, q2]
    · obtain ⟨r, hr⟩ := HP.out
      have h2 := HL.out
      match pre, h2 with
      | x :: t, _ => rw [← hr]; rfl

end Go.Proofs.YtggalncjookkiaaDoor
