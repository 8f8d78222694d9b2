/- List, Min: ranges over the iterator. -/
import Derived.Test.YtabciepnbmliiaaDoorN6
import Derived.RangeFuncBox
import Derived.RangeFuncWrites
set_option linter.unusedVariables false
set_option linter.unusedSimpArgs false
namespace Go.Proofs.YtabciepnbmliiaaDoor
open Go.RowKit Go.Lib Go.Shelf Nds
attribute [local go_sem] Oper.semAt_some

theorem eisz (p : Nat → Bool) : (ei p).length ≤ 4096 := by rw [ei_length]; exact els_length p

set_option maxRecDepth 100000 in
set_option maxHeartbeats 2000000 in
theorem list_any (p : Nat → Bool) (w : World) (hE : Env w) :
    Calls Tryd.prog 27 #[.agg (cells p)] w (Gives w (ei p)) := by
  have hel := els_length p
  obtain ⟨i0, hi, hz0, hz1, hz2⟩ := info_parts info_int
  have s1 := SetAt.new w p
  refine (callsIn_wide (n := 7)).1 ?_
  refine callsIn_of_wp_marks Tryd.func27 rfl trivial ?_ rfl
  simp only [Tryd.ntmps27, List.size_toArray, List.length_cons, List.length_nil, Nat.reduceAdd, Nat.reduceSub, Array.replicate_succ, Array.replicate_zero, List.push_toArray, List.append_toArray, List.nil_append, List.cons_append]
  gi_wp2_with (first
    | refine wpListIn_load_set _ _ _ rfl rfl rfl s1 ?_
    | (refine ⟨trivial, ?_⟩; gi_at_call 32; refine (callsIn_wide.2 (len_any p _)).mono ?_; rintro e w2 ⟨rfl, b2⟩)
    | (refine wpListIn_make_own _ rfl _ _ 42 rfl w.heap.size 3 i0 (.int .i64 0) 1 ups hi hz0 hz1 .i64 .i64 _ (els p).length rfl rfl rfl (by rw [hz2]; omega) (by unfold maxLen; omega) (by have := b2.size; simp at this; omega) ?_; intro w3 hown3 hg3; have s3 : SetAt (w3.alloc (.cells #[.slice (some ⟨w2.heap.size, 0, none⟩) 0 (els p).length] 42)) w.heap.size p := SetAt.alloc (show SetAt w3 w.heap.size p from (hg3.block _ (s1.below b2 s1.lt).lt (by simp)).trans (s1.below b2 s1.lt)) _)
    | refine wpListIn_load_set _ _ _ rfl rfl rfl s3 ?_
    | (refine ⟨trivial, ?_⟩; gi_at_call 43; refine (callsIn_wide.2 (each_any p _)).mono ?_; rintro e w4 ⟨rfl, rfl⟩))
  have hsz := hE.size
  have hz2' := b2.size
  simp only [World.size_alloc] at hz2'
  have hz3 := hg3.size
  have B2 : Below w.heap.size w w2 := ((Below.refl _ w).alloc (Nat.le_refl _) _).trans (b2.mono (by simp))
  have B3 : Below w.heap.size w w3 := B2.grown hg3 (by omega) (fun k e => by cases e)
  have B5 : Below w.heap.size w ((w3.alloc (.cells #[.slice (some ⟨w2.heap.size, 0, none⟩) 0 (els p).length] 42)).alloc (.cells (cells p) 53)) := (B3.alloc (by omega) _).alloc (by simp; omega) _
  have bO : Boxed ((w3.alloc (.cells #[.slice (some ⟨w2.heap.size, 0, none⟩) 0 (els p).length] 42)).alloc (.cells (cells p) 53)) w3.heap.size 42 (.slice (some ⟨w2.heap.size, 0, none⟩) 0 (els p).length) := (Boxed.new w3 42 _).alloc _
  have s5 : SetAt ((w3.alloc (.cells #[.slice (some ⟨w2.heap.size, 0, none⟩) 0 (els p).length] 42)).alloc (.cells (cells p) 53)) (w3.heap.size + 1) p := by have := SetAt.new (w3.alloc (.cells #[.slice (some ⟨w2.heap.size, 0, none⟩) 0 (els p).length] 42)) p; simpa using this
  refine wpIn_rangeFunc_ownG rfl (by decide) (gf := 54) (lb := #[.pointer (some ⟨w3.heap.size + 1, 0, none⟩)]) rfl trivial (enters_of Tryd.func54 (by kernel_rfl) rfl)
    (each_stops 6 (by omega) (w3.heap.size + 1) w.heap.size p _ s5 (TabAt.below hE.db B5 (by omega)) hsz (by first | (simp; done) | (simp; omega))) belowK_t (belowK_b (by simp; omega)) (Below.refl _ _) (fun _ => rfl)
    (fun (pre : List Int) W => (∃ v, Boxed W w3.heap.size 42 v ∧ W.ownsRow w.heap.size 3 1 v pre.length (pre.map (Value.int .i64)) ∧ True) ∧ Below w.heap.size w W)
    (fun _ _ _ => False)
    (OwnFrom.and (Own.from (holdsRow_own w.heap.size w3.heap.size 42 3 1 (fun (pre : List Int) => pre.length) (fun (pre : List Int) => pre.map (Value.int .i64)) (fun _ _ => True)) _) (ownFrom_below (Nat.le_refl _) (by simp; omega)))
    (fun _ _ _ _ _ hs _ _ => hs)
    ⟨⟨_, bO, (hown3.alloc _).alloc _, trivial⟩, B5⟩
    (fun x => { tmps := #[.agg (cells p), .pointer (some ⟨w.heap.size, 0, none⟩), .slice none 0 0, .pointer (some ⟨w3.heap.size, 0, none⟩), .int .i64 x, .agg (cells p), .int .i64 (els p).length, .slice (some ⟨w2.heap.size, 0, none⟩) 0 (els p).length, .agg (cells p), .func (.func 54) #[] #[.pointer (some ⟨w3.heap.size + 1, 0, none⟩)], .int .i64 x, undef, undef, undef, undef, undef], defers := [] }) ?assign ?body ?done ?stop
  case assign =>
    intro l x W K hK
    gi_wp2
    exact hK
  case body =>
    rintro l pre x W ⟨⟨v, hv, hrow, _⟩, hB⟩ hlt
    have hc := hv.cell
    have hpl := eisz p
    have hBs := hB.size
    gi_wp2_with (gi_at_builtin; refine wpListIn_append_own _ rfl _ _ 42 rfl w.heap.size 3 i0 (.int .i64 0) 1 8 ups hi hz0 hz1 hz2 rfl (by decide) _ _ _ rfl (hrow.alloc _) ⟨W.heap.size, 0, none⟩ 1 1 [.int .i64 x] rfl rfl (cell_one_new _ _ _) (by simp [Value.oneCell']) (by unfold maxLen; omega) (by omega) (by simp; omega) ?_; intro v' w1 hown' hgrow _; obtain ⟨g', cap', rfl⟩ := ownsRow_succ hown'; obtain ⟨hv1, hv2, hr2, hk2, hb2⟩ := hv.appended (by decide) hrow hB.size (by omega) hown' hgrow; have hc1 := hv1.cell; have hf1 := hv1.frozen)
    exact ⟨hk2.from _, hb2, ⟨_, hv2, by simpa using hr2, trivial⟩, hB.trans hb2⟩
  case done =>
    rintro D ys W hD rfl ⟨⟨v, hv, hrow, _⟩, hB⟩ hK
    have hc := hv.cell
    gi_wp2
    refine ⟨by simp, .inl ⟨_, _, rfl, run_takeDeferred hK, ?_⟩⟩
    refine ⟨_, results_tmp rfl _ _ _, ?_⟩
    show Gives w (ei p) (.returned v) _
    exact OwnI.gives (ownsRow_putObj hrow _ hK rfl) (hB.trans (belowK_b (w := w) (Nat.le_refl _) W D _ _ (by simp at hD; omega) hK rfl rfl))
  case stop =>
    rintro D c pre W _ _ h _
    exact h.elim

/-- The smallest of an ascending list. -/
def least : List Int → Int × Bool
  | [] => (0, false)
  | x :: _ => (x, true)

end Go.Proofs.YtabciepnbmliiaaDoor
