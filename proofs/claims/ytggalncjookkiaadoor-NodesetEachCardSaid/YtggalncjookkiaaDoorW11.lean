/- The laws on Of, All and the operations: walks. -/
import Derived.Test.YtggalncjookkiaaDoorW10
namespace Go.Proofs.YtggalncjookkiaaDoor
open Go.RowKit Go.Lib Nds

theorem hasB_ei (p : Nat → Bool) (y : Int) : hasB p y = decide (y ∈ ei p) := by
  rw [Bool.eq_iff_iff, decide_eq_true_iff, mem_ei]
  unfold hasB
  rw [Bool.and_eq_true, decide_eq_true_iff]
  exact ⟨fun h => ⟨h.1.1, h.1.2, h.2⟩, fun h => ⟨⟨h.1, h.2.1⟩, h.2.2⟩⟩

theorem wpList_alloc_set_at {ops : Array Oper} {rest : List Oper} {o : Oper} {a : Act} {w : World} {Q : Exit → Act → World → Prop} (N : Nat) (hN : w.heap.size = N) (hgd : o.guard = none) (ho : o.op = .alloc 28)
    (h : wpList Tryd.prog ops Q rest (a.put o.dst (.pointer (some ⟨N, 0, none⟩))) (w.alloc (.cells (cells fun _ => false) 28))) : wpList Tryd.prog ops Q (o :: rest) a w := by
  subst hN; exact wpList_alloc_set hgd ho h

/-- The world behind 'x := <a set>': a new block holds it. -/
theorem newSet (w : World) (p : Nat → Bool) : SetAt ((w.alloc (.cells (cells fun _ => false) 28)).setRow w.heap.size (cells p)) w.heap.size p := (SetAt.new w _).row
theorem newSet_below {w0 w : World} (h : Below w0.heap.size w0 w) (p : Nat → Bool) : Below w0.heap.size w0 ((w.alloc (.cells (cells fun _ => false) 28)).setRow w.heap.size (cells p)) := below_setRow (h.alloc h.size _) h.size _
theorem newSet_keep {w : World} {g : Nat} {q : Nat → Bool} (h : SetAt w g q) (p : Nat → Bool) : SetAt ((w.alloc (.cells (cells fun _ => false) 28)).setRow w.heap.size (cells p)) g q := (setRow_other _ _ _ _ (by have := h.lt; omega)).trans (h.alloc _)
theorem newSet_next (w : World) (p : Nat → Bool) : Below w.heap.size w ((w.alloc (.cells (cells fun _ => false) 28)).setRow w.heap.size (cells p)) := newSet_below (Below.refl _ _) p

set_option maxRecDepth 100000 in
set_option maxHeartbeats 1000000 in
theorem lawOf (A : Option Addr) (c n : Nat) (xs : List Int) (y : Int) (w : World) (hE : Env w) (hr : Rd w A n xs) (hn : n ≤ 9223372036854775807) :
    Calls Tryd.prog 3 #[.slice A n c, .int .i64 y] w fun e w' => e = .returned (.bool true) ∧ Below w.heap.size w w' := by
  by_cases hg : 60 < n
  · have hd : decide (60 < n) = true := decide_eq_true hg
    go_enter Tryd.func3, Tryd.ntmps3
    go_wp2_with (go_at_call 10; refine (great_any _ _ _ _ hn).mono ?_; rintro e w' ⟨rfl, rfl⟩)
    refine (awake_any w hE).mono ?_
    rintro e w1 ⟨rfl, b1⟩
    go_wp2_with fail
    go_ret
    exact ⟨rfl, b1⟩
  · have hd : decide (60 < n) = false := decide_eq_false hg
    have hpl := eisz (ofP xs)
    have heq : (hasB (ofP xs) y == decide (y ∈ ei (ofP xs))) = true := by rw [hasB_ei]; simp
    have HEQ := Lib.hid heq; clear heq
    go_enter Tryd.func3, Tryd.ntmps3
    go_wp2_with (go_at_call 10; refine (great_any _ _ _ _ hn).mono ?_; rintro e w' ⟨rfl, rfl⟩)
    refine (of_any A c n xs w hr hn).mono ?_
    rintro e w1 ⟨rfl, b1⟩
    go_wp2_with fail
    refine (rof_any A c n xs w1 (hr.below b1) (by omega)).mono ?_
    rintro e w2 ⟨A2, c2, rfl, hr2, b2⟩
    have B2 := then_ b1 b2
    have h3 : SetAt (w2.alloc (.cells (cells fun _ => false) 28)) w2.heap.size (fun _ => false) := SetAt.new w2 _
    have h4 := newSet w2 (ofP xs)
    have B4 := newSet_below B2 (ofP xs)
    have hr4 := hr2.below (newSet_next w2 (ofP xs))
    generalize (els (ofP xs)) = q at hpl
    go_wp2_with (first | refine wpList_alloc_set rfl rfl ?_ | refine wpList_store_set _ _ _ _ _ rfl rfl rfl rfl h3 ?_ | refine wpList_load_set _ _ _ rfl rfl rfl h4 ?_)
    generalize (w2.alloc (.cells (cells fun _ => false) 28)).setRow w2.heap.size (cells (ofP xs)) = W4 at h4 B4 hr4 ⊢
    clear h3
    refine (same_any _ _ _ _ _ W4 (hE.of B4) hr4 rfl).mono ?_
    rintro e w5 ⟨rfl, b5⟩
    have h5 := h4.below b5 h4.lt
    have hr5 := hr4.below b5
    have B5 := B4.trans (b5.mono B4.size)
    go_wp2_with (refine wpList_load_set _ _ _ rfl rfl rfl h5 ?_)
    refine (has_any _ y w5).mono ?_
    rintro e w6 ⟨rfl, b6⟩
    have hr6 := hr5.below b6
    have B6 := B5.trans (b6.mono B5.size)
    go_wp2_with fail
    refine (rhas_any _ _ _ _ y w6 hr6 (by omega)).mono ?_
    rintro e w7 ⟨rfl, rfl⟩
    have heq := HEQ.out
    go_wp2_with fail
    refine (awake_any w6 (hE.of B6)).mono ?_
    rintro e w8 ⟨rfl, b8⟩
    go_wp2_with fail
    go_ret
    exact ⟨rfl, B6.trans (b8.mono B6.size)⟩

set_option maxRecDepth 100000 in
set_option maxHeartbeats 1000000 in
theorem lawAll' (n : Int) (p : Nat → Bool) (w : World) (hE : Env w)
    (hall : ∀ w, Calls Tryd.prog 17 #[.int .i64 n] w fun e w' => e = .returned (.agg (cells p)) ∧ Below w.heap.size w w') (hrall : ∀ w, Calls Tryd.prog 18 #[.int .i64 n] w (Gives w (ei p))) :
    Calls Tryd.prog 4 #[.int .i64 n] w fun e w' => e = .returned (.bool true) ∧ Below w.heap.size w w' := by
  have hpl := eisz p
  have hlen : (((els p).length : Int) == ((ei p).length : Int)) = true := by rw [ei_length]; simp
  have HLen := Lib.hid hlen; clear hlen
  have HR := Lib.hid hrall; clear hrall
  have hA := hall w
  clear hall
  go_enter Tryd.func4, Tryd.ntmps4
  go_wp2_with fail
  refine hA.mono ?_
  rintro e w1 ⟨rfl, b1⟩
  clear hA
  have h3 : SetAt (w1.alloc (.cells (cells fun _ => false) 28)) w1.heap.size (fun _ => false) := SetAt.new w1 _
  have h4 := newSet w1 p
  have B4 := newSet_below b1 p
  go_wp2_with (first | refine wpList_alloc_set rfl rfl ?_ | refine wpList_store_set _ _ _ _ _ rfl rfl rfl rfl h3 ?_)
  generalize (w1.alloc (.cells (cells fun _ => false) 28)).setRow w1.heap.size (cells p) = W4 at h4 B4 ⊢
  clear h3
  refine (HR.out W4).mono ?_
  rintro e w5 ⟨A2, c2, rfl, hr5, b5⟩
  have h5 := h4.below b5 h4.lt
  have B5 := B4.trans (b5.mono B4.size)
  have hlen := HLen.out
  go_wp2_with (refine wpList_load_set _ _ _ rfl rfl rfl h5 ?_)
  refine (len_any p w5).mono ?_
  rintro e w6 ⟨rfl, b6⟩
  have h6 := h5.below b6 h5.lt
  have hr6 := hr5.below b6
  have B6 := B5.trans (b6.mono B5.size)
  go_wp2_with (refine wpList_load_set _ _ _ rfl rfl rfl h6 ?_)
  refine (list_any p w6 (hE.of B6)).mono ?_
  rintro e w7 ⟨A3, c3, rfl, hr7, b7⟩
  have B7 := B6.trans (b7.mono B6.size)
  go_wp2_with fail
  refine (rsame_any _ _ _ _ _ _ _ _ w7 hr7 (hr6.below b7) (by omega) (by omega)).mono ?_
  rintro e w8 ⟨rfl, b8⟩
  have B8 := B7.trans (b8.mono B7.size)
  have hdd : decide (ei p = ei p) = true := by simp
  rw [hdd]
  clear hdd
  go_wp2_with fail
  refine (awake_any w8 (hE.of B8)).mono ?_
  rintro e w9 ⟨rfl, b9⟩
  go_wp2_with fail
  go_ret
  exact ⟨rfl, B8.trans (b9.mono B8.size)⟩

theorem lawAll (n : Int) (w : World) (hE : Env w) :
    Calls Tryd.prog 4 #[.int .i64 n] w fun e w' => e = .returned (.bool true) ∧ Below w.heap.size w w' :=
  lawAll' n _ w hE (all_any n) (rall_any n)

end Go.Proofs.YtggalncjookkiaaDoor
