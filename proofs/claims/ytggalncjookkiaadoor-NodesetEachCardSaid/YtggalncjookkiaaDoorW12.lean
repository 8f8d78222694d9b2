/- The law on the operations: a walk. -/
import Derived.Test.YtggalncjookkiaaDoorW11
namespace Go.Proofs.YtggalncjookkiaaDoor
open Go.RowKit Go.Lib Nds

/-- Two set variables and two lists, in one world. -/
structure Two (w W : World) (gx gy : Nat) (p q : Nat → Bool) (A B : Option Addr) (n m : Nat) : Prop where
  below : Below w.heap.size w W
  x : SetAt W gx p
  y : SetAt W gy q
  a : Rd W A n (ei p)
  b : Rd W B m (ei q)

theorem Two.next {w W W' : World} {gx gy : Nat} {p q : Nat → Bool} {A B : Option Addr} {n m : Nat} (h : Two w W gx gy p q A B n m) (hb : Below W.heap.size W W') : Two w W' gx gy p q A B n m :=
  ⟨h.below.trans (hb.mono h.below.size), h.x.below hb h.x.lt, h.y.below hb h.y.lt, h.a.below hb, h.b.below hb⟩

/-- The world behind 's, t := <a set>, <a set>'. -/
def pairW (w : World) (p q : Nat → Bool) : World := (((w.alloc (.cells (cells fun _ => false) 28)).alloc (.cells (cells fun _ => false) 28)).setRow w.heap.size (cells p)).setRow (w.heap.size + 1) (cells q)
theorem pair_facts (w : World) (p q : Nat → Bool) :
    SetAt ((w.alloc (.cells (cells fun _ => false) 28)).alloc (.cells (cells fun _ => false) 28)) w.heap.size (fun _ => false) ∧
    SetAt (((w.alloc (.cells (cells fun _ => false) 28)).alloc (.cells (cells fun _ => false) 28)).setRow w.heap.size (cells p)) (w.heap.size + 1) (fun _ => false) ∧
    SetAt (pairW w p q) w.heap.size p ∧ SetAt (pairW w p q) (w.heap.size + 1) q ∧ Below w.heap.size w (pairW w p q) := by
  have h0 : SetAt ((w.alloc (.cells (cells fun _ => false) 28)).alloc (.cells (cells fun _ => false) 28)) w.heap.size (fun _ => false) := (SetAt.new w _).alloc _
  have h1 : SetAt ((w.alloc (.cells (cells fun _ => false) 28)).alloc (.cells (cells fun _ => false) 28)) (w.heap.size + 1) (fun _ => false) := by have := SetAt.new (w.alloc (.cells (cells fun _ => false) 28)) (fun _ => false); simpa using this
  have h2 : SetAt (((w.alloc (.cells (cells fun _ => false) 28)).alloc (.cells (cells fun _ => false) 28)).setRow w.heap.size (cells p)) (w.heap.size + 1) (fun _ => false) := (setRow_other _ _ _ _ (by omega)).trans h1
  have h3 : SetAt (((w.alloc (.cells (cells fun _ => false) 28)).alloc (.cells (cells fun _ => false) 28)).setRow w.heap.size (cells p)) w.heap.size p := h0.row
  refine ⟨h0, h2, (setRow_other _ _ _ _ (by omega)).trans h3, h2.row, ?_⟩
  exact below_setRow (below_setRow (((Below.refl _ _).alloc (Nat.le_refl _) _).alloc (by simp) _) (Nat.le_refl _) _) (by omega) _

set_option maxRecDepth 100000 in
set_option maxHeartbeats 2000000 in
theorem lawOps (A B : Option Addr) (c d n m : Nat) (xs ys : List Int) (w : World) (hE : Env w) (hr : Rd w A n xs) (hs : Rd w B m ys) (hn : n ≤ 9223372036854775807) (hm : m ≤ 9223372036854775807) :
    Calls Tryd.prog 5 #[.slice A n c, .slice B m d] w fun e w' => e = .returned (.bool true) ∧ Below w.heap.size w w' := by
  by_cases hg : 60 < n
  · have hd : decide (60 < n) = true := decide_eq_true hg
    go_enter Tryd.func5, Tryd.ntmps5
    go_wp2_with (go_at_call 10; refine (great_any _ _ _ _ (by assumption)).mono ?_; rintro e w' ⟨rfl, rfl⟩)
    refine (awake_any w hE).mono ?_
    rintro e w1 ⟨rfl, b1⟩
    go_wp2_with fail
    go_ret
    exact ⟨rfl, b1⟩
  · by_cases hg2 : 60 < m
    · have hd : decide (60 < n) = false := decide_eq_false hg
      have hd2 : decide (60 < m) = true := decide_eq_true hg2
      go_enter Tryd.func5, Tryd.ntmps5
      go_wp2_with (go_at_call 10; refine (great_any _ _ _ _ (by assumption)).mono ?_; rintro e w' ⟨rfl, rfl⟩)
      refine (awake_any w hE).mono ?_
      rintro e w1 ⟨rfl, b1⟩
      go_wp2_with fail
      go_ret
      exact ⟨rfl, b1⟩
    · have hd : decide (60 < n) = false := decide_eq_false hg
      have hd2 : decide (60 < m) = false := decide_eq_false hg2
      have hx := eisz (ofP xs)
      have hy := eisz (ofP ys)
      have heq : (decide (els (ofP xs) = els (ofP ys)) == decide (ei (ofP xs) = ei (ofP ys))) = true := by rw [beq_iff_eq, decide_eq_decide]; exact ei_inj.symm
      have HEQ := Lib.hid heq; clear heq
      go_enter Tryd.func5, Tryd.ntmps5
      go_wp2_with (go_at_call 10; refine (great_any _ _ _ _ (by assumption)).mono ?_; rintro e w' ⟨rfl, rfl⟩)
      refine (of_any A c n xs w hr hn).mono ?_
      rintro e w1 ⟨rfl, b1⟩
      go_wp2_with fail
      refine (of_any B d m ys w1 (hs.below b1) hm).mono ?_
      rintro e w2 ⟨rfl, b2⟩
      have B2 := then_ b1 b2
      obtain ⟨f0, f1, f2, f3, f4⟩ := pair_facts w2 (ofP xs) (ofP ys)
      go_wp2_with (first | refine wpList_alloc_set_at (w2.heap.size + 1) (World.size_alloc _ _) rfl rfl ?_ | refine wpList_alloc_set rfl rfl ?_ | refine wpList_store_set _ _ w2.heap.size _ _ rfl rfl rfl rfl f0 ?_ | refine wpList_store_set _ _ (w2.heap.size + 1) _ _ rfl rfl rfl rfl f1 ?_)
      clear f0 f1
      have B3 := then_ B2 f4
      have hr3 := hr.below B3
      have hs3 := hs.below B3
      change Calls _ _ _ (pairW w2 (ofP xs) (ofP ys)) _
      generalize pairW w2 (ofP xs) (ofP ys) = W3 at f2 f3 f4 B3 hr3 hs3 ⊢
      refine (rof_any A c n xs W3 hr3 (by omega)).mono ?_
      rintro e w4 ⟨A4, c4, rfl, ha4, b4⟩
      go_wp2_with fail
      refine (rof_any B d m ys w4 (hs3.below b4) (by omega)).mono ?_
      rintro e w5 ⟨A5, c5, rfl, ha5, b5⟩
      have B45 := then_ b4 b5
      have T5 : Two w w5 w2.heap.size (w2.heap.size + 1) (ofP xs) (ofP ys) A4 A5 (ei (ofP xs)).length (ei (ofP ys)).length := ⟨B3.trans (B45.mono B3.size), f2.below B45 f2.lt, f3.below B45 f3.lt, ha4.below b5, ha5⟩
      clear f2 f3 f4 hr3 hs3 ha4 ha5 b4 b5 B45 B3 B2 b1 b2
      have hx6 := T5.x
      have hy6 := T5.y
      go_wp2_with (first | refine wpList_load_set _ _ _ rfl rfl rfl hx6 ?_ | refine wpList_load_set _ _ _ rfl rfl rfl hy6 ?_)
      refine (union_any (ofP xs) (ofP ys) w5).mono ?_
      rintro e w6 ⟨rfl, b6⟩
      have T6 := T5.next b6
      go_wp2_with fail
      refine (ror_any _ _ _ _ _ _ (ei (ofP xs)) (ei (ofP ys)) w6 T6.a T6.b (by omega) (by omega)).mono ?_
      rintro e w7 ⟨A7, c7, rfl, r7, b7⟩
      have T7 := T6.next b7
      go_wp2_with fail
      refine (same_any _ _ _ _ _ w7 (hE.of T7.below) r7 (ei_or _ _)).mono ?_
      rintro e w8 ⟨rfl, b8⟩
      have T8 := T7.next b8
      have hx9 := T8.x
      have hy9 := T8.y
      go_wp2_with (first | refine wpList_load_set _ _ _ rfl rfl rfl hx9 ?_ | refine wpList_load_set _ _ _ rfl rfl rfl hy9 ?_)
      refine (inter_any (ofP xs) (ofP ys) w8).mono ?_
      rintro e w9 ⟨rfl, b9⟩
      have T9 := T8.next b9
      go_wp2_with fail
      refine (rand_any _ _ _ _ _ _ (ei (ofP xs)) (ei (ofP ys)) w9 T9.a T9.b (by omega) (by omega)).mono ?_
      rintro e w10 ⟨A10, c10, rfl, r10, b10⟩
      have T10 := T9.next b10
      go_wp2_with fail
      refine (same_any _ _ _ _ _ w10 (hE.of T10.below) r10 (ei_and _ _)).mono ?_
      rintro e w11 ⟨rfl, b11⟩
      have T11 := T10.next b11
      have hx12 := T11.x
      have hy12 := T11.y
      go_wp2_with (first | refine wpList_load_set _ _ _ rfl rfl rfl hx12 ?_ | refine wpList_load_set _ _ _ rfl rfl rfl hy12 ?_)
      refine (diff_any (ofP xs) (ofP ys) w11).mono ?_
      rintro e w12 ⟨rfl, b12⟩
      have T12 := T11.next b12
      go_wp2_with fail
      refine (rless_any _ _ _ _ _ _ (ei (ofP xs)) (ei (ofP ys)) w12 T12.a T12.b (by omega) (by omega)).mono ?_
      rintro e w13 ⟨A13, c13, rfl, r13, b13⟩
      have T13 := T12.next b13
      go_wp2_with fail
      refine (same_any _ _ _ _ _ w13 (hE.of T13.below) r13 (ei_diff _ _)).mono ?_
      rintro e w14 ⟨rfl, b14⟩
      have T14 := T13.next b14
      have hx15 := T14.x
      have hy15 := T14.y
      go_wp2_with (first | refine wpList_load_set _ _ _ rfl rfl rfl hx15 ?_ | refine wpList_load_set _ _ _ rfl rfl rfl hy15 ?_)
      refine (same_any _ _ _ _ _ w14 (hE.of T14.below) T14.a rfl).mono ?_
      rintro e w15 ⟨rfl, b15⟩
      have T15 := T14.next b15
      have hx16 := T15.x
      have hy16 := T15.y
      go_wp2_with (first | refine wpList_load_set _ _ _ rfl rfl rfl hx16 ?_ | refine wpList_load_set _ _ _ rfl rfl rfl hy16 ?_)
      refine (same_any _ _ _ _ _ w15 (hE.of T15.below) T15.b rfl).mono ?_
      rintro e w16 ⟨rfl, b16⟩
      have T16 := T15.next b16
      have hx17 := T16.x
      have hy17 := T16.y
      go_wp2_with (first | refine wpList_load_set _ _ _ rfl rfl rfl hx17 ?_ | refine wpList_load_set _ _ _ rfl rfl rfl hy17 ?_)
      refine (equal_any (ofP xs) (ofP ys) w16).mono ?_
      rintro e w17 ⟨rfl, b17⟩
      have T17 := T16.next b17
      go_wp2_with fail
      refine (rsame_any _ _ _ _ _ _ _ _ w17 T17.a T17.b (by omega) (by omega)).mono ?_
      rintro e w18 ⟨rfl, b18⟩
      have T18 := T17.next b18
      have heq := HEQ.out
      go_wp2_with fail
      refine (awake_any w18 (hE.of T18.below)).mono ?_
      rintro e w19 ⟨rfl, b19⟩
      have T19 := T18.next b19
      go_wp2_with fail
      go_ret
      exact ⟨rfl, T19.below⟩

end Go.Proofs.YtggalncjookkiaaDoor
