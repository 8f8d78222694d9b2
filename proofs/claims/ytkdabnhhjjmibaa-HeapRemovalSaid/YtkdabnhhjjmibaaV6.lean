/- The law HeapRemoval. -/
import Derived.Test.YtkdabnhhjjmibaaV3
namespace Go.Proofs.Ytkdabnhhjjmibaa
open Go.RowKit Go.Lib Hp

theorem gone {x : List (Int × KI)} (nd : ND x) (y : Int) : rhas (rdrop x y) y = false := rhas_false.2 fun a ha => ((mem_rdrop nd a).1 ha).2

theorem lawRemoval (A : Option Addr) (c : Nat) (la : List (Int × Int × Int)) (y : Int) (W : World) (hr : RdA W A la) (hl : la.length ≤ 9223372036854775807) (hy : Fits y) :
    Calls Try.prog 6 #[.slice A la.length c, .int .i64 y] W fun r w' => r = .returned (.bool true) ∧ Below W.heap.size W w' := by
  by_cases hbig : 100 < la.length
  · have hb1 : (100 : Int) < (la.length : Int) := by omega
    go_enter Try.func6, Try.ntmps6
    go_wp2_with (go_at_call 9; refine (wakes_any _).mono ?_; rintro r w1 ⟨rfl, b1⟩)
    go_ret
    exact ⟨rfl, b1⟩
  · have hb1 : (la.length : Int) ≤ 100 := by omega
    have hr' := Lib.hid hr
    clear hr
    go_enter Try.func6, Try.ntmps6
    go_wp2_with fail
    refine (wakes_any _).mono ?_
    rintro r w1 ⟨rfl, b1⟩
    go_wp2_with fail
    refine (made_any A c la w1 (hr'.out.below b1) (by omega)).mono ?_
    rintro r w2 ⟨hb, v, m, vx, rfl, H2, L2, K2⟩
    have hlen : (puts la).length ≤ 100 := by have := puts_length la la.length (Nat.le_refl _); rw [List.take_length] at this; omega
    generalize puts la = x at H2 L2 hlen
    have K2 : Keep W w2 hb v m := ⟨fun k hk => Nat.le_trans b1.size (K2.low k hk), then_ b1 (K2.bel.mono (Nat.le_refl _))⟩
    have nd := H2.nd
    have H2' := Lib.hid H2
    have L2' := Lib.hid L2
    clear H2 L2 b1 hr'
    go_wp2_with fail
    refine (rkey_any vx x y w2 L2'.out (by omega)).mono ?_
    rintro r w3 ⟨rfl, rfl⟩
    generalize hq1 : (rkey x y).getD 0 = q1
    obtain ⟨q2, hq2⟩ : ∃ q2, rhas x y = q2 := ⟨_, rfl⟩
    rw [hq2]
    have hq2 := Lib.hid hq2
    clear hq1
    go_wp2_with fail
    refine (remove_anyI hb v m x _ y w2 H2'.out hy (by omega) (by omega)).mono ?_
    rintro r w4 ⟨rfl, v4, m4, H4, M4⟩
    rw [hq2.out]
    have L4 := Lib.hid (L2'.out.moved (apart_linesI H2'.out L2'.out) M4)
    have K4 := K2.moved M4
    have H4' := Lib.hid (H4.mono (n' := 31000) (by omega))
    have hgn := Lib.hid (gone nd y)
    have nd' := nd_rdrop nd y
    have hdl : (rdrop x y).length ≤ 100 := by rw [length_rdrop]; split <;> omega
    clear H4 M4 H2' L2' K2
    go_wp2_with fail
    refine (remove_noneI hb v4 m4 (rdrop x y) _ y w4 H4'.out hy hgn.out).mono ?_
    rintro r w5 ⟨rfl, rfl⟩
    go_wp2_with fail
    refine (key_anyI hb v4 m4 (rdrop x y) _ y w4 H4'.out hy).mono ?_
    rintro r w5 ⟨rfl, rfl⟩
    rw [hgn.out]
    generalize hq5 : (rkey (rdrop x y) y).getD 0 = q5
    go_wp2_with fail
    refine (rdrop_any vx x y w4 L4.out (by omega)).mono ?_
    rintro r w6 ⟨vx6, rfl, L6, _, b6⟩
    have H6 := H4'.out.below b6
    have K6 := K4.below b6
    clear H4' L4 K4 b6 hgn hq5 hq2
    generalize rdrop x y = x0 at *
    obtain ⟨A6, c6, rfl⟩ := L6.form
    have H6' := Lib.hid H6
    have L6' := Lib.hid L6
    clear H6 L6 nd
    go_wp2_with fail
    go_loopw [57, 6] (fun i vx w' => ∃ (k : Nat) (v : Value) (m : Option Nat) (x : List (Int × KI)), i = .int .i64 k ∧ x.length + k = x0.length ∧ RepI w' hb v m x (31000 + 300 * k) ∧ Lines w' vx x ∧ Keep W w' hb v m) (fun i _ _ => x0.length - (intOf i).toNat)
    case atStart => exact ⟨0, v4, m4, x0, rfl, by omega, H6'.out, L6'.out, K6⟩
    case round =>
      obtain ⟨k, v, m, x, rfl, hk, H7, L7, K7⟩ := hrel
      have H7' := Lib.hid H7
      have L7' := Lib.hid L7
      clear H7 L7 H6' L6' K6
      by_cases hlt : k < x0.length
      · have e1 : (k : Int) < (x0.length : Int) := by omega
        have e2 : (0 : Int) ≤ (k : Int) := by omega
        go_wp2_with fail
        refine (rtop_some _ x wr L7'.out (by omega) (by omega)).mono ?_
        rintro r w8 ⟨a, ha, rfl, b8⟩
        have hb9 : Below wr.heap.size wr (w8.alloc (.cells #[.int .i64 a.1, .int .i64 a.2] 34)) := b8.alloc b8.size _
        have H9 := Lib.hid (H7'.out.below hb9)
        have L9 := Lib.hid (L7'.out.below hb9)
        have K9 := K7.below hb9
        have hl9 : (w8.alloc (.cells #[.int .i64 a.1, .int .i64 a.2] 34)).heap[w8.heap.size]? = some (lineObj a) := heap_alloc_new w8 _
        have ha := Lib.hid ha
        clear H7' L7' K7 b8 hb9
        go_wp2_with fail
        refine (pop_someI hb v m x _ _ H9.out (by omega) (by omega) (by omega)).mono ?_
        rintro r w10 ⟨a', ha', rfl, v10, m10, H10, M10⟩
        obtain rfl := top_is ha' ha.out
        have hdl2 := rdrop_length ha'.1
        have L10 := Lib.hid (L9.out.moved (apart_linesI H9.out L9.out) M10)
        have K10 := K9.moved M10
        have hl10 := M10.chg.at hl9 (apart_objI H9.out hl9)
        obtain ⟨d0, d1⟩ := line_cells hl10
        have H10' := Lib.hid (H10.mono (n' := 31000 + 300 * (k + 1)) (by omega))
        clear H9 L9 K9 M10 H10 hl9 ha'
        go_wp2_with fail
        refine (rdrop_any _ x a'.1 w10 L10.out (by omega)).mono ?_
        rintro r w11 ⟨vx11, rfl, L11, _, b11⟩
        have H11 := Lib.hid (H10'.out.below b11)
        have L11 := Lib.hid L11
        have K11 := K10.below b11
        clear H10' L10 K10 d0 d1 hl10
        go_wp2
        go_roundw
        case rel => exact ⟨k + 1, v10, m10, rdrop x a'.1, by go_num, by omega, H11.out, L11.out, K11⟩
        case measure => simp [intOf]; omega
      · obtain rfl : k = x0.length := by omega
        have hx0 : x = [] := List.eq_nil_of_length_eq_zero (by omega)
        subst hx0
        go_wp2_with fail
        refine (len_anyI hb v m [] _ wr H7'.out).mono ?_
        rintro r w9 ⟨rfl, rfl⟩
        go_wp2
        go_ret
        exact ⟨rfl, K7.bel⟩
end Go.Proofs.Ytkdabnhhjjmibaa
