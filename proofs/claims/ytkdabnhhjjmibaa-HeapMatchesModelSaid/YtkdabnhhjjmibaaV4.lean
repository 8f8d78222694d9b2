/- The law HeapMatchesModel. -/
import Derived.Test.YtkdabnhhjjmibaaV3
namespace Go.Proofs.Ytkdabnhhjjmibaa
open Go.RowKit Go.Lib Hp

def actObj (a : Int × Int × Int) : Obj := .cells #[.int .u8 a.1, .int .i64 a.2.1, .int .i64 a.2.2] 28 (0, 0)
theorem act_cells {w : World} {g : Nat} {a : Int × Int × Int} (h : w.heap[g]? = some (actObj a)) : w.cell? ⟨g, 0, none⟩ = some (.int .u8 a.1) ∧ w.cell? ⟨g, 1, none⟩ = some (.int .i64 a.2.1) ∧ w.cell? ⟨g, 2, none⟩ = some (.int .i64 a.2.2) := by
  refine ⟨?_, ?_, ?_⟩
  · rw [cell_of_row _ _ 0 _ _ _ h]; rfl
  · rw [cell_of_row _ _ 1 _ _ _ h]; rfl
  · rw [cell_of_row _ _ 2 _ _ _ h]; rfl

set_option maxRecDepth 100000 in
theorem lawModel (A : Option Addr) (c : Nat) (la : List (Int × Int × Int)) (W : World) (hr : RdA W A la) (hl : la.length ≤ 9223372036854775807) :
    Calls Try.prog 3 #[.slice A la.length c] W fun r w' => r = .returned (.bool true) ∧ Below W.heap.size W w' := by
  by_cases hbig : 100 < la.length
  · have hb1 : (100 : Int) < (la.length : Int) := by omega
    go_enter Try.func3, Try.ntmps3
    go_wp2_with (go_at_call 9; refine (wakes_any _).mono ?_; rintro r w1 ⟨rfl, b1⟩)
    go_ret
    exact ⟨rfl, b1⟩
  · have hb1 : (la.length : Int) ≤ 100 := by omega
    have hr' := Lib.hid hr
    clear hr
    go_enter Try.func3, Try.ntmps3
    go_wp2_with fail
    refine (wakes_any _).mono ?_
    rintro r w1 ⟨rfl, b1⟩
    go_wp2_with fail
    refine (new_anyI w1).mono ?_
    rintro r w2 ⟨rfl, H2, b2⟩
    have K2 := Keep.new b1 b2
    generalize w1.heap.size = hb at H2 K2 b2 ⊢
    have H2 := Lib.hid H2
    clear b1 b2
    go_wp2_with fail
    go_loopw [22, 4] (fun i vx w' => ∃ (k : Nat) (v : Value) (m : Option Nat) (x : List (Int × KI)), i = .int .i64 k ∧ k ≤ la.length ∧ x.length ≤ k ∧ RepI w' hb v m x (300 * k) ∧ Lines w' vx x ∧ Keep W w' hb v m) (fun i _ _ => la.length - (intOf i).toNat)
    case atStart => exact ⟨0, _, _, [], rfl, by omega, by simp, H2.out, World.ownsRow_nil _ _ _ _, K2⟩
    case round =>
      obtain ⟨k, v, m, x, rfl, hk, hxk, H3, L3, K3⟩ := hrel
      by_cases hlt : k < la.length
      · obtain ⟨a, ha⟩ : ∃ a, la[k]? = some a := ⟨_, List.getElem?_eq_getElem hlt⟩
        have hrr := hr'.out.below K3.bel
        obtain ⟨ad, rfl, _, hc⟩ := hrr.1 (by omega)
        obtain ⟨c0, c1, c2⟩ := hc k a ha
        obtain ⟨hk0, hk1, hfa, _⟩ := hrr.2 a (List.mem_of_getElem? ha)
        have e1 : (k : Int) < (la.length : Int) := by omega
        have e2 : (0 : Int) ≤ (k : Int) := by omega
        have hb4 : Below wr.heap.size wr (wr.alloc (.cells #[.int .u8 a.1, .int .i64 a.2.1, .int .i64 a.2.2] 28)) := (Below.refl _ _).alloc (Nat.le_refl _) _
        have hlt4 := H3.lt
        have nd := H3.nd
        have H4 := Lib.hid (H3.below hb4)
        have L4 := Lib.hid (L3.below hb4)
        have K4 := K3.below hb4
        have ho4 : (wr.alloc (.cells #[.int .u8 a.1, .int .i64 a.2.1, .int .i64 a.2.2] 28)).heap[wr.heap.size]? = some (actObj a) := heap_alloc_new wr _
        have hnf : ¬ foot hb v m wr.heap.size := fun h => by have := hlt4 _ h; omega
        obtain ⟨d0, d1, d2⟩ := act_cells ho4
        clear hc hrr H3 L3 K3 H2 hb4 hlt4
        have hrl : ∀ y : Int, (rdrop x y).length ≤ x.length := fun y => by rw [length_rdrop]; split <;> omega
        rcases (show a.1 % 3 = 0 ∨ a.1 % 3 = 1 ∨ a.1 % 3 = 2 by omega) with hq | hq | hq
        · have q0 : (a.1 % 3 == 0) = true := by simp [hq]
          have hpl : (rput x a.2.1 a.2.2).length ≤ x.length + 1 := by rw [length_rput]; split <;> omega
          go_wp2_with (refine wpList_load_act rfl _ rfl ad k rfl a c0 c1 c2 ?_)
          clear d0 d1 d2 c0 c1 c2 hq q0
          refine (put_anyI hb v m x _ a.2.1 a.2.2 _ H4.out hfa (by omega) (by omega)).mono ?_
          rintro r w5 ⟨⟨u5, rfl⟩, v5, m5, H5, M5⟩
          have L5 := Lib.hid (L4.out.moved (apart_linesI H4.out L4.out) M5)
          have K5 := K4.moved M5
          have ho5 := M5.chg.at ho4 hnf
          have hnf5 := M5.not (Array.getElem?_eq_some_iff.1 ho4).1 hnf
          have H5 := Lib.hid H5
          clear M5 H4 L4 K4 ho4 hnf
          obtain ⟨d0, d1, d2⟩ := act_cells ho5
          go_wp2_with fail
          refine (rput_any _ x a.2.1 a.2.2 w5 L5.out (by omega)).mono ?_
          rintro r w6 ⟨vx6, rfl, L6, b6⟩
          have H6 := Lib.hid (H5.out.below b6)
          have L6 := Lib.hid L6.1
          have K6 := K5.below b6
          have ho6 := (b6.block _ (Array.getElem?_eq_some_iff.1 ho5).1).trans ho5
          clear d0 d1 d2 H5 L5 K5 ho5
          obtain ⟨z0, z1, z2⟩ := act_cells ho6
          go_wp2_with fail
          refine (same_any hb v5 m5 (rput x a.2.1 a.2.2) _ _ a.2.1 w6 H6.out L6.out hfa (by omega)).mono ?_
          rintro r w9 ⟨rfl, b9⟩
          have H9 := Lib.hid ((H6.out.below b9).mono (n' := 300 * (k + 1)) (by omega))
          have L9 := Lib.hid (L6.out.below b9)
          have K9 := K6.below b9
          clear z0 z1 z2 hrl
          go_wp2
          go_roundw
          case rel => exact ⟨k + 1, v5, m5, (rput x a.2.1 a.2.2), by go_num, by omega, by omega, H9.out, L9.out, K9⟩
          case measure => simp [intOf]; omega
        · have q0 : (a.1 % 3 == 0) = false := by simp [hq]
          have q1 : (a.1 % 3 == 1) = true := by simp [hq]
          go_wp2_with (refine wpList_load_act rfl _ rfl ad k rfl a c0 c1 c2 ?_)
          clear d0 d1 d2 c0 c1 c2 hq q0 q1
          by_cases hx0 : x = []
          · subst hx0
            refine (pop_noneI hb v m _ _ H4.out).mono ?_
            rintro r w5 ⟨rfl, b5⟩
            have L5 := Lib.hid (L4.out.below b5)
            have H5 := Lib.hid (H4.out.below b5)
            have K5 := K4.below b5
            have ho5 := (b5.block _ (Array.getElem?_eq_some_iff.1 ho4).1).trans ho4
            clear H4 L4 K4 ho4 b5
            go_wp2_with fail
            refine (rtop_none _ w5 L5.out).mono ?_
            rintro r w6 ⟨rfl, b6⟩
            have b6' : Below w5.heap.size w5 (w6.alloc (.cells #[.int .i64 0, .int .i64 0] 34)) := b6.alloc b6.size _
            have hy6 : (w6.alloc (.cells #[.int .i64 0, .int .i64 0] 34)).heap[w6.heap.size]? = some (lineObj (0, 0)) := heap_alloc_new w6 _
            have L6 := Lib.hid (L5.out.below b6')
            have H6 := Lib.hid (H5.out.below b6')
            have K6 := K5.below b6'
            have ho6 := (b6'.block _ (Array.getElem?_eq_some_iff.1 ho5).1).trans ho5
            clear H5 L5 K5 ho5 b6 b6'
            go_wp2_with fail
            refine (rdrop_any _ [] 0 _ L6.out (by simp)).mono ?_
            rintro r w7 ⟨vx7, rfl, L7, _, b7⟩
            have L7 := Lib.hid (show Lines w7 vx7 [] from L7)
            have H7 := Lib.hid (H6.out.below b7)
            have K7 := K6.below b7
            have ho7 := (b7.block _ (Array.getElem?_eq_some_iff.1 ho6).1).trans ho6
            have hy7 := (b7.block _ (Array.getElem?_eq_some_iff.1 hy6).1).trans hy6
            obtain ⟨y0, y1⟩ := line_cells hy7
            generalize hg : rhas ([] : List (Int × KI)) 0 = g
            clear H6 L6 K6 ho6 hy6 hy7 b7
            obtain ⟨z0, z1, z2⟩ := act_cells ho7
            go_wp2_with fail
            refine (same_any hb v m [] _ _ a.2.1 w7 H7.out L7.out hfa (by simp)).mono ?_
            rintro r w9 ⟨rfl, b9⟩
            have H9 := Lib.hid ((H7.out.below b9).mono (n' := 300 * (k + 1)) (by omega))
            have L9 := Lib.hid (L7.out.below b9)
            have K9 := K7.below b9
            clear z0 z1 z2 hrl
            go_wp2
            go_roundw
            case rel => exact ⟨k + 1, v, m, [], by go_num, by omega, by simp, H9.out, L9.out, K9⟩
            case measure => simp [intOf]; omega
          · have hx1 : 0 < x.length := List.length_pos_iff.2 hx0
            refine (pop_someI hb v m x _ _ H4.out hx1 (by omega) (by omega)).mono ?_
            rintro r w5 ⟨b, ht, rfl, v5, m5, H5, M5⟩
            have L5 := Lib.hid (L4.out.moved (apart_linesI H4.out L4.out) M5)
            have K5 := K4.moved M5
            have ho5 := M5.chg.at ho4 hnf
            have hnf5 := M5.not (Array.getElem?_eq_some_iff.1 ho4).1 hnf
            have H5 := Lib.hid H5
            have ht := Lib.hid ht
            clear M5 H4 L4 K4 ho4 hnf
            go_wp2_with fail
            refine (rtop_some _ x w5 L5.out (by omega) hx1).mono ?_
            rintro r w6 ⟨b', ht', rfl, b6⟩
            obtain rfl := top_is ht' ht.out
            have b6' : Below w5.heap.size w5 (w6.alloc (.cells #[.int .i64 b'.1, .int .i64 b'.2] 34)) := b6.alloc b6.size _
            have hy6 : (w6.alloc (.cells #[.int .i64 b'.1, .int .i64 b'.2] 34)).heap[w6.heap.size]? = some (lineObj b') := heap_alloc_new w6 _
            have L6 := Lib.hid (L5.out.below b6')
            have H6 := Lib.hid (H5.out.below b6')
            have K6 := K5.below b6'
            have ho6 := (b6'.block _ (Array.getElem?_eq_some_iff.1 ho5).1).trans ho5
            clear H5 L5 K5 ho5 b6 b6' ht'
            go_wp2_with fail
            refine (rdrop_any _ x b'.1 _ L6.out (by omega)).mono ?_
            rintro r w7 ⟨vx7, rfl, L7, _, b7⟩
            have hl7 := hrl b'.1
            have L7 := Lib.hid L7
            have H7 := Lib.hid (H6.out.below b7)
            have K7 := K6.below b7
            have ho7 := (b7.block _ (Array.getElem?_eq_some_iff.1 ho6).1).trans ho6
            have hy7 := (b7.block _ (Array.getElem?_eq_some_iff.1 hy6).1).trans hy6
            obtain ⟨y0, y1⟩ := line_cells hy7
            clear H6 L6 K6 ho6 hy6 hy7 b7
            obtain ⟨z0, z1, z2⟩ := act_cells ho7
            go_wp2_with fail
            refine (same_any hb v5 m5 (rdrop x b'.1) _ _ a.2.1 w7 H7.out L7.out hfa (by omega)).mono ?_
            rintro r w9 ⟨rfl, b9⟩
            have H9 := Lib.hid ((H7.out.below b9).mono (n' := 300 * (k + 1)) (by omega))
            have L9 := Lib.hid (L7.out.below b9)
            have K9 := K7.below b9
            clear z0 z1 z2 hrl
            go_wp2
            go_roundw
            case rel => exact ⟨k + 1, v5, m5, (rdrop x b'.1), by go_num, by omega, by omega, H9.out, L9.out, K9⟩
            case measure => simp [intOf]; omega
        · have q0 : (a.1 % 3 == 0) = false := by simp [hq]
          have q1 : (a.1 % 3 == 1) = false := by simp [hq]
          go_wp2_with (refine wpList_load_act rfl _ rfl ad k rfl a c0 c1 c2 ?_)
          clear d0 d1 d2 c0 c1 c2 hq q0 q1
          refine (rdrop_any _ x a.2.1 _ L4.out (by omega)).mono ?_
          rintro r w5 ⟨vx5, rfl, L5, _, b5⟩
          have hl5 := hrl a.2.1
          have L5 := Lib.hid L5
          have H5 := Lib.hid (H4.out.below b5)
          have K5 := K4.below b5
          have ho5 := (b5.block _ (Array.getElem?_eq_some_iff.1 ho4).1).trans ho4
          obtain ⟨d0, d1, d2⟩ := act_cells ho5
          obtain ⟨t, ht⟩ : ∃ t, rhas x a.2.1 = t := ⟨_, rfl⟩
          rw [ht]
          have ht := Lib.hid ht
          clear H4 L4 K4 ho4 b5
          go_wp2_with fail
          refine (remove_anyI hb v m x _ a.2.1 w5 H5.out hfa (by omega) (by omega)).mono ?_
          rintro r w6 ⟨rfl, v6, m6, H6, M6⟩
          rw [ht.out]
          have L6 := Lib.hid (L5.out.moved (apart_linesI H5.out L5.out) M6)
          have K6 := K5.moved M6
          have ho6 := M6.chg.at ho5 hnf
          have H6 := Lib.hid H6
          clear M6 H5 L5 K5 ho5 d0 d1 d2
          obtain ⟨z0, z1, z2⟩ := act_cells ho6
          go_wp2_with fail
          refine (same_any hb v6 m6 (rdrop x a.2.1) _ _ a.2.1 w6 H6.out L6.out hfa (by omega)).mono ?_
          rintro r w9 ⟨rfl, b9⟩
          have H9 := Lib.hid ((H6.out.below b9).mono (n' := 300 * (k + 1)) (by omega))
          have L9 := Lib.hid (L6.out.below b9)
          have K9 := K6.below b9
          clear z0 z1 z2 hrl
          go_wp2
          go_roundw
          case rel => exact ⟨k + 1, v6, m6, (rdrop x a.2.1), by go_num, by omega, by omega, H9.out, L9.out, K9⟩
          case measure => simp [intOf]; omega
      · obtain rfl : k = la.length := by omega
        go_wp2
        go_ret
        exact ⟨rfl, K3.bel⟩
end Go.Proofs.Ytkdabnhhjjmibaa
