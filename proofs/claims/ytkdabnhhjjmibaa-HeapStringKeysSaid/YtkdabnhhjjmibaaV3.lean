/- The laws HeapPopOrder and HeapKeyLookup. -/
import Derived.Test.YtkdabnhhjjmibaaV2
namespace Go.Proofs.Ytkdabnhhjjmibaa
open Go.RowKit Go.Lib Hp

theorem apart_objI {w : World} {hb : Nat} {v : Value} {m : Option Nat} {x : List (Int × KI)} {n g : Nat} {cur : Array Value} {fr : Nat × Nat} (H : RepI w hb v m x n) (hg : w.heap[g]? = some (.cells cur 34 fr)) : ¬ foot hb v m g := by
  obtain ⟨s, H, _⟩ := H
  rintro (h | h | h)
  · have h2 := H.hd
    rw [← h] at h2
    exact absurd (cells_type hg h2) (by decide)
  · obtain ⟨cur2, h2⟩ := H.row.obj h
    exact absurd (cells_type hg h2) (by decide)
  · obtain ⟨es, c, h2⟩ := H.map.lt g h
    have := hg.symm.trans h2
    injection this with this
    cases this

/-- A line of the law's own is written. -/
theorem RepI.wrote {w : World} {hb : Nat} {v : Value} {m : Option Nat} {x : List (Int × KI)} {n g : Nat} (H : RepI w hb v m x n) (hg : ¬ foot hb v m g) (a b : Value) : RepI ((w.setCell ⟨g, 0, none⟩ a).setCell ⟨g, 1, none⟩ b) hb v m x n :=
  H.kept fun k hk => by
    have hne : k ≠ g := fun e => hg (by rw [← e]; exact hk)
    rw [Below.heap_setCell _ _ _ _ hne, Below.heap_setCell _ _ _ _ hne]
theorem Lines.wrote {w : World} {vx : Value} {l : List (Int × KI)} {g : Nat} (H : Lines w vx l) (hg : vx.ownBlock ≠ some g) (a b : Value) : Lines ((w.setCell ⟨g, 0, none⟩ a).setCell ⟨g, 1, none⟩ b) vx l :=
  H.kept fun k hk => by rw [Below.heap_setCell _ _ _ _ (fun e => hg (by rw [hk, e])), Below.heap_setCell _ _ _ _ (fun e => hg (by rw [hk, e]))]
theorem Keep.wrote {W w : World} {hb : Nat} {v : Value} {m : Option Nat} {g : Nat} (H : Keep W w hb v m) (hg : W.heap.size ≤ g) (a b : Value) : Keep W ((w.setCell ⟨g, 0, none⟩ a).setCell ⟨g, 1, none⟩ b) hb v m :=
  ⟨H.low, (H.bel.setCell (p := ⟨g, 0, none⟩) hg _).setCell (p := ⟨g, 1, none⟩) hg _⟩

theorem top_ahead {x : List (Int × KI)} {a : Int × KI} (nd : ND x) (h : IsTop ltI x a) : ∀ b ∈ rdrop x a.1, prec ltI a b = true := fun b hb => by
  obtain ⟨h1, h2⟩ := (mem_rdrop nd b).1 hb
  exact prec_tri strictI (fun e => h2 (by rw [e])) (h.2 b h1)
theorem rdrop_length {x : List (Int × KI)} {a : Int × KI} (h : a ∈ x) : (rdrop x a.1).length + 1 = x.length := by
  rw [length_rdrop, rhas_iff.2 ⟨a, h, rfl⟩]
  have := List.length_pos_of_mem h
  simp; omega
theorem has_mem {x : List (Int × KI)} {a : Int × KI} (h : a ∈ x) : rhas x a.1 = true := rhas_iff.2 ⟨a, h, rfl⟩

theorem lawOrder (A : Option Addr) (c : Nat) (la : List (Int × Int × Int)) (W : World) (hr : RdA W A la) (hl : la.length ≤ 9223372036854775807) :
    Calls Try.prog 4 #[.slice A la.length c] W fun r w' => r = .returned (.bool true) ∧ Below W.heap.size W w' := by
  by_cases hbig : 100 < la.length
  · have hb1 : (100 : Int) < (la.length : Int) := by omega
    go_enter Try.func4, Try.ntmps4
    go_wp2_with (go_at_call 9; refine (wakes_any _).mono ?_; rintro r w1 ⟨rfl, b1⟩)
    go_ret
    exact ⟨rfl, b1⟩
  · have hb1 : (la.length : Int) ≤ 100 := by omega
    have hr' := Lib.hid hr
    clear hr
    go_enter Try.func4, Try.ntmps4
    go_wp2_with fail
    refine (wakes_any _).mono ?_
    rintro r w1 ⟨rfl, b1⟩
    go_wp2_with fail
    refine (made_any A c la w1 (hr'.out.below b1) (by omega)).mono ?_
    rintro r w2 ⟨hb, v, m, vx, rfl, H2, L2, K2⟩
    have hlen : (puts la).length ≤ 100 := by have := puts_length la la.length (Nat.le_refl _); rw [List.take_length] at this; omega
    generalize puts la = x0 at H2 L2 hlen
    obtain ⟨A2, c2, rfl⟩ := L2.form
    have K2' : Keep W w2 hb v m := ⟨fun k hk => Nat.le_trans b1.size (K2.low k hk), then_ b1 (K2.bel.mono (Nat.le_refl _))⟩
    have H2 := Lib.hid H2
    have L2' := Lib.hid L2
    have hLx : ∀ g, (Value.slice A2 x0.length c2).ownBlock = some g → g < w2.heap.size := fun g hg => (World.ownsRow.lt L2 g hg).2
    clear L2 K2 b1 hr'
    go_wp2_with fail
    have hb2 : Below w2.heap.size w2 (w2.alloc (.cells #[.int .i64 0, .int .i64 0] 34)) := (Below.refl _ _).alloc (Nat.le_refl _) _
    have H3 := H2.out.below hb2
    have L3 := L2'.out.below hb2
    have K3 := K2'.below hb2
    have hLB : (w2.alloc (.cells #[.int .i64 0, .int .i64 0] 34)).heap[w2.heap.size]? = some (lineObj (0, 0)) := heap_alloc_new w2 _
    have hWL : W.heap.size ≤ w2.heap.size := K2'.bel.size
    have hne : (Value.slice A2 x0.length c2).ownBlock ≠ some w2.heap.size := fun e => by have := hLx _ e; omega
    clear H2 L2' K2' hLx hb2
    generalize (w2.alloc (.cells #[.int .i64 0, .int .i64 0] 34)) = w3 at *
    generalize w2.heap.size = LB at *
    go_loopw [30, 4] (fun i vx w' => ∃ (k : Nat) (v : Value) (m : Option Nat) (x : List (Int × KI)) (last : Int × KI), i = .int .i64 k ∧ x.length + k = x0.length ∧ RepI w' hb v m x (30000 + 300 * k) ∧ Lines w' vx x ∧ Keep W w' hb v m ∧ w'.heap[LB]? = some (lineObj last) ∧ vx.ownBlock ≠ some LB ∧ (0 < k → ∀ a ∈ x, prec ltI last a = true)) (fun i _ _ => x0.length - (intOf i).toNat)
    case atStart => exact ⟨0, v, m, x0, (0, 0), rfl, by omega, H3, L3, K3, hLB, hne, fun h => by omega⟩
    case round =>
      obtain ⟨k, v, m, x, last, rfl, hk, H4, L4, K4, hl4, hn4, hp4⟩ := hrel
      clear H3 L3 K3 hLB
      have hx1 : x.length ≤ 100 := by omega
      have H4' := Lib.hid H4
      have L4' := Lib.hid L4
      have nd := H4.nd
      have hfit := H4.fits
      clear H4 L4
      by_cases hlt : k < x0.length
      · have e1 : (k : Int) < (x0.length : Int) := by omega
        have e2 : (0 : Int) ≤ (k : Int) := by omega
        have hp4 := Lib.hid hp4
        go_wp2_with fail
        refine (pop_someI hb v m x _ wr H4'.out (by omega) (by omega) (by omega)).mono ?_
        rintro r w5 ⟨a, ht, rfl, v5, m5, H5, M5⟩
        have L5 := L4'.out.moved (apart_linesI H4'.out L4'.out) M5
        have K5 := K4.moved M5
        have hl5 := M5.chg.at hl4 (apart_objI H4'.out hl4)
        have hra := rkey_some nd ht.1
        have hrh := has_mem ht.1
        have hdl := rdrop_length ht.1
        have hta := Lib.hid (top_ahead nd ht)
        have hfa := hfit a ht.1
        have hH5 := Lib.hid (H5.mono (n' := 30000 + 300 * (k + 1)) (by omega))
        have hL5 := Lib.hid L5
        have hap := apart_objI H5 hl5
        obtain ⟨d0, d1⟩ := line_cells hl5
        have fr0 := line_frozen hl5 0
        have fr1 := line_frozen hl5 1
        have htm := ht.1
        clear ht H5 L5 M5 H4' L4' hl4 K4
        go_wp2_with fail
        refine (rkey_any _ x a.1 w5 hL5.out (by omega)).mono ?_
        rintro r w6 ⟨rfl, rfl⟩
        rw [hra, hrh]
        clear hra hrh
        by_cases hk0 : k = 0
        · subst hk0
          go_wp2_with fail
          refine (rdrop_any _ x a.1 w5 hL5.out (by omega)).mono ?_
          rintro r w7 ⟨vx, rfl, L7, hf7, b7⟩
          have K7 := K5.below b7
          have H7 := Lib.hid (hH5.out.below b7)
          have hl7 := (b7.block LB ((Array.getElem?_eq_some_iff.1 hl5).1)).trans hl5
          have hLBl := (Array.getElem?_eq_some_iff.1 hl5).1
          have hn7 : vx.ownBlock ≠ some LB := fun e => by
            rcases hf7 LB e with h | h
            · exact hn4 h
            · omega
          obtain ⟨g0, g1⟩ := line_cells hl7
          have gr0 := line_frozen hl7 0
          have gr1 := line_frozen hl7 1
          have hap7 := apart_objI H7.out hl7
          have L7 := Lib.hid L7
          clear hL5 hH5 hl5 hf7 b7 hap
          go_wp2
          go_roundw
          case rel =>
            refine ⟨0 + 1, v5, m5, rdrop x a.1, a, by go_num, by omega, H7.out.wrote hap7 _ _, L7.out.wrote hn7 _ _, K7.wrote hWL _ _, line_store hl7 a, hn7, fun _ => hta.out⟩
          case measure => simp [intOf]; omega
        · have e3 : (0 : Int) < (k : Int) := by omega
          have e4 : 0 < k := by omega
          have hpa := hp4.out e4 a htm
          go_wp2_with fail
          refine (ahead_any last a w5).mono ?_
          rintro r w6 ⟨rfl, b6⟩
          rw [hpa]
          have K5 := K5.below b6
          have hL5 := Lib.hid (hL5.out.below b6)
          have hH5 := Lib.hid (hH5.out.below b6)
          have hl5 := (b6.block LB ((Array.getElem?_eq_some_iff.1 hl5).1)).trans hl5
          clear d0 d1 fr0 fr1 hpa
          go_wp2_with fail
          refine (rdrop_any _ x a.1 w6 hL5.out (by omega)).mono ?_
          rintro r w7 ⟨vx, rfl, L7, hf7, b7⟩
          have K7 := K5.below b7
          have H7 := Lib.hid (hH5.out.below b7)
          have hl7 := (b7.block LB ((Array.getElem?_eq_some_iff.1 hl5).1)).trans hl5
          have hLBl := (Array.getElem?_eq_some_iff.1 hl5).1
          have hn7 : vx.ownBlock ≠ some LB := fun e => by
            rcases hf7 LB e with h | h
            · exact hn4 h
            · omega
          obtain ⟨g0, g1⟩ := line_cells hl7
          have gr0 := line_frozen hl7 0
          have gr1 := line_frozen hl7 1
          have hap7 := apart_objI H7.out hl7
          have L7 := Lib.hid L7
          clear hL5 hH5 hl5 hf7 b7 hap
          go_wp2
          go_roundw
          case rel =>
            refine ⟨k + 1, v5, m5, rdrop x a.1, a, by go_num, by omega, H7.out.wrote hap7 _ _, L7.out.wrote hn7 _ _, K7.wrote hWL _ _, line_store hl7 a, hn7, fun _ => hta.out⟩
          case measure => simp [intOf]; omega
      · obtain rfl : k = x0.length := by omega
        have hx0 : x = [] := List.eq_nil_of_length_eq_zero (by omega)
        subst hx0
        clear hp4
        obtain ⟨A5, c5, rfl⟩ := L4'.out.form
        go_wp2_with fail
        refine (pop_noneI hb v m _ wr H4'.out).mono ?_
        rintro r w5 ⟨rfl, b5⟩
        go_wp2_with fail
        refine (len_anyI hb v m [] _ w5 (H4'.out.below b5)).mono ?_
        rintro r w6 ⟨rfl, rfl⟩
        go_wp2
        go_ret
        exact ⟨rfl, (K4.below b5).bel⟩
end Go.Proofs.Ytkdabnhhjjmibaa
