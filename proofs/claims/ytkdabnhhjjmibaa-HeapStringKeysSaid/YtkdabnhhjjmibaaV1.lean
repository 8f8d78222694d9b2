/- The laws' small functions: wakes, same. -/
import Derived.Test.YtkdabnhhjjmibaaR4
namespace Go.Proofs.Ytkdabnhhjjmibaa
open Go.RowKit Go.Lib Hp

theorem cells_type {w : World} {g : Nat} {a b : Array Value} {s t : TypeId} {f f' : Nat × Nat} (h : w.heap[g]? = some (.cells a s f)) (h' : w.heap[g]? = some (.cells b t f')) : s = t := by
  have := h.symm.trans h'
  injection this with this
  injection this

theorem Lines.obj' {w : World} {v : Value} {l : List (Int × KI)} (h : Lines w v l) {g : Nat} (hg : v.ownBlock = some g) : ∃ cur, w.heap[g]? = some (.cells cur 34 (0, 0)) := h.obj hg

theorem apart_linesI {w : World} {hb : Nat} {v : Value} {m : Option Nat} {x : List (Int × KI)} {n : Nat} {vx : Value} {l : List (Int × KI)} (H : RepI w hb v m x n) (hL : Lines w vx l) : ∀ g, vx.ownBlock = some g → ¬ foot hb v m g := by
  rintro g hg (h | h | h)
  · obtain ⟨s, H, _⟩ := H
    obtain ⟨cur, h1⟩ := hL.obj hg
    have h2 := H.hd
    rw [← h] at h2
    exact absurd (cells_type h1 h2) (by decide)
  · obtain ⟨s, H, _⟩ := H
    obtain ⟨cur, h1⟩ := hL.obj hg
    obtain ⟨cur2, h2⟩ := H.row.obj h
    exact absurd (cells_type h1 h2) (by decide)
  · obtain ⟨s, H, _⟩ := H
    obtain ⟨cur, h1⟩ := hL.obj hg
    obtain ⟨es, c, h2⟩ := H.map.lt g h
    have := h1.symm.trans h2
    injection this with this
    cases this
theorem Lines.moved {w w' : World} {hb : Nat} {v v' : Value} {m m' : Option Nat} {vx : Value} {l : List (Int × KI)} (hL : Lines w vx l) (hA : ∀ g, vx.ownBlock = some g → ¬ foot hb v m g) (hM : Moved hb v m v' m' w w') : Lines w' vx l :=
  hL.kept fun g hg => hM.chg.block g ((World.ownsRow.lt hL g hg).2) (hA g hg)

/-- What a law keeps of memory: the heap's blocks are new, all that was there lies as it lay. -/
structure Keep (W w : World) (hb : Nat) (v : Value) (m : Option Nat) : Prop where
  low : ∀ k, foot hb v m k → W.heap.size ≤ k
  bel : Below W.heap.size W w
theorem Keep.moved {W w w' : World} {hb : Nat} {v v' : Value} {m m' : Option Nat} (h : Keep W w hb v m) (hM : Moved hb v m v' m' w w') : Keep W w' hb v' m' :=
  ⟨fun k hk => by rcases hM.sub k hk with h1 | h1; exact h.low k h1; exact Nat.le_trans h.bel.size h1, h.bel.trans (hM.chg.belowAt h.bel.size h.low)⟩
theorem Keep.below {W w w' : World} {hb : Nat} {v : Value} {m : Option Nat} (h : Keep W w hb v m) (hM : Below w.heap.size w w') : Keep W w' hb v m := ⟨h.low, then_ h.bel hM⟩
theorem Keep.new {W w w' : World} (h : Below W.heap.size W w) (h2 : Below w.heap.size w w') : Keep W w' w.heap.size (.slice none 0 0) none := by
  refine ⟨?_, then_ h h2⟩
  rintro k (h1 | h1 | h1)
  · rw [h1]; exact h.size
  · cases h1
  · cases h1

theorem top_is {x : List (Int × KI)} {m a : Int × KI} (h : IsTop ltI x m) (ha : IsTop ltI x a) : m = a := h.unique strictI ha fun _ => Iff.rfl
theorem isTop_of {x : List (Int × KI)} {a : Int × KI} (h : (x.contains a && x.all fun b => !prec ltI b a) = true) : IsTop ltI x a := by
  simp only [Bool.and_eq_true, List.contains_iff_mem, List.all_eq_true, Bool.not_eq_true'] at h
  exact h

set_option maxRecDepth 100000 in
theorem wakes_any (w : World) : Calls Try.prog 9 #[] w fun r w' => r = .returned (.bool true) ∧ Below w.heap.size w w' := by
  go_enter Try.func9, Try.ntmps9
  go_wp2_with fail
  refine (new_anyI w).mono ?_
  rintro r w1 ⟨rfl, H1, b1⟩
  have K1 := Keep.new (Below.refl _ w) b1
  generalize w.heap.size = hb at H1 K1 b1 ⊢
  have H1 := Lib.hid H1
  have ht1 : IsTop ltI [(5, 0), (9, 1), (7, 1)] (5, 0) := isTop_of (by decide)
  have ht2 : IsTop ltI [(9, 1), (7, 1)] (7, 1) := isTop_of (by decide)
  have ht3 : IsTop ltI [(9, 1)] (9, 1) := isTop_of (by decide)
  have ht1 := Lib.hid ht1
  have ht2 := Lib.hid ht2
  have ht3 := Lib.hid ht3
  go_wp2_with fail
  refine (put_anyI hb _ _ [] 0 5 2 w1 H1.out (WalkArith.wf_i64 (by omega)) (by simp) (by omega)).mono ?_
  rintro r w2 ⟨⟨u2, rfl⟩, v2, m2, H2, M2⟩
  have K2 := K1.moved M2
  have H2 := Lib.hid (H2.mono (n' := 10) (by simp))
  go_wp2_with fail
  refine (put_anyI hb v2 m2 _ 10 9 1 w2 H2.out (WalkArith.wf_i64 (by omega)) (by decide) (by omega)).mono ?_
  rintro r w3 ⟨⟨u3, rfl⟩, v3, m3, H3, M3⟩
  have K3 := K2.moved M3
  have H3 := Lib.hid (H3.mono (n' := 20) (by simp [rput]))
  go_wp2_with fail
  refine (put_anyI hb v3 m3 _ 20 7 1 w3 H3.out (WalkArith.wf_i64 (by omega)) (by decide) (by omega)).mono ?_
  rintro r w4 ⟨⟨u4, rfl⟩, v4, m4, H4, M4⟩
  have K4 := K3.moved M4
  have H4 := Lib.hid (H4.mono (n' := 40) (by simp [rput]))
  go_wp2_with fail
  refine (put_anyI hb v4 m4 _ 40 5 0 w4 H4.out (WalkArith.wf_i64 (by omega)) (by decide) (by omega)).mono ?_
  rintro r w5 ⟨⟨u5, rfl⟩, v5, m5, H5, M5⟩
  have K5 := K4.moved M5
  have H5 := Lib.hid (show RepI w5 hb v5 m5 [(5, 0), (9, 1), (7, 1)] 60 from H5.mono (n' := 60) (by simp [rput]))
  go_wp2_with fail
  refine (pop_someI hb v5 m5 _ 60 w5 H5.out (by decide) (by decide) (by omega)).mono ?_
  rintro r w6 ⟨a, ht, rfl, v6, m6, H6, M6⟩
  obtain rfl := top_is ht ht1.out
  have K6 := K5.moved M6
  have H6 := Lib.hid (show RepI w6 hb v6 m6 [(9, 1), (7, 1)] 80 from H6.mono (n' := 80) (by simp))
  go_wp2_with fail
  refine (pop_someI hb v6 m6 _ 80 w6 H6.out (by decide) (by decide) (by omega)).mono ?_
  rintro r w7 ⟨a, ht, rfl, v7, m7, H7, M7⟩
  obtain rfl := top_is ht ht2.out
  have K7 := K6.moved M7
  have H7 := Lib.hid (show RepI w7 hb v7 m7 [(9, 1)] 100 from H7.mono (n' := 100) (by simp))
  go_wp2_with fail
  refine (pop_someI hb v7 m7 _ 100 w7 H7.out (by decide) (by decide) (by omega)).mono ?_
  rintro r w8 ⟨a, ht, rfl, v8, m8, H8, M8⟩
  obtain rfl := top_is ht ht3.out
  have K8 := K7.moved M8
  have H8 := Lib.hid (show RepI w8 hb v8 m8 [] 120 from H8.mono (n' := 120) (by simp))
  clear M2 M3 M4 M5 M6 M7 M8 K1 K2 K3 K4 K5 K6 K7
  go_wp2_with fail
  refine (len_anyI hb v8 m8 [] 120 w8 H8.out).mono ?_
  rintro r w9 ⟨rfl, rfl⟩
  go_wp2
  go_ret
  exact ⟨rfl, K8.bel⟩

theorem same_none (hb : Nat) (v : Value) (m : Option Nat) (n : Nat) (vx : Value) (y : Int) (w : World) (H : RepI w hb v m [] n) (hL : Lines w vx []) (hy : Fits y) : Calls Try.prog 17 #[.pointer (some ⟨hb, 0, none⟩), vx, .int .i64 y] w fun r w' => r = .returned (.bool true) ∧ Below w.heap.size w w' := by
  have H := Lib.hid H
  have hL := Lib.hid hL
  obtain ⟨A, cap, rfl⟩ := hL.out.form
  obtain ⟨c, hc⟩ : ∃ c, (rkey ([] : List (Int × KI)) y).getD 0 = c := ⟨_, rfl⟩
  obtain ⟨t, ht⟩ : ∃ t, rhas ([] : List (Int × KI)) y = t := ⟨_, rfl⟩
  go_enter Try.func17, Try.ntmps17
  go_wp2_with fail
  refine (min_noneI hb v m n w H.out).mono ?_
  rintro r w1 ⟨rfl, b1⟩
  go_wp2_with fail
  refine (rtop_none _ w1 (hL.out.below b1)).mono ?_
  rintro r w2 ⟨rfl, b2⟩
  have B2 := then_ b1 b2
  go_wp2_with fail
  refine (key_anyI hb v m [] n y _ (H.out.below (B2.alloc B2.size _)) hy).mono ?_
  rintro r w3 ⟨rfl, rfl⟩
  rw [hc, ht]
  go_wp2_with fail
  refine (rkey_any _ [] y _ (hL.out.below (B2.alloc B2.size _)) (by simp)).mono ?_
  rintro r w3 ⟨rfl, rfl⟩
  rw [hc, ht]
  go_wp2_with fail
  refine (len_anyI hb v m [] n _ (H.out.below (B2.alloc B2.size _))).mono ?_
  rintro r w3 ⟨rfl, rfl⟩
  go_wp2
  go_ret
  exact ⟨rfl, B2.alloc B2.size _⟩

theorem same_some (hb : Nat) (v : Value) (m : Option Nat) (x : List (Int × KI)) (n : Nat) (vx : Value) (y : Int) (w : World) (H : RepI w hb v m x n) (hL : Lines w vx x) (hy : Fits y) (h0 : 0 < x.length) (hl : x.length ≤ 10000) : Calls Try.prog 17 #[.pointer (some ⟨hb, 0, none⟩), vx, .int .i64 y] w fun r w' => r = .returned (.bool true) ∧ Below w.heap.size w w' := by
  have H' := Lib.hid H
  have hL' := Lib.hid hL
  clear H hL
  obtain ⟨A, cap, rfl⟩ := hL'.out.form
  obtain ⟨c, hc⟩ : ∃ c, (rkey x y).getD 0 = c := ⟨_, rfl⟩
  obtain ⟨t, ht⟩ : ∃ t, rhas x y = t := ⟨_, rfl⟩
  have hc := Lib.hid hc
  have ht := Lib.hid ht
  go_enter Try.func17, Try.ntmps17
  go_wp2_with fail
  refine (min_someI hb v m x n w H'.out h0).mono ?_
  rintro r w1 ⟨a, ha, rfl, b1⟩
  have ha := Lib.hid ha
  go_wp2_with fail
  refine (rtop_some _ x w1 (hL'.out.below b1) hl h0).mono ?_
  rintro r w2 ⟨a', ha', rfl, b2⟩
  obtain rfl := top_is ha' ha.out
  clear ha'
  have B2 := then_ b1 b2
  go_wp2_with fail
  refine (key_anyI hb v m x n y _ (H'.out.below (B2.alloc B2.size _)) hy).mono ?_
  rintro r w3 ⟨rfl, rfl⟩
  rw [hc.out, ht.out]
  go_wp2_with fail
  refine (rkey_any _ x y _ (hL'.out.below (B2.alloc B2.size _)) hl).mono ?_
  rintro r w3 ⟨rfl, rfl⟩
  rw [hc.out, ht.out]
  go_wp2_with fail
  refine (len_anyI hb v m x n _ (H'.out.below (B2.alloc B2.size _))).mono ?_
  rintro r w3 ⟨rfl, rfl⟩
  go_wp2
  go_ret
  exact ⟨rfl, B2.alloc B2.size _⟩

theorem same_any (hb : Nat) (v : Value) (m : Option Nat) (x : List (Int × KI)) (n : Nat) (vx : Value) (y : Int) (w : World) (H : RepI w hb v m x n) (hL : Lines w vx x) (hy : Fits y) (hl : x.length ≤ 10000) : Calls Try.prog 17 #[.pointer (some ⟨hb, 0, none⟩), vx, .int .i64 y] w fun r w' => r = .returned (.bool true) ∧ Below w.heap.size w w' := by
  cases x with
  | nil => exact same_none hb v m n vx y w H hL hy
  | cons a t => exact same_some hb v m (a :: t) n vx y w H hL hy (by simp) hl
end Go.Proofs.Ytkdabnhhjjmibaa
