/- Compare; rows behind a sort. -/
import Derived.Test.YtabciepnbmliiaaDoorKB
import Derived.Sort.OwnSortedInts
import Derived.Shelf.GgSortFunc.SW
import Derived.Shelf.SlSortCmp.Kit1
set_option linter.unusedVariables false
set_option linter.unusedSimpArgs false
set_option maxRecDepth 100000
namespace Rg
theorem cmpL_self : ∀ x, cmpL x x = 0
  | [] => rfl
  | a :: r => by unfold cmpL; rw [if_neg (by omega), if_neg (by omega)]; exact cmpL_self r
theorem cmpL_lt {a b : Int} (r s : List Int) (h : a < b) : cmpL (a :: r) (b :: s) = -1 := by unfold cmpL; rw [if_pos h]
theorem cmpL_gt {a b : Int} (r s : List Int) (h : b < a) : cmpL (a :: r) (b :: s) = 1 := by unfold cmpL; rw [if_neg (by omega), if_pos h]
theorem cmpL_eq (a : Int) (r s : List Int) : cmpL (a :: r) (a :: s) = cmpL r s := by rw [cmpL]; rw [if_neg (by omega), if_neg (by omega)]
theorem cmpL_anti : ∀ x y, cmpL y x = - cmpL x y
  | [], [] => rfl
  | [], _ :: _ => rfl
  | _ :: _, [] => rfl
  | a :: r, b :: s => by
    by_cases h1 : a < b
    · rw [cmpL_lt _ _ h1, cmpL_gt _ _ h1]; rfl
    · by_cases h2 : b < a
      · rw [cmpL_gt _ _ h2, cmpL_lt _ _ h2]
      · obtain rfl : a = b := by omega
        rw [cmpL_eq, cmpL_eq]; exact cmpL_anti r s
theorem cmpL_trans : ∀ x y z, cmpL x y ≤ 0 → cmpL y z ≤ 0 → cmpL x z ≤ 0 ∧ (cmpL x y < 0 ∨ cmpL y z < 0 → cmpL x z < 0)
  | [], [], [], _, _ => by simp [cmpL]
  | [], [], _ :: _, _, _ => by simp [cmpL]
  | [], _ :: _, [], _, h => by simp [cmpL] at h
  | [], _ :: _, _ :: _, _, _ => by simp [cmpL]
  | _ :: _, [], _, h, _ => by simp [cmpL] at h
  | _ :: _, _ :: _, [], _, h => by simp [cmpL] at h
  | a :: r, b :: s, c :: t, h1, h2 => by
    by_cases q1 : a < b
    · by_cases q3 : c < b
      · rw [cmpL_gt _ _ q3] at h2; omega
      · rw [cmpL_lt r t (show a < c by omega)]; exact ⟨by omega, fun _ => by omega⟩
    · by_cases q4 : b < a
      · rw [cmpL_gt _ _ q4] at h1; omega
      · obtain rfl : a = b := by omega
        by_cases q2 : a < c
        · rw [cmpL_lt r t q2]; exact ⟨by omega, fun _ => by omega⟩
        · by_cases q3 : c < a
          · rw [cmpL_gt _ _ q3] at h2; omega
          · obtain rfl : a = c := by omega
            rw [cmpL_eq] at h1 h2
            rw [cmpL_eq, cmpL_eq, cmpL_eq]
            exact cmpL_trans r s t h1 h2
theorem cmpL_swo {α : Type} (f : α → List Int) : Go.Sort.SWO (Go.Proofs.ltOf fun x y => cmpL (f x) (f y)) where
  irrefl x := by show decide (cmpL (f x) (f x) < 0) = false; rw [cmpL_self]; rfl
  trans x y z h1 h2 := by
    have h1 : decide (cmpL (f x) (f y) < 0) = true := h1
    have h2 : decide (cmpL (f y) (f z) < 0) = true := h2
    show decide (cmpL (f x) (f z) < 0) = true
    simp only [decide_eq_true_eq] at *
    exact (cmpL_trans _ _ _ (by omega) (by omega)).2 (.inl h1)
  ntrans x y z h1 h2 := by
    have h1 : decide (cmpL (f x) (f y) < 0) = false := h1
    have h2 : decide (cmpL (f y) (f z) < 0) = false := h2
    show decide (cmpL (f x) (f z) < 0) = false
    simp only [decide_eq_false_iff_not] at *
    have a1 := cmpL_anti (f x) (f y)
    have a2 := cmpL_anti (f y) (f z)
    have a3 := cmpL_anti (f x) (f z)
    have := (cmpL_trans (f z) (f y) (f x) (by omega) (by omega)).1
    omega
theorem cmpL_step {xs ys : List Int} {k : Nat} (h1 : k < xs.length) (h2 : k < ys.length) : cmpL (xs.drop k) (ys.drop k) = if xs.getD k 0 < ys.getD k 0 then -1 else if ys.getD k 0 < xs.getD k 0 then 1 else cmpL (xs.drop (k + 1)) (ys.drop (k + 1)) := by
  rw [List.drop_eq_getElem_cons h1, List.drop_eq_getElem_cons h2]
  rw [List.getD_eq_getElem?_getD, List.getD_eq_getElem?_getD, List.getElem?_eq_getElem h1, List.getElem?_eq_getElem h2]
  rfl
end Rg
namespace Go.Proofs.YtabciepnbmliiaaDoor
open Go.RowKit Go.Lib Go.Shelf Rg

theorem isNaN_any (x : Int) (w : World) : Calls Tryd.prog 81 #[.int .i64 x] w fun e w' => e = .returned (.bool false) ∧ w = w' := by
  have h : (x != x) = false := by simp
  go_enter Tryd.func81, Tryd.ntmps81
  go_wp2
  go_ret
  exact ⟨ret_b (by simp), rfl⟩
theorem ccompare_any (x y : Int) (w : World) : Calls Tryd.prog 60 #[.int .i64 x, .int .i64 y] w fun e w' => e = .returned (.int .i64 (if x < y then -1 else if y < x then 1 else 0)) ∧ w = w' := by
  by_cases h1 : x < y
  · have hr := Lib.hid (show (if x < y then (-1 : Int) else if y < x then 1 else 0) = -1 from if_pos h1)
    go_enter Tryd.func60, Tryd.ntmps60
    go_wp2_with (go_at_call 81; refine (isNaN_any _ _).mono ?_; rintro e w' ⟨rfl, rfl⟩)
    go_ret
    exact ⟨ret_i (by first | exact hr.out.symm | rfl), rfl⟩
  · by_cases h2 : y < x
    · have hr := Lib.hid (show (if x < y then (-1 : Int) else if y < x then 1 else 0) = 1 from by rw [if_neg h1, if_pos h2])
      go_enter Tryd.func60, Tryd.ntmps60
      go_wp2_with (go_at_call 81; refine (isNaN_any _ _).mono ?_; rintro e w' ⟨rfl, rfl⟩)
      go_ret
      exact ⟨ret_i (by first | exact hr.out.symm | rfl), rfl⟩
    · have hr := Lib.hid (show (if x < y then (-1 : Int) else if y < x then 1 else 0) = 0 from by rw [if_neg h1, if_neg h2])
      go_enter Tryd.func60, Tryd.ntmps60
      go_wp2_with (go_at_call 81; refine (isNaN_any _ _).mono ?_; rintro e w' ⟨rfl, rfl⟩)
      go_ret
      exact ⟨ret_i (by first | exact hr.out.symm | rfl), rfl⟩
set_option maxHeartbeats 1000000 in
theorem compare_any (A B : Option Addr) (n m c d : Nat) (xs ys : List Int) (w : World) (hr : Rd w A n xs) (hs : Rd w B m ys) (hn : n ≤ 1000000) (hm : m ≤ 1000000) :
    Calls Tryd.prog 51 #[.slice A n c, .slice B m d] w fun e w' => e = .returned (.int .i64 (cmpL xs ys)) ∧ w = w' := by
  have hl1 : n ≤ xs.length := Nat.le_of_eq hr.1
  have hl2 : xs.length ≤ n := Nat.le_of_eq hr.1.symm
  have hk1 : m ≤ ys.length := Nat.le_of_eq hs.1
  have hk2 : ys.length ≤ m := Nat.le_of_eq hs.1.symm
  go_enter Tryd.func51, Tryd.ntmps51
  go_wp2
  go_loop [11] (fun i => ∃ k : Nat, i = .int .i64 k ∧ k ≤ n ∧ k ≤ m ∧ Hid (cmpL (xs.drop k) (ys.drop k) = cmpL xs ys)) (fun i => n - (RowKit.intOf i).toNat)
  case atStart => exact ⟨0, rfl, by omega, by omega, by show _ = _; simp⟩
  case round =>
    obtain ⟨k, rfl, h1, h2, hc⟩ := hrel
    by_cases hlt : k < n
    · obtain ⟨ad, rfl, hca⟩ := hr.at_ hlt
      have hkn : (k : Int) < (n : Int) := by omega
      by_cases hlm : k < m
      · obtain ⟨bd, rfl, hcb⟩ := hs.at_ hlm
        have hkm : (k : Int) < (m : Int) := by omega
        have hst := hc.out
        rw [cmpL_step (by omega) (by omega)] at hst
        generalize xs.getD k 0 = x at *
        generalize ys.getD k 0 = y at *
        clear hr hs hc
        by_cases q1 : x < y
        · rw [if_pos q1] at hst
          have HST := Lib.hid hst; clear hst
          have hcc := fun W => ccompare_any x y W
          rw [if_pos q1] at hcc
          have HCC := Lib.hid hcc; clear hcc
          clear q1
          go_wp2_with (go_at_call 60; refine (HCC.out _).mono ?_; rintro e w' ⟨rfl, rfl⟩)
          go_ret
          exact ⟨ret_i HST.out, rfl⟩
        · by_cases q2 : y < x
          · rw [if_neg q1, if_pos q2] at hst
            have HST := Lib.hid hst; clear hst
            have hcc := fun W => ccompare_any x y W
            rw [if_neg q1, if_pos q2] at hcc
            have HCC := Lib.hid hcc; clear hcc
            clear q1 q2
            go_wp2_with (go_at_call 60; refine (HCC.out _).mono ?_; rintro e w' ⟨rfl, rfl⟩)
            go_ret
            exact ⟨ret_i HST.out, rfl⟩
          · rw [if_neg q1, if_neg q2] at hst
            have HST := Lib.hid hst; clear hst
            have hcc := fun W => ccompare_any x y W
            rw [if_neg q1, if_neg q2] at hcc
            have HCC := Lib.hid hcc; clear hcc
            clear q1 q2
            go_wp2_with (go_at_call 60; refine (HCC.out _).mono ?_; rintro e w' ⟨rfl, rfl⟩)
            go_round
            case rel => exact ⟨k + 1, by go_num, by omega, by omega, HST.out⟩
            case measure => simp [RowKit.intOf]; omega
      · have hst := hc.out
        have hxd : xs.drop k ≠ [] := by rw [Ne, List.drop_eq_nil_iff]; omega
        rw [List.drop_of_length_le (l := ys) (by omega)] at hst
        have hone : cmpL (xs.drop k) [] = 1 := by
          cases hd : xs.drop k with
          | nil => exact absurd hd hxd
          | cons a r => rfl
        rw [hone] at hst
        have HST := Lib.hid hst; clear hst hc hone hxd
        have hmk : (m : Int) ≤ (k : Int) := by omega
        clear hs
        go_wp2_with fail
        go_ret
        exact ⟨ret_i HST.out, rfl⟩
    · have hst := hc.out
      rw [List.drop_of_length_le (l := xs) (by omega)] at hst
      by_cases hlm : k < m
      · have hyd : ys.drop k ≠ [] := by rw [Ne, List.drop_eq_nil_iff]; omega
        have hone : cmpL [] (ys.drop k) = -1 := by
          cases hd : ys.drop k with
          | nil => exact absurd hd hyd
          | cons a r => rfl
        rw [hone] at hst
        have HST := Lib.hid hst; clear hst hc hone hyd
        have hnm : (n : Int) < (m : Int) := by omega
        clear hr hs
        go_wp2_with fail
        go_ret
        exact ⟨ret_i HST.out, rfl⟩
      · rw [List.drop_of_length_le (l := ys) (by omega)] at hst
        have HST := Lib.hid (show (0 : Int) = cmpL xs ys from hst); clear hst hc
        have hnm : (m : Int) ≤ (n : Int) := by omega
        clear hr hs
        go_wp2_with fail
        go_ret
        exact ⟨ret_i HST.out, rfl⟩

/-! ### A row behind a sort -/
section
open Go.Sort
variable {α : Type} [Inhabited α]
theorem holds_of_row {enc : α → Value} {w : World} {base g n cap : Nat} {T : TypeId} {xs : List Value} {d : Array α} (h : w.ownsRow base T 1 (.slice (some ⟨g, 0, none⟩) n cap) n xs) (hd : d.size = n) (hx : ∀ (j : Nat), j < n → xs[j]? = some (enc d[j]!)) : Holds enc w g 0 d := by
  intro j hj
  obtain ⟨h1, h2⟩ := row_cell h (hx j (by omega))
  rw [Nat.zero_add]
  exact ⟨h1, h2⟩
theorem heap_sortedG {enc : α → Value} {w : World} {g n : Nat} {os : Array Obj} {cur : Array Value} {e : TypeId} {fr : Nat × Nat} (d : Array α) (hb : w.heap[g]? = some (.cells cur e fr)) :
    (grow (putRow enc (Sort.ahead w n) g 0 d) os).heap[g]? = some (.cells (putCells enc 0 d cur) e fr) := by
  have hg : g < w.heap.size := (Array.getElem?_eq_some_iff.1 hb).1
  rw [heap_grow_old _ _ (by simpa using hg)]
  simp [putRow, mapBlock, Sort.ahead, Array.getElem?_modify, hb, onCells]
theorem grownBy_sortedG {enc : α → Value} {w : World} {g n : Nat} {os : Array Obj} (d : Array α) : w.grownBy (grow (putRow enc (Sort.ahead w n) g 0 d) os) (some g) := by
  refine ⟨rfl, rfl, rfl, by simp, fun k hk hne => ?_⟩
  rw [heap_grow_old _ _ (by simpa using hk)]
  have : g ≠ k := fun e => hne (by rw [e])
  simp [putRow, mapBlock, Sort.ahead, Array.getElem?_modify, this]
theorem ownsRow_sortedG {enc : α → Value} {w : World} {base g cap n k : Nat} {T : TypeId} {os : Array Obj} {xs : List Value} {d : Array α} (h : w.ownsRow base T 1 (.slice (some ⟨g, 0, none⟩) n cap) n xs) (hd : d.size = n) :
    (grow (putRow enc (Sort.ahead w k) g 0 d) os).ownsRow base T 1 (.slice (some ⟨g, 0, none⟩) n cap) n (d.toList.map enc) := by
  rcases h.2 with ⟨h', _⟩ | ⟨g', cap', cur, h', hb, hg, hnc, hcm, hcs, htake⟩
  · cases h'
  · simp only [Value.slice.injEq, Option.some.injEq, Addr.mk.injEq, and_true, true_and] at h'
    obtain ⟨rfl, rfl⟩ := h'
    refine ⟨by simp [hd], .inr ⟨g, cap, _, rfl, hb, heap_sortedG _ hg, hnc, hcm, by simp [putCells, hcs], ?_⟩⟩
    rw [Nat.mul_one]
    apply List.ext_getElem?
    intro j
    by_cases hj : j < n
    · rw [List.getElem?_take_of_lt hj, Array.getElem?_toList]
      have hjc : j < cur.size := by omega
      simp [putCells, hd, hj, hjc, List.getElem?_eq_getElem (show j < d.toList.length by simp [hd]; exact hj)]
    · rw [List.getElem?_take_eq_none (by omega), List.getElem?_eq_none (by simp [hd]; omega)]
end
end Go.Proofs.YtabciepnbmliiaaDoor
