/- New: walk. -/
import Derived.Test.YtabciepnbmliiaaDoorK6
set_option linter.unusedVariables false
set_option linter.unusedSimpArgs false
set_option maxRecDepth 100000
namespace Go.Proofs.YtabciepnbmliiaaDoor
open Go.RowKit Go.Lib Go.Shelf Rg

theorem run_make_lists (w : World) (n : Nat) (hn : n ≤ 1000000) : (Instr.makeSlice 62 (.int .i64 (n : Int)) (.int .i64 (n : Int))).run Tryd.prog w = .ok (.slice (some ⟨w.heap.size, 0, none⟩) n n) (w.alloc (.cells (madeCells #[.slice none 0 0] n) 42)) := by
  obtain ⟨i0, hi, hz0, hz1, hz2⟩ := info_parts info_ints
  have h := run_make (P := Tryd.prog) w 62 42 i0 _ Tryd.underlying62 hi hz0 .i64 .i64 (n : Int) (n : Int) (by omega) (by omega) (by rw [hz2]; omega) (by omega)
  rw [hz1, Int.toNat_natCast, Nat.mul_one] at h
  exact h
theorem made_row {w : World} {base g n : Nat} (hg : w.heap[g]? = some (.cells (madeCells #[.slice none 0 0] n) 42 (0, 0))) (hb : base ≤ g) (hn : n ≤ 1000000) : w.ownsRow base 42 1 (.slice (some ⟨g, 0, none⟩) n n) n (List.replicate n (.slice none 0 0)) := by
  have hsz : (madeCells #[(.slice none 0 0 : Value)] n).size = n := size_madeCells _ _
  have hl : (madeCells #[(.slice none 0 0 : Value)] n).toList = List.replicate n (.slice none 0 0) := by
    apply List.ext_getElem?
    intro i
    by_cases h : i < n
    · have := madeCells_at (.slice none 0 0) n i h
      rw [Array.getElem?_toList, this, List.getElem?_replicate, if_pos h]
    · rw [List.getElem?_eq_none (by rw [Array.length_toList, hsz]; omega), List.getElem?_eq_none (by simp; omega)]
  refine ⟨by simp, .inr ⟨g, n, madeCells #[.slice none 0 0] n, rfl, hb, hg, Nat.le_refl _, by unfold maxLen; omega, by rw [hsz]; omega, ?_⟩⟩
  rw [hl]; simp
/-- The empty graph. -/
theorem GrC.start {w : World} {base G gO gI N : Nat} (hG : w.heap[G]? = some (.cells #[.slice none 0 0, .slice (some ⟨gO, 0, none⟩) N N, .slice (some ⟨gI, 0, none⟩) N N] 70 (0, 0))) (hO : w.heap[gO]? = some (.cells (madeCells #[.slice none 0 0] N) 42 (0, 0))) (hI : w.heap[gI]? = some (.cells (madeCells #[.slice none 0 0] N) 42 (0, 0)))
    (bG : base ≤ G) (bO : base ≤ gO) (bI : base ≤ gI) (hne : gO ≠ gI) (hN : N ≤ 4096) : ∃ us is, GrC w base G (.slice none 0 0) (.slice (some ⟨gO, 0, none⟩) N N) (.slice (some ⟨gI, 0, none⟩) N N) [] us is (outsL [] N) (outsL [] N) := by
  have h0 : ∀ j : Nat, outs [] (j : Int) = [] := fun j => by simp [outs, outsTo]
  refine ⟨_, _, hG, bG, OwnE.nil _ _, by rw [outsL_length]; exact made_row hO bO (by omega), by rw [outsL_length]; exact made_row hI bI (by omega), fun g h1 h2 => ?_, by rw [outsL_length]; simp, ⟨by simp [outsL_length], fun j u p hu hp => ?_, fun i j a b _ ha hb => ?_⟩⟩
  · injection h1 with h1; injection h2 with h2; exact hne (h1.trans h2.symm)
  · have hu' : u = .slice none 0 0 := by
      have := List.mem_of_getElem? hu
      rw [List.mem_append] at this
      rcases this with q | q <;> exact List.eq_of_mem_replicate q
    have hp' : p = [] := by
      have := List.mem_of_getElem? hp
      rw [List.mem_append] at this
      rcases this with q | q <;> (unfold outsL at q; obtain ⟨k, _, rfl⟩ := List.mem_map.1 q; exact h0 k)
    subst hu' hp'
    exact OwnI.nil _ _
  · have : a = .slice none 0 0 := by
      have := List.mem_of_getElem? ha
      rw [List.mem_append] at this
      rcases this with q | q <;> exact List.eq_of_mem_replicate q
    subst this
    intro g h; cases h
/-- A graph that is built is a graph. -/
theorem GrC.done {w : World} {base G gO gI cO cI N : Nat} {vE : Value} {l : List Ed3} {us is : List Value} (h : GrC w base G vE (.slice (some ⟨gO, 0, none⟩) N cO) (.slice (some ⟨gI, 0, none⟩) N cI) l us is (outsL l N) (outsL (back l) N)) (hF : FairR N l) : GrP w base w.heap.size G N l := by
  have hlu := h.lu
  rw [outsL_length] at hlu
  have ho := h.o
  have hi := h.i
  rw [outsL_length] at ho hi
  refine ⟨hF, h.ge, (Array.getElem?_eq_some_iff.1 h.hd).1, vE, _, _, us, is, h.hd, h.e, fun g hg => own_lt h.e hg, ⟨ho, fun g hg => own_lt ho hg, fun j u hu => ?_⟩, ⟨hi, fun g hg => own_lt hi hg, fun j u hu => ?_⟩⟩
  · have hj := (List.getElem?_eq_some_iff.1 hu).1
    have := h.r.el j u (outs l j) (by rw [List.getElem?_append_left hj]; exact hu) (by rw [List.getElem?_append_left (by rw [outsL_length]; omega)]; exact outsL_at (by omega))
    exact ⟨this, fun g hg => own_lt this hg⟩
  · have hj := (List.getElem?_eq_some_iff.1 hu).1
    have hil := own_len hi
    have := h.r.el (us.length + j) u (outs (back l) j) (by rw [List.getElem?_append_right (by omega)]; simpa using hu) (by rw [List.getElem?_append_right (by rw [outsL_length]; omega), outsL_length, hlu]; simpa using outsL_at (by omega))
    exact ⟨this, fun g hg => own_lt this hg⟩
/-- One edge more, in terms of the whole lists. -/
theorem add_next (w : World) (base G : Nat) (vE : Value) (gO cO gI cI N : Nat) (l : List Ed3) (us is : List Value) (f t : Nat) (x : Int)
    (h : GrC w base G vE (.slice (some ⟨gO, 0, none⟩) N cO) (.slice (some ⟨gI, 0, none⟩) N cI) l us is (outsL l N) (outsL (back l) N)) (hf : f < N) (ht : t < N) (hN : N ≤ 4096) (hl : l.length ≤ 16384) (hbase : base ≤ w.heap.size) :
    Calls Tryd.prog 39 #[.pointer (some ⟨G, 0, none⟩), .agg #[.int .i64 (f : Int), .int .i64 (t : Int), .int .i64 x]] w fun e w' => e = .returned (.tuple #[]) ∧ Below base w w' ∧
      ∃ vE' us' is', GrC w' base G vE' (.slice (some ⟨gO, 0, none⟩) N cO) (.slice (some ⟨gI, 0, none⟩) N cI) (l ++ [((f : Int), (t : Int), x)]) us' is' (outsL (l ++ [((f : Int), (t : Int), x)]) N) (outsL (back (l ++ [((f : Int), (t : Int), x)])) N) := by
  have hlu := h.lu
  have hli := own_len h.i
  rw [outsL_length] at hlu hli
  have h' : GrC w base G vE (.slice (some ⟨gO, 0, none⟩) (outsL l N).length cO) (.slice (some ⟨gI, 0, none⟩) (outsL (back l) N).length cI) l us is (outsL l N) (outsL (back l) N) := by rw [outsL_length, outsL_length]; exact h
  have hol : ∀ (l : List Ed3) (v : Int), l.length ≤ 16384 → (outs l v).length ≤ 100000 := fun l v hl => by have := outsTo_length l v l.length; unfold outs; omega
  refine (add_edge w base G vE .nilFunc gO cO gI cI l us is (outsL l N) (outsL (back l) N) f t x us[f] is[t] (outs l f) (outs (back l) t) h' (List.getElem?_eq_getElem (by omega)) (outsL_at hf) (List.getElem?_eq_getElem (by omega)) (outsL_at ht) (by omega) (hol _ _ hl) (hol _ _ (by rw [back_length]; exact hl)) (by rw [outsL_length]; omega) (by rw [outsL_length]; omega) hbase).mono ?_
  rintro e w' ⟨he, hB, vE', u', i', hg⟩
  rw [outsL_length, outsL_length] at hg
  refine ⟨he, hB, vE', us.set f u', is.set t i', ?_⟩
  rw [outsL_snoc (l := l) (e := ((f : Int), (t : Int), x)) (j := f) rfl, insL_snoc (l := l) (e := ((f : Int), (t : Int), x)) (j := t) rfl]
  exact hg
theorem isTime_any (x : Int) (w : World) : Calls Tryd.prog 38 #[.int .i64 x] w fun e w' => e = .returned (.bool (decide (x = inf) || decide (1 ≤ x) && decide (x ≤ 1048576))) ∧ w = w' := by
  by_cases h1 : x = 4611686018427387904
  · have : (x == 4611686018427387904) = true := by simp [h1]
    go_enter Tryd.func38, Tryd.ntmps38
    go_wp2
    go_ret
    exact ⟨ret_b (by simp [h1]), rfl⟩
  · have h1' : (x == 4611686018427387904) = false := by simp [h1]
    by_cases h2 : 1 ≤ x
    · by_cases h3 : x ≤ 1048576
      · have hr := Lib.hid (show (decide (x = inf) || decide (1 ≤ x) && decide (x ≤ 1048576)) = true from by rw [decide_eq_true h2, decide_eq_true h3]; simp)
        have H1 := Lib.hid h1; clear h1
        go_enter Tryd.func38, Tryd.ntmps38
        go_wp2
        go_ret
        exact ⟨ret_b (by have h1 := H1.out; first | exact hr.out.symm | (simp; omega) | (simp; exact ⟨h1, by omega⟩) | (simp; exact fun h => absurd h h1)), rfl⟩
      · have hr := Lib.hid (show (decide (x = inf) || decide (1 ≤ x) && decide (x ≤ 1048576)) = false from by rw [decide_eq_false h1, decide_eq_false h3]; simp)
        have H1 := Lib.hid h1; clear h1
        go_enter Tryd.func38, Tryd.ntmps38
        go_wp2
        go_ret
        exact ⟨ret_b (by have h1 := H1.out; first | exact hr.out.symm | (simp; omega) | (simp; exact ⟨h1, by omega⟩) | (simp; exact fun h => absurd h h1)), rfl⟩
    · have hr := Lib.hid (show (decide (x = inf) || decide (1 ≤ x) && decide (x ≤ 1048576)) = false from by rw [decide_eq_false h1, decide_eq_false h2]; simp)
      have H1 := Lib.hid h1; clear h1
      go_enter Tryd.func38, Tryd.ntmps38
      go_wp2
      go_ret
      exact ⟨ret_b (by have h1 := H1.out; first | exact hr.out.symm | (simp; omega) | (simp; exact ⟨h1, by omega⟩) | (simp; exact fun h => absurd h h1)), rfl⟩
end Go.Proofs.YtabciepnbmliiaaDoor
