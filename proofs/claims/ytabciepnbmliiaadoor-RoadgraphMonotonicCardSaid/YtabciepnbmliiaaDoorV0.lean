/- A graph's arguments as a law gets them; Small. -/
import Derived.Test.YtabciepnbmliiaaDoorE1
set_option linter.unusedVariables false
set_option linter.unusedSimpArgs false
set_option maxRecDepth 100000
namespace Go.Proofs.YtabciepnbmliiaaDoor
open Go.RowKit Go.Lib Rg

/-- The value v is the arguments of New: N nodes, the edges l. -/
structure NetIn (W : World) (v : Value) (N : Int) (l : List Ed3) : Prop where
  ex : ∃ a cap, v = .agg #[.int .i64 N, .slice a l.length cap] ∧ Re W a l.length l ∧ l.length ≤ cap ∧ cap ≤ 9223372036854775807
  node : I64 N
  edge : ∀ e ∈ l, I64 e.1 ∧ I64 e.2.1 ∧ I64 e.2.2
theorem NetIn.below {W W' : World} {v : Value} {N : Int} {l : List Ed3} (h : NetIn W v N l) (hb : Below W.heap.size W W') : NetIn W' v N l := by
  obtain ⟨a, cap, e, h1, h2, h3⟩ := h.ex
  exact ⟨⟨a, cap, e, h1.below hb, h2, h3⟩, h.node, h.edge⟩
theorem netIn_of {H : Type} {enc : TypeId × Value → H} {W : World} {r : Reach} {b0 : Nat} {v : Value} {d : DataW H} {ps : List MemPlace} (hv : Value.okWide Tryd.prog W r b0 24 v) (h : DataW.Trod enc Tryd.prog W 0 (fun _ => true) true 24 v d ps) :
    ∃ N l, NetIn W v N l := by
  obtain ⟨N, a, len, cap, l, rfl, h1, h2, h3, h4, h5⟩ := net_of hv h
  obtain rfl : len = l.length := h2.1
  exact ⟨N, l, ⟨⟨a, cap, rfl, h2, h3, h4⟩, h1, h5⟩⟩
theorem small_any (v : Value) (N : Int) (l : List Ed3) (w : World) (h : NetIn w v N l) :
    Calls Tryd.prog 18 #[v] w fun e w' => e = .returned (.bool (decide (N ≤ 12) && decide (l.length ≤ 40))) ∧ Below w.heap.size w w' := by
  obtain ⟨a, cap, rfl, _, _, hm⟩ := h.ex
  have hb := Lib.hid ((Below.refl w.heap.size w).alloc (Nat.le_refl _) (.cells #[.int .i64 N, .slice a l.length cap] 24))
  clear h
  by_cases t1 : N ≤ 12
  · by_cases t2 : (l.length : Int) ≤ 40
    · have hr := Lib.hid (show (decide (N ≤ 12) && decide (l.length ≤ 40)) = true from by rw [decide_eq_true t1, decide_eq_true (show l.length ≤ 40 from by omega)]; rfl)
      go_enter Tryd.func18, Tryd.ntmps18
      go_wp2
      go_ret
      exact ⟨ret_b (by first | exact hr.out.symm | exact (decide_eq_false (by omega)).symm | exact (decide_eq_true (by omega)).symm), hb.out⟩
    · have hr := Lib.hid (show (decide (N ≤ 12) && decide (l.length ≤ 40)) = false from by rw [decide_eq_true t1, decide_eq_false (show ¬ l.length ≤ 40 from by omega)]; rfl)
      go_enter Tryd.func18, Tryd.ntmps18
      go_wp2
      go_ret
      exact ⟨ret_b (by first | exact hr.out.symm | exact (decide_eq_false (by omega)).symm | exact (decide_eq_true (by omega)).symm), hb.out⟩
  · have hr := Lib.hid (show (decide (N ≤ 12) && decide (l.length ≤ 40)) = false from by rw [decide_eq_false t1]; rfl)
    go_enter Tryd.func18, Tryd.ntmps18
    go_wp2
    go_ret
    exact ⟨ret_b (by first | exact hr.out.symm | exact (decide_eq_false (by omega)).symm | exact (decide_eq_true (by omega)).symm), hb.out⟩
end Go.Proofs.YtabciepnbmliiaaDoor
