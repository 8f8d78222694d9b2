/- Where a run lies in the list of a set's nodes: plain facts. -/
import Derived.Test.YtggalncjookkiaaDoorParse
namespace Nds
open Go Go.Lib

def ints' (l : List Nat) : List Int := l.map fun (n : Nat) => (n : Int)

theorem elsR_mid (R1 R2 : List (Nat × Nat)) (r : Nat × Nat) : elsR (R1 ++ r :: R2) = elsR R1 ++ (span r ++ elsR R2) := by
  unfold elsR; rw [List.flatMap_append, List.flatMap_cons]
theorem elsR_snoc (R1 : List (Nat × Nat)) (r : Nat × Nat) (h : r.1 ≤ r.2) : (elsR (R1 ++ [r])).length = (elsR R1).length + (r.2 - r.1) + 1 := by
  rw [elsR_mid]
  simp only [List.length_append, span, List.length_range']
  simp [elsR]; omega

theorem mid_inv {R1 R2 : List (Nat × Nat)} {r : Nat × Nat} (hv : RV 0 (R1 ++ r :: R2)) : r.1 ≤ r.2 ∧ r.2 < 4096 ∧ RV (r.2 + 2) R2 := by
  obtain ⟨_, hi, h2, _⟩ := RV_split hv
  obtain ⟨_, b, c, d⟩ := h2.inv
  exact ⟨b, c, d⟩

theorem mid_at (R1 R2 : List (Nat × Nat)) (r : Nat × Nat) (j : Nat) (hj : j ≤ r.2 - r.1) (h : r.1 ≤ r.2) : (ints' (elsR (R1 ++ r :: R2))).getD ((elsR R1).length + j) 0 = ((r.1 + j : Nat) : Int) := by
  rw [elsR_mid]
  unfold ints'
  rw [List.getD_eq_getElem?_getD, List.getElem?_map, List.getElem?_append_right (by omega), show (elsR R1).length + j - (elsR R1).length = j by omega]
  rw [List.getElem?_append_left (by simp [span]; omega)]
  simp only [span]
  rw [List.getElem?_range' (by omega)]
  simp

theorem mid_len (R1 R2 : List (Nat × Nat)) (r : Nat × Nat) (h : r.1 ≤ r.2) : (elsR R1).length + (r.2 - r.1) < (ints' (elsR (R1 ++ r :: R2))).length := by
  unfold ints'
  rw [elsR_mid, List.length_map]
  simp only [List.length_append, span, List.length_range']
  omega

theorem mid_next (R1 R2 : List (Nat × Nat)) (r : Nat × Nat) (hv : RV 0 (R1 ++ r :: R2)) (hl : (elsR R1).length + (r.2 - r.1) + 1 < (ints' (elsR (R1 ++ r :: R2))).length) :
    ((r.2 : Int) + 1) < (ints' (elsR (R1 ++ r :: R2))).getD ((elsR R1).length + (r.2 - r.1) + 1) 0 := by
  obtain ⟨h1, h2, h3⟩ := mid_inv hv
  unfold ints' at *
  rw [elsR_mid] at *
  rw [List.length_map] at hl
  simp only [List.length_append, span, List.length_range'] at hl
  rw [List.getD_eq_getElem?_getD, List.getElem?_map, List.getElem?_append_right (by omega), List.getElem?_append_right (by simp only [span, List.length_range']; omega)]
  simp only [span, List.length_range']
  have hk : (elsR R1).length + (r.2 - r.1) + 1 - (elsR R1).length - (r.2 + 1 - r.1) < (elsR R2).length := by omega
  rw [List.getElem?_eq_getElem hk]
  have := (mem_elsR_lo h3 _ (List.getElem_mem hk)).1
  simp only [Option.map_some, Option.getD_some]
  omega

theorem textR_len {R : List (Nat × Nat)} (h : RV 0 R) : (textR R).length ≤ 10 * (elsR R).length := by
  rw [textR_head]
  have a := headT_len h
  have b := elsR_len h
  omega
theorem mid_textlen {R1 R2 : List (Nat × Nat)} (hv : RV 0 (R1 ++ R2)) (n : Nat) (hn : n ≤ 4096) (hx : (ints' (elsR (R1 ++ R2))).length = n) : (textR R1).length ≤ 40960 := by
  have a := textR_len (RV_split hv).1
  have b : (elsR R1).length ≤ n := by
    rw [← hx]; unfold ints' elsR
    rw [List.length_map, List.flatMap_append, List.length_append]; omega
  omega

end Nds
