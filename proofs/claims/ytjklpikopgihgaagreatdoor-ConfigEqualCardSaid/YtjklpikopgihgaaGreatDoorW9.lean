/- The reference: Words; sizes of texts. -/
import Derived.Test.YtjklpikopgihgaaGreatDoorW7
import Derived.Deep.QuietTactic
import Derived.Lib.QuietBelow
import Derived.BigQuiet
set_option linter.unusedVariables false
set_option maxRecDepth 100000
set_option linter.unusedSimpArgs false
namespace Go.Proofs.YtjklpikopgihgaaGreatDoor
open Go.RowKit Go.Lib Cf

/-- The ten names, in a row at A. -/
def WordsAt (w : World) (A : Addr) : Prop := ∀ i, i < 10 → w.cell? (A.add i) = some (.string ⟨(word i).toArray⟩)
theorem WordsAt.below {w w' : World} {A : Addr} (h : WordsAt w A) (hb : Below w.heap.size w w') : WordsAt w' A := fun i hi => cell_keep (h i hi) hb

theorem words_any (w : World) : Calls Tryz.prog 41 #[] w fun e w' => ∃ A c, e = .returned (.slice (some A) 10 c) ∧ WordsAt w' A ∧ Below w.heap.size w w' := by
  have hB : ∀ o, Below w.heap.size w (w.alloc o) := fun o => (Below.refl _ _).alloc (Nat.le_refl _) o
  have hB' := Lib.hid hB
  have hC : ∀ o, ((w.alloc o).heap[w.heap.size]? = some o) := fun o => heap_alloc_new w o
  have hC' := Lib.hid hC
  clear hB hC
  go_enter Tryz.func41, Tryz.ntmps41
  go_wp2
  go_ret
  refine ⟨⟨w.heap.size, 0, none⟩, _, rfl, ?_, hB'.out _⟩
  intro i hi
  match i, hi with
  | 0, _ | 1, _ | 2, _ | 3, _ | 4, _ | 5, _ | 6, _ | 7, _ | 8, _ | 9, _ => exact (by simp [World.cell?_alloc_new, Addr.add, word])

/-! ### Regions that draw their order, between calls that make memory -/
theorem wp_region_G {G : Regrown → World} {id : Nat} {Q : Exit → Act → World → Prop} {a : Act} {w : World} {l : List Oper} (hm : Tryz.prog.follows .mixedOrders = true) (hB : Region.lexB .any l.toArray = true)
    (hC : ∃ p, w.drew = G p) (h : wpQuiet Tryz.prog l.toArray (fun w' => ∃ p : Regrown, w' = G p) (fun a' => ∀ w', (∃ p : Regrown, w' = G p) → Q .normal a' w') l a) : (Code.region id l.toArray true).wp Tryz.prog Q a w :=
  wp_region_quiet (C := fun w' => ∃ p : Regrown, w' = G p) hm hB hC (by simpa using h)

/-! ### Sizes -/
theorem dig_len {z : Int} (h : z ≤ 9223372036854775807) : (dig z).length ≤ 19 := by unfold dig; exact dd_len19 (by omega)
theorem kind_len (k : Int) : (kindName k).length ≤ 6 := by
  unfold kindName
  repeat' split
  all_goals decide
theorem word_len (i : Nat) : (word i).length ≤ 8 := by unfold word; split <;> decide
theorem lNode_len {d : Int} (h : d ≤ 9223372036854775807) : (lNode d).length ≤ 25 := by
  have := dig_len h
  unfold lNode wNode; simp only [List.length_append, List.length_cons, List.length_nil]; omega
theorem time_len {z : Int} (h : z ≤ 9223372036854775807) : (time z).length ≤ 19 := by
  unfold time; split
  · decide
  · exact dig_len h
theorem lEdge_len {e : Int × Int × Int} (h : I64 e.1 ∧ I64 e.2.1 ∧ I64 e.2.2) : (lEdge e).length ≤ 65 := by
  have h1 := dig_len h.1.2
  have h2 := dig_len h.2.1.2
  have h3 := time_len h.2.2.2
  unfold lEdge wEdge; simp only [List.length_append, List.length_cons, List.length_nil]; omega
theorem lUnit_len {e : Int × Int × Int} (h : I64 e.1 ∧ I64 e.2.1 ∧ I64 e.2.2) : (lUnit e).length ≤ 52 := by
  have h1 := kind_len e.1
  have h2 := dig_len h.2.1.2
  have h3 := dig_len h.2.2.2
  unfold lUnit wUnit; simp only [List.length_append, List.length_cons, List.length_nil]; omega
theorem tKinds_len (l : List Int) : (tKinds l).length ≤ 7 * l.length := by
  unfold tKinds
  induction l with
  | nil => simp
  | cons k l ih => have := kind_len k; simp only [List.flatMap_cons, List.length_append, List.length_cons]; omega
theorem flat_len {α : Type} (f : α → Bs) (n : Nat) : ∀ l : List α, (∀ x ∈ l, (f x).length ≤ n) → (l.flatMap f).length ≤ n * l.length := by
  intro l
  induction l with
  | nil => intro _; simp
  | cons x l ih =>
    intro h
    have h1 := h x (by simp)
    have h2 := ih fun y hy => h y (List.mem_cons_of_mem _ hy)
    simp only [List.flatMap_cons, List.length_append, List.length_cons]
    rw [Nat.mul_succ]; omega
theorem lNum_len {i : Nat} {z : Int} (h : z ≤ 9223372036854775807) : (lNum i z).length ≤ 29 := by
  have h1 := dig_len h
  have h2 := word_len i
  unfold lNum; split
  · simp
  · simp only [List.length_append, List.length_cons, List.length_nil]; omega
theorem nums_len (c : Cfg) (h : ∀ n ∈ c.nums, 0 ≤ n ∧ n ≤ 9223372036854775807) (k : Nat) (hk : k ≤ 10) : ((List.range k).flatMap (fun i => lNum i (c.nums.getD i 0))).length ≤ 290 := by
  have h1 := flat_len (fun i => lNum i (c.nums.getD i 0)) 29 (List.range k) (fun i hi => lNum_len (by
    have hi : i < c.nums.length := by have := List.mem_range.1 hi; exact Nat.lt_of_lt_of_le this hk
    rw [List.getD_eq_getElem?_getD, List.getElem?_eq_getElem hi]
    exact (h _ (List.getElem_mem hi)).2))
  rw [List.length_range] at h1
  omega
theorem lPlan_len {p : Plan} (h : p.urg ≤ 9223372036854775807) : (lPlan p).length ≤ 26 + 7 * (p.code.length + p.kinds.length) := by
  have h1 := dig_len h
  have h2 := tKinds_len p.kinds
  unfold lPlan wPlan; simp only [List.length_append, List.length_cons, List.length_nil]; omega
theorem plans_len : ∀ l : List Plan, (∀ p ∈ l, p.urg ≤ 9223372036854775807) → (l.flatMap lPlan).length ≤ 26 * l.length + 7 * planCost l := by
  intro l
  induction l with
  | nil => intro _; simp
  | cons p l ih =>
    intro h
    have h1 := lPlan_len (h p (by simp))
    have h2 := ih fun q hq => h q (List.mem_cons_of_mem _ hq)
    have h3 : planCost (p :: l) = (p.code.length + p.kinds.length) + planCost l := by unfold planCost; simp
    rw [h3]
    simp only [List.flatMap_cons, List.length_append, List.length_cons]
    omega
end Go.Proofs.YtjklpikopgihgaaGreatDoor
