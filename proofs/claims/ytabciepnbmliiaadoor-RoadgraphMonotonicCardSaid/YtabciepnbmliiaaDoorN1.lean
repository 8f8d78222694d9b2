/- Sets by value and in memory; the small functions of the set. -/
import Derived.Test.YtabciepnbmliiaaDoorW5
import Derived.Test.YtabciepnbmliiaaDoorNsM
import Derived.WalkKit
import Derived.ProofKit
import Derived.WalkLawsBesides
import Derived.WalkSpells
import Derived.Outline
import Derived.LoopTactic
import Derived.RegionTactic
import Derived.ChangeAlike
import Derived.Laws.Rows
import Derived.Laws.Bits64b
import Derived.Lib.Hide
import Derived.Deep.Draws
import Derived.Laws.CopyOwn
import Derived.Laws.StructEq
set_option linter.unusedVariables false
set_option linter.unusedSimpArgs false
namespace Go.Proofs.YtabciepnbmliiaaDoor
open Go.RowKit Go.Lib Nds

/-- The 64 cells of a set. -/
def cells (p : Nat → Bool) : Array Value := ((List.range 64).map fun i => Value.int .u64 (word p i)).toArray
theorem cells_size (p : Nat → Bool) : (cells p).size = 64 := by simp [cells]
theorem cells_at (p : Nat → Bool) (i : Nat) (h : i < 64) : (cells p)[i]? = some (.int .u64 (word p i)) := by
  simp [cells, h]
theorem cells_one (p : Nat → Bool) : (cells p).all (·.oneCell') = true := by
  rw [Array.all_eq_true_iff_forall_mem]
  intro v hv
  simp [cells] at hv
  obtain ⟨a, _, rfl⟩ := hv
  rfl
theorem cells_ext {p q : Nat → Bool} (h : ∀ i, i < 64 → word p i = word q i) : cells p = cells q := by
  unfold cells
  congr 1
  exact List.map_congr_left fun i hi => by rw [h i (by simpa using hi)]

/-- Block g holds the set p. -/
def SetAt (w : World) (g : Nat) (p : Nat → Bool) : Prop := w.heap[g]? = some (.cells (cells p) 53 (0, 0))

section
variable {w w' : World} {g : Nat} {p : Nat → Bool}
theorem SetAt.lt (h : SetAt w g p) : g < w.heap.size := (Array.getElem?_eq_some_iff.1 h).1
theorem SetAt.cell (h : SetAt w g p) {i : Nat} (hi : i < 64) : w.cell? ⟨g, i, none⟩ = some (.int .u64 (word p i)) := by
  rw [cell_of_row w g i _ _ _ h, cells_at p i hi]
theorem SetAt.frozen (h : SetAt w g p) (i : Nat) : w.frozen? ⟨g, i, none⟩ = false := frozen_of_row w g i _ _ h
theorem SetAt.new (w : World) (p : Nat → Bool) : SetAt (w.alloc (.cells (cells p) 53)) w.heap.size p := heap_alloc_new w _
theorem SetAt.drew (h : SetAt w g p) : SetAt w.drew g p := h
theorem SetAt.drewN (h : SetAt w g p) (n : Nat) : SetAt (w.drewN n) g p := h
theorem SetAt.alloc (h : SetAt w g p) (o : Obj) : SetAt (w.alloc o) g p := (Below.heap_alloc w o g h.lt).trans h
theorem SetAt.below {B : Nat} (h : SetAt w g p) (hb : Below B w w') (hg : g < B) : SetAt w' g p := (hb.block g hg).trans h
theorem SetAt.far (h : SetAt w g p) {a : Addr} (hp : g ≠ a.block) (u : Value) : SetAt (w.setCell a u) g p := (Below.heap_setCell w a u g hp).trans h
theorem SetAt.row (h : SetAt w g p) {q : Nat → Bool} : SetAt (w.setRow g (cells q)) g q := setRow_heap w g _ _ _ _ h
theorem SetAt.put (h : SetAt w g p) {q : Nat → Bool} {i : Nat} (hi : i < 64) {x : Nat} (hx : x = word q i) (hq : ∀ j, j < 64 → j ≠ i → word q j = word p j) :
    SetAt (w.setCell ⟨g, i, none⟩ (.int .u64 x)) g q := by
  unfold SetAt
  rw [setCell_eq_setRow w g i (cells p) _ _ _ h, setRow_heap w g _ _ _ _ h]
  congr 2
  apply Array.ext_getElem?
  intro j
  rw [Array.getElem?_setIfInBounds]
  by_cases hj : j < 64
  · by_cases e : i = j
    · subst e; rw [if_pos rfl, if_pos (by rw [cells_size]; exact hi), hx, cells_at q i hi]
    · rw [if_neg e, cells_at p j hj, cells_at q j hj, hq j hj (fun h => e h.symm)]
  · rw [if_neg (by omega), Array.getElem?_eq_none (by rw [cells_size]; omega), Array.getElem?_eq_none (by rw [cells_size]; omega)]
end

theorem info_set : (Tryd.prog.info? 53).map (·.size) = some 64 := by kernel_rfl
theorem info_arr : (Tryd.prog.info? 51).map (·.size) = some 64 := by kernel_rfl
theorem info_set' (p : Nat → Bool) : (Tryd.prog.info? 53).map (·.size) = some (cells p).size := by rw [info_set, cells_size]
theorem info_arr' (p : Nat → Bool) : (Tryd.prog.info? 51).map (·.size) = some (cells p).size := by rw [info_arr, cells_size]
theorem cells_none : cells (fun _ => false) = Array.replicate 64 (.int .u64 0) := by
  apply Array.ext_getElem?
  intro i
  by_cases hi : i < 64
  · rw [cells_at _ i hi, word_zero, Array.getElem?_replicate, if_pos hi]; rfl
  · rw [Array.getElem?_eq_none (by rw [cells_size]; omega), Array.getElem?_eq_none (by simp; omega)]

/-! ### The operations on whole sets -/

theorem run_zero_set (w : World) : (zeroValue 53).run Tryd.prog w = .ok (.agg (cells fun _ => false)) w := by
  rw [cells_none]; kernel_rfl

section
variable {ops : Array Oper} {rest : List Oper} {o : Oper} {a : Act} {w : World} {Q : Exit → Act → World → Prop}

theorem wpList_alloc_set (hgd : o.guard = none) (ho : o.op = .alloc 53)
    (h : wpList Tryd.prog ops Q rest (a.put o.dst (.pointer (some ⟨w.heap.size, 0, none⟩))) (w.alloc (.cells (cells fun _ => false) 53))) : wpList Tryd.prog ops Q (o :: rest) a w :=
  wpList_plain hgd fun K hK => by
    unfold Oper.wp execOp
    simp only [ho, Instr.alloc, Sem.run_bind, run_zero_set, Result.andThen_ok, newVar, newRow, Value.cells]
    exact hK _ _ h

theorem wpList_box_set (p : Nat → Bool) (x : Operand) (hgd : o.guard = none) (ho : o.op = .box 53 x) (hx : a.eval x = .agg (cells p))
    (h : wpList Tryd.prog ops Q rest (a.put o.dst (.pointer (some ⟨w.heap.size, 0, none⟩))) (w.alloc (.cells (cells p) 53))) : wpList Tryd.prog ops Q (o :: rest) a w :=
  wpList_plain hgd fun K hK => by
    unfold Oper.wp execOp
    simp only [ho, hx, Sem.run_bind]
    exact hK _ _ h

theorem wpList_load_set (x : Operand) (g : Nat) (p : Nat → Bool) (hw : Region.wanted o (yielded ops a.tmps) = true) (ho : o.op = .load 53 x) (hx : a.eval x = .pointer (some ⟨g, 0, none⟩)) (hs : SetAt w g p)
    (h : wpList Tryd.prog ops Q rest (a.put o.dst (.agg (cells p))) w) : wpList Tryd.prog ops Q (o :: rest) a w :=
  wpList_step fun K hK => by
    rw [if_pos hw]
    exact wp_load_row _ x ho g hx 53 (cells p) (0, 0) _ hs Tryd.underlying53 rfl (info_set' p) (hK _ _ h)

theorem wpList_load_arr (x : Operand) (g : Nat) (p : Nat → Bool) (hgd : o.guard = none) (ho : o.op = .load 51 x) (hx : a.eval x = .pointer (some ⟨g, 0, none⟩)) (hs : SetAt w g p)
    (h : wpList Tryd.prog ops Q rest (a.put o.dst (.agg (cells p))) w) : wpList Tryd.prog ops Q (o :: rest) a w :=
  wpList_load_row hgd _ x ho g hx 53 (cells p) (0, 0) _ hs Tryd.underlying51 rfl (info_arr' p) h

theorem wpList_store_set (x y : Operand) (g : Nat) (p q : Nat → Bool) (hgd : o.guard = none) (ho : o.op = .store 53 x y) (hx : a.eval x = .pointer (some ⟨g, 0, none⟩)) (hy : a.eval y = .agg (cells p)) (hs : SetAt w g q)
    (h : wpList Tryd.prog ops Q rest (a.put o.dst undef) (w.setRow g (cells p))) : wpList Tryd.prog ops Q (o :: rest) a w :=
  wpList_store_row hgd _ x y ho g (cells p) hx hy 53 (cells q) hs (info_set' p) (by rw [cells_size, cells_size]) (cells_one p) h
end

theorem index_set (p : Nat → Bool) (i : Nat) (h : i < 64) (w : World) : (Instr.index 51 (.agg (cells p)) (.int .i64 i)).run Tryd.prog w = .ok (.int .u64 (word p i)) w := by
  have h1 := cells_at p i h
  have hsz : (sizeOf 50).run Tryd.prog w = .ok 1 w := by kernel_rfl
  simp [Instr.index, asIntOf, run_underlying Tryd.underlying51, part, hsz, h1, h]

theorem run_part_set (p : Nat → Bool) (i : Nat) (h : i < 64) (w : World) : (part 50 (cells p) i).run Tryd.prog w = .ok (.int .u64 (word p i)) w := by
  have h1 := cells_at p i h
  simp [part, h1]

/-- The words of two sets from i on are equal. -/
def sameFrom (p q : Nat → Bool) (l : List Nat) : Bool := l.all fun i => (word p i : Int) == (word q i : Int)

theorem run_eql_set (p q : Nat → Bool) (w : World) : (Op.equalIn 10000 51 (.agg (cells p)) (.agg (cells q))).run Tryd.prog w = .ok (sameFrom p q (List.range 64)) w := by
  have hsz : (sizeOf 50).run Tryd.prog w = .ok 1 w := by kernel_rfl
  have key : (Op.equalIn 10000 51 (.agg (cells p)) (.agg (cells q))).run Tryd.prog w = .ok (sameFrom p q (List.range 64)) w := by
    rw [List.range_eq_range', show (10000 : Nat) = 9999 + 1 by rfl, Op.equalIn]
    simp only [Sem.run_bind, run_underlying Tryd.underlying51, Result.andThen_ok, hsz, Std.Legacy.Range.forIn_eq_forIn_range', Std.Legacy.Range.size, Nat.sub_zero, Nat.add_sub_cancel, Nat.div_one]
    have hl : ∀ i ∈ List.range' 0 64 1, i < 64 := fun i hi => by simpa using (List.mem_range'_1.1 hi).2
    generalize List.range' 0 64 1 = l at hl ⊢
    induction l with
    | nil => simp [sameFrom]
    | cons i l ih =>
      have hi : i < 64 := hl i (by simp)
      have pe : (Op.equalIn 9999 50 (.int .u64 (word p i)) (.int .u64 (word q i))).run Tryd.prog w = .ok ((word p i : Int) == (word q i : Int)) w := run_equalIn_int w 9998 50 .u64 .u64 _ _ Tryd.underlying50
      have ih' := ih fun j hj => hl j (by simp [hj])
      simp only [List.forIn_cons, Sem.run_bind, Nat.mul_one, run_part_set p i hi, run_part_set q i hi, pe, Result.andThen_ok]
      unfold sameFrom
      rw [List.all_cons]
      cases hb : ((word p i : Int) == (word q i : Int))
      · simp
      · simp only [Bool.not_true, Bool.false_eq_true, if_false, Sem.run_pure, Result.andThen_ok, Bool.true_and]
        simp only [Nat.mul_one] at ih'
        exact ih'
  exact key

theorem sameFrom_all (p q : Nat → Bool) : sameFrom p q (List.range 64) = decide (els p = els q) := by
  unfold sameFrom
  rw [Bool.eq_iff_iff, List.all_eq_true, decide_eq_true_iff]
  constructor
  · intro h
    refine els_of_words fun i hi => ?_
    have := h i (by simpa using hi)
    have := eq_of_beq this
    omega
  · intro h i hi
    rw [words_of_els h i (by simpa using hi)]
    simp

/-! ### Arithmetic on words -/

theorem u64_wrap (x : Nat) (h : x < 18446744073709551616) : IntKind.u64.wrap (x : Int) = (x : Int) := by rw [IntKind.wrap_u64]; omega
theorem shl_word (n : Nat) : IntKind.u64.wrap ((2 : Int) ^ (n % 64)) = ((2 ^ (n % 64) : Nat) : Int) := by
  have h : 2 ^ (n % 64) < 2 ^ 64 := Nat.pow_lt_pow_right (by omega) (by omega)
  have e : ((2 : Int) ^ (n % 64)) = ((2 ^ (n % 64) : Nat) : Int) := by simp
  rw [e, u64_wrap _ (by simpa using h)]

/-! ### isNode, Has -/

theorem isNode_any (n : Int) (w : World) : Calls Tryd.prog 45 #[.int .i64 n] w fun e w' => e = .returned (.bool (decide (0 ≤ n ∧ n < 4096))) ∧ w = w' := by
  by_cases h0 : 0 ≤ n
  · by_cases h1 : n < 4096
    · go_enter Tryd.func45, Tryd.ntmps45
      go_wp2
      go_ret
      exact ⟨ret_b (by simp [h0, h1]), rfl⟩
    · go_enter Tryd.func45, Tryd.ntmps45
      go_wp2
      go_ret
      exact ⟨ret_b (by simp [h1]), rfl⟩
  · go_enter Tryd.func45, Tryd.ntmps45
    go_wp2
    go_ret
    exact ⟨ret_b (by simp; omega), rfl⟩

theorem bits_andNot_u64_nat (a b : Nat) (ha : a < 18446744073709551616) (hb : b < 18446744073709551616) :
    bits .andNot .u64 (a : Int) (b : Int) = ((a &&& (18446744073709551615 - b) : Nat) : Int) := by
  have hx : a &&& (18446744073709551615 - b) < 2 ^ 64 := Nat.and_lt_two_pow _ (by omega)
  have h1 : (BitVec.ofInt 64 (a : Int)).toNat = a := by
    rw [BitVec.ofInt_natCast, BitVec.toNat_ofNat]; exact Nat.mod_eq_of_lt (by omega)
  have h2 : (BitVec.ofInt 64 (b : Int)).toNat = b := by
    rw [BitVec.ofInt_natCast, BitVec.toNat_ofNat]; exact Nat.mod_eq_of_lt (by omega)
  show IntKind.u64.wrap ((BitVec.ofInt 64 (a : Int) &&& ~~~ BitVec.ofInt 64 (b : Int)).toNat : Int) = _
  have e : 2 ^ 64 - 1 - b = 18446744073709551615 - b := by omega
  rw [BitVec.toNat_and, BitVec.toNat_not, h1, h2, e, IntKind.wrap_u64]
  omega

theorem has_no (p : Nat → Bool) (n : Int) (w : World) (h : ¬ (0 ≤ n ∧ n < 4096)) :
    Calls Tryd.prog 35 #[.agg (cells p), .int .i64 n] w fun e w' => e = .returned (.bool false) ∧ Below w.heap.size w w' := by
  have hd : decide (0 ≤ n ∧ n < 4096) = false := by rw [decide_eq_false_iff_not]; exact h
  go_enter Tryd.func35, Tryd.ntmps35
  go_wp2_with (go_at_call 45; refine (isNode_any _ _).mono ?_; rintro e w' ⟨rfl, rfl⟩)
  go_ret
  exact ⟨rfl, (Below.refl _ _).alloc (Nat.le_refl _) _⟩

set_option maxRecDepth 100000 in
theorem has_yes (p : Nat → Bool) (n : Nat) (w : World) (h : n < 4096) :
    Calls Tryd.prog 35 #[.agg (cells p), .int .i64 n] w fun e w' => e = .returned (.bool (p n)) ∧ Below w.heap.size w w' := by
  have hb := word_bit p n
  have hd : decide (0 ≤ (n : Int) ∧ (n : Int) < 4096) = true := by rw [decide_eq_true_iff]; omega
  have hs := (SetAt.new w p).cell (i := n / 64) (by omega)
  generalize hx : word p (n / 64) = x at *
  have hxl : x < 18446744073709551616 := by rw [← hx]; exact word_lt _ _
  clear hx
  have hq : (bits BinOp.and IntKind.u64 ((x : Int) / 2 ^ (n % 64)) 1 == 1) = p n := by
    have e : ((x : Int) / 2 ^ (n % 64)) = ((x / 2 ^ (n % 64) : Nat) : Int) := by simp
    have hle : x / 2 ^ (n % 64) ≤ x := Nat.div_le_self _ _
    rw [e, show (1 : Int) = ((1 : Nat) : Int) by rfl, bits_and_u64_nat _ _ (by omega) (by omega), Nat.and_one_is_mod, hb]
    cases p n <;> rfl
  clear hb hxl
  go_enter Tryd.func35, Tryd.ntmps35
  go_wp2_with (go_at_call 45; refine (isNode_any _ _).mono ?_; rintro e w' ⟨rfl, rfl⟩)
  go_ret
  exact ⟨rfl, (Below.refl _ _).alloc (Nat.le_refl _) _⟩

/-- Whether n is in p. -/
def hasB (p : Nat → Bool) (n : Int) : Bool := decide (0 ≤ n ∧ n < 4096) && p n.toNat

theorem has_any (p : Nat → Bool) (n : Int) (w : World) :
    Calls Tryd.prog 35 #[.agg (cells p), .int .i64 n] w fun e w' => e = .returned (.bool (hasB p n)) ∧ Below w.heap.size w w' := by
  by_cases h : 0 ≤ n ∧ n < 4096
  · obtain ⟨k, rfl⟩ := Int.eq_ofNat_of_zero_le h.1
    refine (has_yes p k w (by omega)).mono ?_
    rintro e w' ⟨rfl, hb⟩
    exact ⟨ret_b (by unfold hasB; rw [decide_eq_true h]; simp), hb⟩
  · refine (has_no p n w h).mono ?_
    rintro e w' ⟨rfl, hb⟩
    exact ⟨ret_b (by unfold hasB; rw [decide_eq_false h]; simp), hb⟩

theorem grownBy_setCell_drew (w : World) (g i : Nat) (u : Value) : w.grownBy (w.setCell ⟨g, i, none⟩ u).drew (some g) :=
  ⟨rfl, rfl, rfl, by simp [World.setCell, World.drew], fun k _ hk => Below.heap_setCell w ⟨g, i, none⟩ u k (fun e => hk (by rw [e]))⟩

theorem add_any (p : Nat → Bool) (g : Nat) (n : Nat) (w : World) (h : n < 4096) (hs : SetAt w g p) :
    Calls Tryd.prog 46 #[.pointer (some ⟨g, 0, none⟩), .int .i64 n] w fun e w' => (∃ v, e = .returned v) ∧ SetAt w' g (fun m => p m || m == n) ∧ w.grownBy w' (some g) := by
  have hc := hs.cell (i := n / 64) (by omega)
  have hf := hs.frozen (n / 64)
  go_enter Tryd.func46, Tryd.ntmps46
  go_wp2
  go_region
  go_end0
  refine ⟨⟨_, rfl⟩, ?_, grownBy_setCell_drew _ _ _ _⟩
  have hp : 2 ^ (n % 64) < 2 ^ 64 := Nat.pow_lt_pow_right (by omega) (by omega)
  rw [shl_word, bits_or_u64_nat _ _ (word_lt _ _) (by simpa using hp)]
  exact hs.put (by omega) (word_add p n) (fun j hj hne => word_add_other p n j hne)

set_option maxRecDepth 100000 in
theorem equal_any (p q : Nat → Bool) (w : World) :
    Calls Tryd.prog 29 #[.agg (cells p), .agg (cells q)] w fun e w' => e = .returned (.bool (decide (els p = els q))) ∧ Below w.heap.size w w' := by
  have h1 : SetAt ((w.alloc (.cells (cells p) 53)).alloc (.cells (cells q) 53)) w.heap.size p := (SetAt.new w p).alloc _
  have h2 : SetAt ((w.alloc (.cells (cells p) 53)).alloc (.cells (cells q) 53)) (w.heap.size + 1) q := by have := SetAt.new (w.alloc (.cells (cells p) 53)) q; simpa using this
  have he : (((w.alloc (.cells (cells p) 53)).alloc (.cells (cells q) 53)).heap.size = 0) → False := by simp
  have hq := run_eql_set p q ((w.alloc (.cells (cells p) 53)).alloc (.cells (cells q) 53))
  have hg : Tryd.prog.eqGuardType Tryd.prog.depth 51 = false := by kernel_rfl
  rw [sameFrom_all] at hq
  clear he
  go_enter Tryd.func29, Tryd.ntmps29
  go_wp2_with (first | refine wpList_load_arr _ _ _ rfl rfl rfl h1 ?_ | refine wpList_load_arr _ _ _ rfl rfl rfl h2 ?_)
  go_ret
  exact ⟨rfl, ((Below.refl _ _).alloc (Nat.le_refl _) _).alloc (by simp) _⟩

/-! ### Union, Intersect, Difference -/

/-- The set r below the node 64 k, p from there on. -/
def mix (p r : Nat → Bool) (k : Nat) : Nat → Bool := fun n => if n < 64 * k then r n else p n
theorem word_mix_lt (p r : Nat → Bool) {k j : Nat} (h : j < k) : word (mix p r k) j = word r j := word_congr fun i _ => by unfold mix; rw [if_pos (by omega)]
theorem word_mix_ge (p r : Nat → Bool) {k j : Nat} (h : k ≤ j) : word (mix p r k) j = word p j := word_congr fun i _ => by unfold mix; rw [if_neg (by omega)]
theorem cells_mix_all (p r : Nat → Bool) : cells (mix p r 64) = cells r := cells_ext fun _ hi => word_mix_lt p r hi
theorem mix_zero (p r : Nat → Bool) : mix p r 0 = p := by funext n; simp [mix]
theorem SetAt.mixed {w : World} {g : Nat} {p r : Nat → Bool} {k : Nat} (h : SetAt w g (mix p r k)) (hk : k < 64) {x : Nat} (hx : x = word r k) : SetAt (w.setCell ⟨g, k, none⟩ (.int .u64 x)) g (mix p r (k + 1)) :=
  h.put hk (by rw [word_mix_lt p r (by omega), hx]) fun j _ hne => by
    by_cases hlt : j < k
    · rw [word_mix_lt p r hlt, word_mix_lt p r (by omega)]
    · rw [word_mix_ge p r (by omega), word_mix_ge p r (by omega)]

theorem union_any (p q : Nat → Bool) (w : World) :
    Calls Tryd.prog 33 #[.agg (cells p), .agg (cells q)] w fun e w' => e = .returned (.agg (cells fun n => p n || q n)) ∧ Below w.heap.size w w' := by
  have h1 : SetAt ((w.alloc (.cells (cells p) 53)).alloc (.cells (cells q) 53)) w.heap.size p := (SetAt.new w p).alloc _
  have h2 : SetAt ((w.alloc (.cells (cells p) 53)).alloc (.cells (cells q) 53)) (w.heap.size + 1) q := by have := SetAt.new (w.alloc (.cells (cells p) 53)) q; simpa using this
  have h3 : SetAt (((w.alloc (.cells (cells p) 53)).alloc (.cells (cells q) 53)).alloc (.cells (cells fun _ => false) 53)) (w.heap.size + 1 + 1) (fun _ => false) := by have := SetAt.new ((w.alloc (.cells (cells p) 53)).alloc (.cells (cells q) 53)) (fun _ => false); simpa using this
  have h1' := h1.alloc (.cells (cells fun _ => false) 53)
  have h2' := h2.alloc (.cells (cells fun _ => false) 53)
  have hB : Below w.heap.size w (((w.alloc (.cells (cells p) 53)).alloc (.cells (cells q) 53)).alloc (.cells (cells fun _ => false) 53)) := (((Below.refl _ _).alloc (Nat.le_refl _) _).alloc (by simp) _).alloc (by simp; omega) _
  go_enter Tryd.func33, Tryd.ntmps33
  go_wp2_with (first | refine wpList_alloc_set rfl rfl ?_ | refine wpList_load_arr _ _ _ rfl rfl rfl h2' ?_)
  clear h1 h2 h2'
  go_loopw [9] (fun i w' => ∃ k : Nat, i = .int .i64 k ∧ k ≤ 64 ∧ SetAt w' w.heap.size (mix p (fun n => p n || q n) k) ∧ SetAt w' (w.heap.size + 1 + 1) (fun _ => false) ∧ Below w.heap.size w w') (fun i _ => 64 - (intOf i).toNat)
  case atStart => exact ⟨0, rfl, by omega, by rw [mix_zero]; exact h1', h3, hB⟩
  case round =>
    obtain ⟨k, rfl, hk, hs, hr, hb⟩ := hrel
    clear h1' h3 hB
    by_cases hlt : k < 64
    · have hi := index_set q k hlt
      have hc := hs.cell hlt
      rw [word_mix_ge p _ (Nat.le_refl k)] at hc
      have hf := hs.frozen k
      go_wp2
      go_roundw
      case rel =>
        rw [bits_or_u64_nat _ _ (word_lt _ _) (word_lt _ _)]
        exact ⟨k + 1, by go_num, by omega, hs.mixed hlt (word_or p q k), hr.far (by simp; omega) _, hb.setCell (by simp) _⟩
      case measure => simp [intOf]; omega
    · obtain rfl : k = 64 := by omega
      go_wp2_with (first | refine wpList_load_set _ _ _ rfl rfl rfl hs ?_ | refine wpList_store_set _ _ _ _ _ rfl rfl rfl rfl hr ?_)
      refine bodyPost_ret (v := .agg (cells fun n => p n || q n)) ?_ rfl ⟨rfl, below_setRow hb (by omega) _⟩
      have hend := hr.row (q := mix p (fun n => p n || q n) 64)
      rw [cells_mix_all] at hend
      unfold SetAt at hend
      rw [cells_mix_all] at hend ⊢
      exact results_cell_row Tryd.results33 _ _ _ _ _ _ _ rfl hend Tryd.underlying53 rfl (info_set' _)

theorem diff_any (p q : Nat → Bool) (w : World) :
    Calls Tryd.prog 36 #[.agg (cells p), .agg (cells q)] w fun e w' => e = .returned (.agg (cells fun n => p n && !q n)) ∧ Below w.heap.size w w' := by
  have h1 : SetAt ((w.alloc (.cells (cells p) 53)).alloc (.cells (cells q) 53)) w.heap.size p := (SetAt.new w p).alloc _
  have h2 : SetAt ((w.alloc (.cells (cells p) 53)).alloc (.cells (cells q) 53)) (w.heap.size + 1) q := by have := SetAt.new (w.alloc (.cells (cells p) 53)) q; simpa using this
  have h3 : SetAt (((w.alloc (.cells (cells p) 53)).alloc (.cells (cells q) 53)).alloc (.cells (cells fun _ => false) 53)) (w.heap.size + 1 + 1) (fun _ => false) := by have := SetAt.new ((w.alloc (.cells (cells p) 53)).alloc (.cells (cells q) 53)) (fun _ => false); simpa using this
  have h1' := h1.alloc (.cells (cells fun _ => false) 53)
  have h2' := h2.alloc (.cells (cells fun _ => false) 53)
  have hB : Below w.heap.size w (((w.alloc (.cells (cells p) 53)).alloc (.cells (cells q) 53)).alloc (.cells (cells fun _ => false) 53)) := (((Below.refl _ _).alloc (Nat.le_refl _) _).alloc (by simp) _).alloc (by simp; omega) _
  go_enter Tryd.func36, Tryd.ntmps36
  go_wp2_with (first | refine wpList_alloc_set rfl rfl ?_ | refine wpList_load_arr _ _ _ rfl rfl rfl h2' ?_)
  clear h1 h2 h2'
  go_loopw [9] (fun i w' => ∃ k : Nat, i = .int .i64 k ∧ k ≤ 64 ∧ SetAt w' w.heap.size (mix p (fun n => p n && !q n) k) ∧ SetAt w' (w.heap.size + 1 + 1) (fun _ => false) ∧ Below w.heap.size w w') (fun i _ => 64 - (intOf i).toNat)
  case atStart => exact ⟨0, rfl, by omega, by rw [mix_zero]; exact h1', h3, hB⟩
  case round =>
    obtain ⟨k, rfl, hk, hs, hr, hb⟩ := hrel
    clear h1' h3 hB
    by_cases hlt : k < 64
    · have hi := index_set q k hlt
      have hc := hs.cell hlt
      rw [word_mix_ge p _ (Nat.le_refl k)] at hc
      have hf := hs.frozen k
      go_wp2
      go_roundw
      case rel =>
        rw [bits_andNot_u64_nat _ _ (word_lt _ _) (word_lt _ _)]
        exact ⟨k + 1, by go_num, by omega, hs.mixed hlt (word_diff p q k), hr.far (by simp; omega) _, hb.setCell (by simp) _⟩
      case measure => simp [intOf]; omega
    · obtain rfl : k = 64 := by omega
      go_wp2_with (first | refine wpList_load_set _ _ _ rfl rfl rfl hs ?_ | refine wpList_store_set _ _ _ _ _ rfl rfl rfl rfl hr ?_)
      refine bodyPost_ret (v := .agg (cells fun n => p n && !q n)) ?_ rfl ⟨rfl, below_setRow hb (by omega) _⟩
      have hend := hr.row (q := mix p (fun n => p n && !q n) 64)
      rw [cells_mix_all] at hend
      unfold SetAt at hend
      rw [cells_mix_all] at hend ⊢
      exact results_cell_row Tryd.results36 _ _ _ _ _ _ _ rfl hend Tryd.underlying53 rfl (info_set' _)

end Go.Proofs.YtabciepnbmliiaaDoor
