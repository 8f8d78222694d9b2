/- Len, Of, All: walks. -/
import Derived.Test.YtabciepnbmliiaaDoorN1
import Derived.Test.YtabciepnbmliiaaDoorNsB
import Derived.Deep.AppendLies
import Derived.Maps.AppendAt
set_option linter.unusedVariables false
set_option linter.unusedSimpArgs false
namespace Go.Proofs.YtabciepnbmliiaaDoor
open Go.RowKit Go.Lib Nds

theorem and_lit (a m : Nat) (ha : a < 18446744073709551616) (hm : m < 18446744073709551616) : bits .and .u64 (a : Int) (m : Int) = ((a &&& m : Nat) : Int) := bits_and_u64_nat a m ha hm

theorem and_127 (a : Nat) (ha : a < 9223372036854775808) : bits .and .i64 (a : Int) 127 = ((a % 128 : Nat) : Int) := by
  have h1 : (BitVec.ofInt 64 (a : Int)).toNat = a := by
    rw [BitVec.ofInt_natCast, BitVec.toNat_ofNat]; exact Nat.mod_eq_of_lt (by omega)
  have h2 : (BitVec.ofInt 64 (127 : Int)).toNat = 127 := by decide
  show IntKind.i64.wrap ((BitVec.ofInt 64 (a : Int) &&& BitVec.ofInt 64 (127 : Int)).toNat : Int) = _
  rw [BitVec.toNat_and, h1, h2, show 127 = 2 ^ 7 - 1 by rfl, Nat.and_two_pow_sub_one_eq_mod]
  exact IntWalk.i64_in _ (by omega)

set_option maxRecDepth 100000 in
theorem ones_walk (x a b c d e : Nat) (w : World) (_h : x < 18446744073709551616)
    (r1 : bits .and .u64 ((x : Int) / 2) 6148914691236517205 = (a : Int)) (r2 : bits .and .u64 (x : Int) 6148914691236517205 = (b : Int)) (l1 : (a : Int) + b < 18446744073709551616)
    (r3 : bits .and .u64 (((a : Int) + (b : Int)) / 4) 3689348814741910323 = (c : Int)) (r4 : bits .and .u64 ((a : Int) + (b : Int)) 3689348814741910323 = (d : Int)) (l2 : (c : Int) + d < 18446744073709551616)
    (l3 : ((c : Int) + d) / 16 + ((c : Int) + d) < 18446744073709551616)
    (r5 : bits .and .u64 (((c : Int) + (d : Int)) / 16 + ((c : Int) + (d : Int))) 1085102592571150095 = (e : Int)) (l4 : (e : Int) ≤ 578721382704613384) :
    Calls Tryd.prog 52 #[.int .u64 x] w fun en w' => en = .returned (.int .i64 (bits .and .i64 (((e : Int) + e / 256 + ((e : Int) + e / 256) / 65536) + ((e : Int) + e / 256 + ((e : Int) + e / 256) / 65536) / 4294967296) 127)) ∧ w = w' := by
  go_enter Tryd.func52, Tryd.ntmps52
  go_wp2
  go_ret
  exact ⟨rfl, rfl⟩

theorem ones_any (x : Nat) (w : World) (h : x < 18446744073709551616) :
    Calls Tryd.prog 52 #[.int .u64 x] w fun e w' => e = .returned (.int .i64 (bitsOf x).length) ∧ w = w' := by
  obtain ⟨l1, l2, l3, l4, hf⟩ := ones_facts x h
  have r1 := and_lit (x / 2) 6148914691236517205 (by omega) (by omega)
  have r2 := and_lit x 6148914691236517205 h (by omega)
  have r3 := and_lit (ones1 x / 4) 3689348814741910323 (by omega) (by omega)
  have r4 := and_lit (ones1 x) 3689348814741910323 l1 (by omega)
  have r5 := and_lit (ones2 (ones1 x) / 16 + ones2 (ones1 x)) 1085102592571150095 l3 (by omega)
  rw [show ones2 (ones1 x) / 16 + ones2 (ones1 x) &&& 1085102592571150095 = ones3 (ones2 (ones1 x)) from rfl] at r5
  have d1 : ones1 x = (x / 2 &&& 6148914691236517205) + (x &&& 6148914691236517205) := rfl
  have d2 : ones2 (ones1 x) = (ones1 x / 4 &&& 3689348814741910323) + (ones1 x &&& 3689348814741910323) := rfl
  generalize ones3 (ones2 (ones1 x)) = e at *
  generalize ones2 (ones1 x) = y2 at *
  generalize ones1 x / 4 &&& 3689348814741910323 = c at *
  generalize ones1 x &&& 3689348814741910323 = d at *
  generalize ones1 x = y1 at *
  generalize x / 2 &&& 6148914691236517205 = a at *
  generalize x &&& 6148914691236517205 = b at *
  subst d1 d2
  simp only [Int.natCast_ediv, Int.natCast_add, Int.cast_ofNat_Int] at r1 r2 r3 r4 r5
  refine (ones_walk x a b c d e w h r1 r2 (by omega) r3 r4 (by omega) (by omega) r5 (by omega)).mono ?_
  rintro en w' ⟨rfl, rfl⟩
  refine ⟨ret_i ?_, rfl⟩
  rw [← hf]
  have hk := and_127 (e + e / 256 + (e + e / 256) / 65536 + (e + e / 256 + (e + e / 256) / 65536) / 4294967296) (by omega)
  simp only [Int.natCast_ediv, Int.natCast_add, Int.cast_ofNat_Int] at hk
  rw [hk]

/-! ### Len -/

set_option maxRecDepth 100000 in
theorem len_any (p : Nat → Bool) (w : World) :
    Calls Tryd.prog 32 #[.agg (cells p)] w fun e w' => e = .returned (.int .i64 (els p).length) ∧ Below w.heap.size w w' := by
  have h1 : SetAt (w.alloc (.cells (cells p) 53)) w.heap.size p := SetAt.new w p
  have hB : Below w.heap.size w (w.alloc (.cells (cells p) 53)) := (Below.refl _ _).alloc (Nat.le_refl _) _
  go_enter Tryd.func32, Tryd.ntmps32
  go_wp2_with (refine wpList_load_arr _ _ _ rfl rfl rfl h1 ?_)
  go_loop [3, 8] (fun n i => ∃ k : Nat, i = .int .i64 k ∧ k ≤ 64 ∧ n = .int .i64 ((elsTo p k).length : Nat)) (fun _ i => 64 - (intOf i).toNat)
  case atStart => exact ⟨0, rfl, by omega, by rw [elsTo_zero]; rfl⟩
  case round =>
    obtain ⟨k, rfl, hk, rfl⟩ := hrel
    have hl := elsTo_length p k
    by_cases hlt : k < 64
    · have hi := index_set p k hlt
      have hw := word_lt p k
      have hb := bitsOf_length (word p k)
      have hs : (elsTo p (k + 1)).length = (elsTo p k).length + (bitsOf (word p k)).length := by rw [elsTo_succ, List.length_append, List.length_map]
      have HS := Lib.hid hs; clear hs
      go_wp2_with (go_at_call 52; refine (ones_any _ _ hw).mono ?_; rintro e w' ⟨rfl, rfl⟩)
      go_round
      case rel => exact ⟨k + 1, by go_num, by omega, by rw [HS.out]; go_num⟩
      case measure => simp [intOf]; omega
    · obtain rfl : k = 64 := by omega
      go_wp2
      go_ret
      exact ⟨ret_i (by rw [elsTo_all]), hB⟩

/-! ### Slices of numbers -/

/-! ### Of, All -/

def ofP (l : List Int) (n : Nat) : Bool := decide ((n : Int) ∈ l)
theorem cells_congr {p q : Nat → Bool} (h : ∀ n, n < 4096 → p n = q n) : cells p = cells q := cells_ext fun i hi => word_congr fun j hj => h _ (by omega)
theorem SetAt.congr {w : World} {g : Nat} {p q : Nat → Bool} (h : SetAt w g p) (e : ∀ n, n < 4096 → p n = q n) : SetAt w g q := by
  unfold SetAt at *; rw [← cells_congr e]; exact h
theorem ofP_node (l : List Int) (m : Nat) (n : Nat) : (ofP l n || n == m) = ofP (l ++ [(m : Int)]) n := by
  unfold ofP
  rw [Bool.eq_iff_iff]
  simp only [Bool.or_eq_true, decide_eq_true_eq, beq_iff_eq, List.mem_append, List.mem_singleton, Int.natCast_inj]
theorem ofP_other (l : List Int) (x : Int) (h : ¬ (0 ≤ x ∧ x < 4096)) (n : Nat) (hn : n < 4096) : ofP l n = ofP (l ++ [x]) n := by
  unfold ofP
  rw [Bool.eq_iff_iff]; simp; omega

set_option maxRecDepth 100000 in
theorem of_any (A : Option Addr) (c n : Nat) (xs : List Int) (w : World) (hr : Rd w A n xs) (hn : n ≤ 9223372036854775807) :
    Calls Tryd.prog 26 #[.slice A n c] w fun e w' => e = .returned (.agg (cells (ofP xs))) ∧ Below w.heap.size w w' := by
  have h1 : SetAt ((w.alloc (.cells (cells fun _ => false) 53)).alloc (.cells (cells fun _ => false) 53)) w.heap.size (fun _ => false) := (SetAt.new w _).alloc _
  have h2 : SetAt ((w.alloc (.cells (cells fun _ => false) 53)).alloc (.cells (cells fun _ => false) 53)) (w.heap.size + 1) (fun _ => false) := by have := SetAt.new (w.alloc (.cells (cells fun _ => false) 53)) (fun _ => false); simpa using this
  have hB : Below w.heap.size w ((w.alloc (.cells (cells fun _ => false) 53)).alloc (.cells (cells fun _ => false) 53)) := ((Below.refl _ _).alloc (Nat.le_refl _) _).alloc (by simp) _
  have hl1 : n ≤ xs.length := Nat.le_of_eq hr.1
  have hl2 : xs.length ≤ n := Nat.le_of_eq hr.1.symm
  go_enter Tryd.func26, Tryd.ntmps26
  go_wp2_with (refine wpList_alloc_set rfl rfl ?_)
  go_loopw [8] (fun i w' => ∃ k : Nat, i = .int .i64 k ∧ k ≤ n ∧ SetAt w' (w.heap.size + 1) (ofP (xs.take k)) ∧ SetAt w' w.heap.size (fun _ => false) ∧ Below w.heap.size w w') (fun i _ => n - (intOf i).toNat)
  case atStart => exact ⟨0, rfl, by omega, h2.congr (fun n _ => by simp [ofP]), h1, hB⟩
  case round =>
    obtain ⟨k, rfl, hk, hs, h0, hb⟩ := hrel
    clear h1 h2 hB
    have hz := hb.size
    by_cases hlt : k < n
    · obtain ⟨ad, rfl, hc⟩ := (hr.below hb).at_ hlt
      have ht := take_next xs k (by omega)
      generalize xs.getD k 0 = x at hc ht
      have HT := Lib.hid ht; clear ht
      clear hr
      by_cases hx : 0 ≤ x ∧ x < 4096
      · obtain ⟨m, rfl⟩ := Int.eq_ofNat_of_zero_le hx.1
        have hd : decide (0 ≤ (m : Int) ∧ (m : Int) < 4096) = true := by rw [decide_eq_true_iff]; exact hx
        go_wp2_with (first | (go_at_call 45; refine (isNode_any _ _).mono ?_; rintro e w' ⟨rfl, rfl⟩) | (go_at_call 46; refine (add_any _ _ m _ (by omega) hs).mono ?_; rintro e w2 ⟨⟨v, rfl⟩, hs2, hg⟩))
        go_roundw
        case rel =>
          refine ⟨k + 1, by go_num, by omega, ?_, ?_, hb.grown hg (by omega) (fun j e => by injection e with e; omega)⟩
          · rw [HT.out]; exact hs2.congr fun n _ => ofP_node _ _ _
          · exact (hg.block _ h0.lt (fun e => by injection e with e; omega)).trans h0
        case measure => simp [intOf]; omega
      · have hd : decide (0 ≤ x ∧ x < 4096) = false := by rw [decide_eq_false_iff_not]; exact hx
        go_wp2_with (go_at_call 45; refine (isNode_any _ _).mono ?_; rintro e w' ⟨rfl, rfl⟩)
        go_roundw
        case rel =>
          refine ⟨k + 1, by go_num, by omega, ?_, h0, hb⟩
          rw [HT.out]; exact hs.congr fun n hn => ofP_other _ _ hx _ hn
        case measure => simp [intOf]; omega
    · have e : xs.take k = xs := List.take_of_length_le (by omega)
      rw [e] at hs
      clear e hr
      go_wp2_with (first | refine wpList_load_set _ _ _ rfl rfl rfl hs ?_ | refine wpList_store_set _ _ _ _ _ rfl rfl rfl rfl h0 ?_)
      refine bodyPost_ret (v := .agg (cells (ofP xs))) ?_ rfl ⟨rfl, below_setRow hb (by omega) _⟩
      exact results_cell_row Tryd.results26 _ _ _ _ _ _ _ rfl (h0.row (q := ofP xs)) Tryd.underlying53 rfl (info_set' _)

end Go.Proofs.YtabciepnbmliiaaDoor
