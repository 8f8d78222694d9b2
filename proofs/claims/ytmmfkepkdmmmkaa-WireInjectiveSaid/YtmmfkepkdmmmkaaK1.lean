/- The code: zigzag and back, copies. -/
import Derived.Test.YtmmfkepkdmmmkaaW2
import Derived.Lib.Zigzag
import Derived.Laws.MakeOwn
set_option linter.unusedVariables false
set_option linter.unusedSimpArgs false
namespace Go.Proofs.Ytmmfkepkdmmmkaa
open Go.RowKit Go.Lib Wr

theorem ofInt_nat (a : Int) : (BitVec.ofInt 64 a).toNat = (a % 18446744073709551616).toNat := by
  simp [BitVec.toNat_ofInt]
theorem xor_i64_zero {a : Int} (h : I64 a) : bits .xor .i64 a 0 = a := by
  obtain ⟨h1, h2⟩ := h
  show IntKind.i64.wrap ((BitVec.ofInt 64 a ^^^ BitVec.ofInt 64 0).toNat : Int) = _
  rw [BitVec.toNat_xor, ofInt_nat, ofInt_nat, show ((0 : Int) % 18446744073709551616).toNat = 0 from rfl, Nat.xor_zero, IntKind.wrap_i64]
  omega
theorem xor_i64_ones {a : Int} (h : I64 a) : bits .xor .i64 a (-1) = -a - 1 := by
  obtain ⟨h1, h2⟩ := h
  show IntKind.i64.wrap ((BitVec.ofInt 64 a ^^^ BitVec.ofInt 64 (-1)).toNat : Int) = _
  rw [BitVec.toNat_xor, ofInt_nat, ofInt_nat, show ((-1 : Int) % 18446744073709551616).toNat = 2 ^ 64 - 1 from by decide, Nat.xor_comm, xor_ones64 _ (by omega), IntKind.wrap_i64]
  omega

theorem zigzag_any (n : Int) (w : World) (hn : I64 n) : Calls Try.prog 37 #[.int .i64 n] w fun r w' => r = .returned (.int .u64 (zig n : Nat)) ∧ w = w' := by
  have h0 := hn
  obtain ⟨h1, h2⟩ := h0
  have hw : I64 (wrap64 (n * 2)) := by unfold wrap64; exact ⟨by omega, by omega⟩
  have hx : IntKind.u64.wrap (bits .xor .i64 (wrap64 (n * 2)) (n / 9223372036854775808)) = (zig n : Nat) := by
    by_cases hs : 0 ≤ n
    · rw [show n / 9223372036854775808 = 0 from by omega, xor_i64_zero hw, IntKind.wrap_u64]
      unfold zig wrap64; rw [if_pos hs]; omega
    · rw [show n / 9223372036854775808 = -1 from by omega, xor_i64_ones hw, IntKind.wrap_u64]
      unfold zig wrap64; rw [if_neg hs]; omega
  have hx' := Lib.hid hx
  clear hx
  go_enter Try.func37, Try.ntmps37
  go_wp2_with fail
  go_ret
  exact ⟨ret_i hx'.out, rfl⟩

theorem unzigzag_any (u : Nat) (w : World) (hu : u < 18446744073709551616) : Calls Try.prog 40 #[.int .u64 (u : Int)] w fun r w' => r = .returned (.int .i64 (unzig u)) ∧ w = w' := by
  have hx : bits .xor .i64 ((u : Int) / 2) (wrap64 (-wrap64 (bits .and .u64 (u : Int) 1))) = unzig u := by
    rw [u64_and1 (u : Int) (by omega) (by omega)]
    have hh : I64 ((u : Int) / 2) := ⟨by omega, by omega⟩
    by_cases hp : u % 2 = 1
    · rw [show (u : Int) % 2 = 1 from by omega, show wrap64 (-wrap64 1) = -1 from by unfold wrap64; omega, xor_i64_ones hh]
      unfold unzig; rw [if_pos hp]; omega
    · rw [show (u : Int) % 2 = 0 from by omega, show wrap64 (-wrap64 0) = 0 from by unfold wrap64; omega, xor_i64_zero hh]
      unfold unzig; rw [if_neg hp]; omega
  have hx' := Lib.hid hx
  clear hx
  go_enter Try.func40, Try.ntmps40
  go_wp2_with fail
  go_ret
  exact ⟨ret_i hx'.out, rfl⟩

theorem run_make_bytes (w : World) (n : Nat) (hn : n ≤ 1000000) : (Instr.makeSlice 22 (.int .i64 (n : Int)) (.int .i64 (n : Int))).run Try.prog w = .ok (.slice (some ⟨w.heap.size, 0, none⟩) n n) (w.alloc (.cells (madeCells #[.int .u8 0] n) 5)) := by
  obtain ⟨i0, hi, hz0, hz1, hz2⟩ := info_parts infoU8
  have h := run_make (P := Try.prog) w 22 5 i0 _ Try.underlying22 hi hz0 .i64 .i64 (n : Int) (n : Int) (by omega) (by omega) (by rw [hz2]; omega) (by omega)
  rw [hz1, Int.toNat_natCast, Nat.mul_one] at h
  exact h

/-- make([]byte, n). -/
theorem wpList_make_bytes {ops : Array Oper} {rest : List Oper} {o : Oper} {a : Act} {w : World} {Q : Exit → Act → World → Prop} (hgd : o.guard = none) (l c : Operand) (ho : o.op = .makeSlice 22 l c) (n : Nat) (hn : n ≤ 1000000) (hl : a.eval l = .int .i64 (n : Int)) (hc : a.eval c = .int .i64 (n : Int))
    (h : ∀ w', w'.heap[w.heap.size]? = some (.cells (madeCells #[.int .u8 0] n) 5 (0, 0)) → Below w.heap.size w w' → wpList Try.prog ops Q rest (a.put o.dst (.slice (some ⟨w.heap.size, 0, none⟩) n n)) w') : wpList Try.prog ops Q (o :: rest) a w :=
  wpList_plain hgd fun _ hK => by
    have hr := run_make_bytes w n hn
    unfold Oper.wp execOp
    simp only [ho, hl, hc, Sem.run_bind, Sem.run_pure, Result.andThen_ok, hr]
    exact hK _ _ (h _ (heap_alloc_new w _) ((Below.refl _ w).alloc (Nat.le_refl _) _))

/-- copy over a new row of the same length. -/
theorem wpList_copy_bytes {ops : Array Oper} {rest : List Oper} {o : Oper} {a : Act} {w : World} {Q : Exit → Act → World → Prop} (hgd : o.guard = none) (d s : Operand) (ho : o.op = .call { callee := .builtin .copy, args := #[d, s], argTypes := #[22, 22] })
    (g : Nat) (v : Value) (l : Bs) (hd : a.eval d = .slice (some ⟨g, 0, none⟩) l.length l.length) (hs : a.eval s = v) (hv : RB w v l) (hg : w.heap[g]? = some (.cells (madeCells #[.int .u8 0] l.length) 5 (0, 0))) (w0 : World) (hb : Below w0.heap.size w0 w) (hBg : w0.heap.size ≤ g) (hl : l.length ≤ 1000000)
    (h : ∀ w', OwnB w' w0.heap.size (.slice (some ⟨g, 0, none⟩) l.length l.length) l → Below w0.heap.size w0 w' → wpList Try.prog ops Q rest (a.put o.dst (goInt (bcs l).length)) w') : wpList Try.prog ops Q (o :: rest) a w := by
  obtain ⟨A, c, rfl⟩ := hv.form
  have hsz : (Try.prog.info? 5).map (·.size) = some 1 := by kernel_rfl
  have hn : (bcs l).length = Nat.min l.length l.length := by simp [bcs]
  have hm : (madeCells #[.int .u8 0] l.length).toList.length = l.length := by rw [Array.length_toList, size_madeCells]
  have hbl : (bcs l).length = l.length := by simp [bcs]
  refine wpList_copy_splice hgd d s 22 22 ho 5 Try.underlying22 hsz (some ⟨g, 0, none⟩) A l.length l.length l.length c hd hs g 0 (madeCells #[.int .u8 0] l.length).toList 5 hg (bcs l) hn (fun h0 => ⟨rfl, ?_⟩) (by rw [hm, hbl]; omega) (one_bcs l) w0.heap.size w0 hb hBg ?_
  · rcases hv with ⟨_, rfl⟩ | ⟨ad, c', e, _, _, hc⟩
    · simp [bcs] at h0
    · injection e with e1 _ _
      refine ⟨ad, e1, fun j u hu => ?_⟩
      simp only [bcs, List.getElem?_map, Option.map_eq_some_iff] at hu
      obtain ⟨b, hb2, rfl⟩ := hu
      exact hc j b hb2
  · intro w3 hg3 hb3
    refine h w3 ?_ hb3
    have hs : splice (madeCells #[.int .u8 0] l.length).toList 0 (bcs l) = bcs l := by
      unfold splice
      rw [List.take_zero, List.nil_append, List.drop_of_length_le (by rw [hm, hbl]; omega), List.append_nil]
    have hg4 := hg3.out
    rw [hs] at hg4
    exact ⟨by simp [bcs], .inr ⟨g, l.length, (bcs l).toArray, rfl, hBg, hg4, Nat.le_refl _, by unfold maxLen; omega, by simp [bcs], by rw [Nat.mul_one]; exact List.take_of_length_le (by simp [bcs])⟩⟩

theorem copyOf_any (v : Value) (l : Bs) (w : World) (H : RB w v l) (hl : l.length ≤ 1000000) : Calls Try.prog 31 #[v] w fun r w' => ∃ v', r = .returned v' ∧ OwnB w' w.heap.size v' l ∧ Below w.heap.size w w' := by
  obtain ⟨A, c, rfl⟩ := H.form
  have H' := Lib.hid H
  clear H
  go_enter Try.func31, Try.ntmps31
  go_wp2_with (first
    | (refine wpList_make_bytes rfl _ _ rfl l.length hl rfl rfl ?_; intro w2 hm2 hb2; have hm2' := Lib.hid hm2; clear hm2)
    | (refine wpList_copy_bytes rfl _ _ rfl w.heap.size _ l rfl rfl (H'.out.below hb2) hm2'.out w hb2 (Nat.le_refl _) hl ?_; intro w3 hO3 hb3; have hO3' := Lib.hid hO3; clear hO3))
  go_ret
  exact ⟨_, rfl, hO3'.out, hb3⟩
end Go.Proofs.Ytmmfkepkdmmmkaa
