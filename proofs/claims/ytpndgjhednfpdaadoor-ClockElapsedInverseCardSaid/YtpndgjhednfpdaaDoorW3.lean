/- The clock's durations: FormatDuration, ParseDuration. -/
import Derived.Test.YtpndgjhednfpdaaDoorW2
import Derived.BigQuiet
import Derived.Deep.QuietTactic
import Derived.Laws.Rows
import Derived.Deep.RegionHeld3
namespace Go.Proofs.YtpndgjhednfpdaaDoor
open Go.RowKit Go.Lib Go.Sort Clk

theorem cutSuffix_any (l : Bs) (c : ByteArray) (w : World) (hl : l.length ≤ 1000) :
    Calls Tryd.prog 51 #[.string ⟨l.toArray⟩, .string c] w fun e w' => e = .returned (.tuple #[.string ⟨(trimSuffix l c.data.toList).toArray⟩, .bool (hasSuffix l c.data.toList)]) ∧ w = w' := by
  refine (Tryd.strings_CutSuffix ⟨l.toArray⟩ c w (by rw [sz]; omega)).mono ?_
  rintro e w' ⟨rfl, rfl⟩
  exact ⟨rfl, rfl⟩

theorem wr (a : Int) : IntKind.i64.wrap a = wrap64 a := by rw [IntKind.wrap_i64]; unfold wrap64; rfl

theorem trim_le (l s : Bs) : (trimSuffix l s).length ≤ l.length := by
  unfold trimSuffix; split
  · simp
  · omega

theorem unit0 (w : World) : (Instr.index 39 (.agg #[.string ⟨#[104]⟩, .int .i64 3600, .string ⟨#[109]⟩, .int .i64 60, .string ⟨#[115]⟩, .int .i64 1]) (.int .i64 0)).run Tryd.prog w = .ok (.agg #[.string ⟨#[104]⟩, .int .i64 3600]) w := by kernel_rfl
theorem unit1 (w : World) : (Instr.index 39 (.agg #[.string ⟨#[104]⟩, .int .i64 3600, .string ⟨#[109]⟩, .int .i64 60, .string ⟨#[115]⟩, .int .i64 1]) (.int .i64 1)).run Tryd.prog w = .ok (.agg #[.string ⟨#[109]⟩, .int .i64 60]) w := by kernel_rfl
theorem unit2 (w : World) : (Instr.index 39 (.agg #[.string ⟨#[104]⟩, .int .i64 3600, .string ⟨#[109]⟩, .int .i64 60, .string ⟨#[115]⟩, .int .i64 1]) (.int .i64 2)).run Tryd.prog w = .ok (.agg #[.string ⟨#[115]⟩, .int .i64 1]) w := by kernel_rfl

theorem box_start {w W : World} {q : Nat} (hE : Env W) (hb0 : Below w.heap.size w W) (hq : q = W.heap.size) (a b : Value) (T : TypeId) : (W.alloc (.cells #[a, b] T)).drew.cell? ⟨q, 1, none⟩ = some b ∧ Env (W.alloc (.cells #[a, b] T)).drew ∧ Below w.heap.size w (W.alloc (.cells #[a, b] T)).drew := by
  subst hq
  have hb : Below W.heap.size W (W.alloc (.cells #[a, b] T)).drew := ((Below.refl _ _).alloc (Nat.le_refl _) _).drew
  exact ⟨cell_two_new W a b T 1 b rfl, hE.of hb, then_ hb0 hb⟩

theorem box_keep {w W W' : World} {b : Value} {q : Nat} (h : W.cell? ⟨q, 1, none⟩ = some b ∧ Env W ∧ Below w.heap.size w W) (k : Below W.heap.size W W') : W'.cell? ⟨q, 1, none⟩ = some b ∧ Env W' ∧ Below w.heap.size w W' := by
  obtain ⟨h1, h2, h3⟩ := h
  have hl : q < W.heap.size := World.block_lt_of_cell? W _ h1
  exact ⟨(k.cell (p := ⟨q, 1, none⟩) hl).trans h1, h2.of k, then_ h3 k⟩

set_option maxRecDepth 100000 in
theorem comp_any_h (l : Bs) (w : World) (hE : Env w) (hl : l.length ≤ 1000)  (h : hasSuffix l [104] = true) :
    Calls Tryd.prog 42 #[.string ⟨l.toArray⟩] w fun e w' => e = .returned (.int .i64 (wrap64 (num (trimSuffix l [104]) * 3600))) ∧ Below w.heap.size w w' := by
  have g0 := hE.u0
  have g1 := hE.u1
  have g2 := hE.u2
  have g3 := hE.u3
  have g4 := hE.u4
  have g5 := hE.u5
  have i0 := unit0
  have ht := trim_le l [104]
  have hS := box_start (q := w.heap.size) hE (Below.refl _ _) (by simp) (Value.string ⟨#[104]⟩) (Value.int IntKind.i64 3600) 38
  go_enter Tryd.func42, Tryd.ntmps42
  go_wp2_with fail
  refine wp_loop_rounds 1 ?_
  rw [rounds_succ]
  go_wp2_with fail
  refine (cutSuffix_any _ _ _ hl).mono ?_
  rintro e w' ⟨rfl, rfl⟩
  go_wp2_with fail
  go_region_held3 (fun w' => w'.cell? ⟨w.heap.size, 1, none⟩ = some (.int .i64 3600) ∧ Env w' ∧ Below w.heap.size w w')
    (first | exact hS | exact box_keep hS (by assumption))
    ((go_at_call 37; refine (number_any _ _ hS.2.1 (by omega)).mono ?_; rintro e w2 ⟨rfl, b2⟩))
  go_wp2_with fail
  go_ret
  exact ⟨ret_i (by rw [wr]; try rw [Int.mul_one]), (box_keep hS b2).2.2⟩

set_option maxRecDepth 100000 in
theorem comp_any_m (l : Bs) (w : World) (hE : Env w) (hl : l.length ≤ 1000) (h0 : hasSuffix l [104] = false) (h : hasSuffix l [109] = true) :
    Calls Tryd.prog 42 #[.string ⟨l.toArray⟩] w fun e w' => e = .returned (.int .i64 (wrap64 (num (trimSuffix l [109]) * 60))) ∧ Below w.heap.size w w' := by
  have g0 := hE.u0
  have g1 := hE.u1
  have g2 := hE.u2
  have g3 := hE.u3
  have g4 := hE.u4
  have g5 := hE.u5
  have i0 := unit0
  have i1 := unit1
  have ht := trim_le l [109]
  have hE1 : Env (w.alloc (Obj.cells #[Value.string ⟨#[104]⟩, Value.int IntKind.i64 3600] 38)) := hE.of ((Below.refl _ _).alloc (Nat.le_refl _) _)
  have hS := box_start (q := w.heap.size + 1) hE1 ((Below.refl _ _).alloc (by simp; try omega) _) (by simp) (Value.string ⟨#[109]⟩) (Value.int IntKind.i64 60) 38
  go_enter Tryd.func42, Tryd.ntmps42
  go_wp2_with fail
  refine wp_loop_rounds 2 ?_
  rw [rounds_succ]
  go_wp2_with fail
  refine (cutSuffix_any _ _ _ hl).mono ?_
  rintro e w' ⟨rfl, rfl⟩
  go_wp2_with fail
  rw [rounds_succ]
  go_wp2_with fail
  refine (cutSuffix_any _ _ _ hl).mono ?_
  rintro e w' ⟨rfl, rfl⟩
  go_wp2_with fail
  go_region_held3 (fun w' => w'.cell? ⟨w.heap.size + 1, 1, none⟩ = some (.int .i64 60) ∧ Env w' ∧ Below w.heap.size w w')
    (first | exact hS | exact box_keep hS (by assumption))
    ((go_at_call 37; refine (number_any _ _ hS.2.1 (by omega)).mono ?_; rintro e w2 ⟨rfl, b2⟩))
  go_wp2_with fail
  go_ret
  exact ⟨ret_i (by rw [wr]; try rw [Int.mul_one]), (box_keep hS b2).2.2⟩

set_option maxRecDepth 100000 in
theorem comp_any_s (l : Bs) (w : World) (hE : Env w) (hl : l.length ≤ 1000) (h0 : hasSuffix l [104] = false) (h1 : hasSuffix l [109] = false) (h : hasSuffix l [115] = true) :
    Calls Tryd.prog 42 #[.string ⟨l.toArray⟩] w fun e w' => e = .returned (.int .i64 (wrap64 (num (trimSuffix l [115]) * 1))) ∧ Below w.heap.size w w' := by
  have g0 := hE.u0
  have g1 := hE.u1
  have g2 := hE.u2
  have g3 := hE.u3
  have g4 := hE.u4
  have g5 := hE.u5
  have i0 := unit0
  have i1 := unit1
  have i2 := unit2
  have ht := trim_le l [115]
  have hE1 : Env (w.alloc (Obj.cells #[Value.string ⟨#[104]⟩, Value.int IntKind.i64 3600] 38)) := hE.of ((Below.refl _ _).alloc (Nat.le_refl _) _)
  have hE2 : Env ((w.alloc (Obj.cells #[Value.string ⟨#[104]⟩, Value.int IntKind.i64 3600] 38)).alloc (Obj.cells #[Value.string ⟨#[109]⟩, Value.int IntKind.i64 60] 38)) := hE1.of ((Below.refl _ _).alloc (Nat.le_refl _) _)
  have hS := box_start (q := w.heap.size + 1 + 1) hE2 (((Below.refl _ _).alloc (by simp; try omega) _).alloc (by simp; try omega) _) (by simp) (Value.string ⟨#[115]⟩) (Value.int IntKind.i64 1) 38
  go_enter Tryd.func42, Tryd.ntmps42
  go_wp2_with fail
  refine wp_loop_rounds 3 ?_
  rw [rounds_succ]
  go_wp2_with fail
  refine (cutSuffix_any _ _ _ hl).mono ?_
  rintro e w' ⟨rfl, rfl⟩
  go_wp2_with fail
  rw [rounds_succ]
  go_wp2_with fail
  refine (cutSuffix_any _ _ _ hl).mono ?_
  rintro e w' ⟨rfl, rfl⟩
  go_wp2_with fail
  rw [rounds_succ]
  go_wp2_with fail
  refine (cutSuffix_any _ _ _ hl).mono ?_
  rintro e w' ⟨rfl, rfl⟩
  go_wp2_with fail
  go_region_held3 (fun w' => w'.cell? ⟨w.heap.size + 1 + 1, 1, none⟩ = some (.int .i64 1) ∧ Env w' ∧ Below w.heap.size w w')
    (first | exact hS | exact box_keep hS (by assumption))
    ((go_at_call 37; refine (number_any _ _ hS.2.1 (by omega)).mono ?_; rintro e w2 ⟨rfl, b2⟩))
  go_wp2_with fail
  go_ret
  exact ⟨ret_i (by rw [wr]; try rw [Int.mul_one]), (box_keep hS b2).2.2⟩

set_option maxRecDepth 100000 in
theorem comp_any_n (l : Bs) (w : World) (hE : Env w) (hl : l.length ≤ 1000) (h0 : hasSuffix l [104] = false) (h1 : hasSuffix l [109] = false) (h2 : hasSuffix l [115] = false) :
    Calls Tryd.prog 42 #[.string ⟨l.toArray⟩] w fun e w' => e = .returned (.int .i64 (0)) ∧ Below w.heap.size w w' := by
  have g0 := hE.u0
  have g1 := hE.u1
  have g2 := hE.u2
  have g3 := hE.u3
  have g4 := hE.u4
  have g5 := hE.u5
  have i0 := unit0
  have i1 := unit1
  have i2 := unit2
  go_enter Tryd.func42, Tryd.ntmps42
  go_wp2_with fail
  refine wp_loop_rounds 4 ?_
  rw [rounds_succ]
  go_wp2_with fail
  refine (cutSuffix_any _ _ _ hl).mono ?_
  rintro e w' ⟨rfl, rfl⟩
  go_wp2_with fail
  rw [rounds_succ]
  go_wp2_with fail
  refine (cutSuffix_any _ _ _ hl).mono ?_
  rintro e w' ⟨rfl, rfl⟩
  go_wp2_with fail
  rw [rounds_succ]
  go_wp2_with fail
  refine (cutSuffix_any _ _ _ hl).mono ?_
  rintro e w' ⟨rfl, rfl⟩
  go_wp2_with fail
  rw [rounds_succ]
  go_wp2_with fail
  go_ret
  exact ⟨rfl, (((Below.refl _ _).alloc (Nat.le_refl _) _).alloc (by simp) _).alloc (by simp; omega) _⟩

theorem comp_any (l : Bs) (w : World) (hE : Env w) (hl : l.length ≤ 1000) :
    Calls Tryd.prog 42 #[.string ⟨l.toArray⟩] w fun e w' => e = .returned (.int .i64 (wrap64 ((comp l).1 * (comp l).2))) ∧ Below w.heap.size w w' := by
  unfold comp
  cases h0 : hasSuffix l [104] with
  | true => exact comp_any_h l w hE hl h0
  | false =>
    cases h1 : hasSuffix l [109] with
    | true => exact comp_any_m l w hE hl h0 h1
    | false =>
      cases h2 : hasSuffix l [115] with
      | true => exact comp_any_s l w hE hl h0 h1 h2
      | false =>
        refine (comp_any_n l w hE hl h0 h1 h2).mono ?_
        rintro e w' ⟨rfl, hb⟩
        exact ⟨ret_i (by simp [wrap64]), hb⟩

/-- What a component adds. -/
def adds (p : Bs) : Int := wrap64 ((comp p).1 * (comp p).2)

def strLen : Value → Nat | .string s => s.size | _ => 0

/-- What readDuration returns. -/
def readD (l : Bs) : Int := if l = never then 4611686018427387904 else readF adds l.length 0 l

theorem readD_any (l : Bs) (w : World) (hE : Env w) (hl : l.length ≤ 1000) :
    Calls Tryd.prog 33 #[.string ⟨l.toArray⟩] w fun e w' => e = .returned (.int .i64 (readD l)) ∧ Below w.heap.size w w' := by
  by_cases hn : l = [110, 101, 118, 101, 114]
  · subst hn
    go_enter Tryd.func33, Tryd.ntmps33
    go_wp2_with fail
    go_ret
    exact ⟨ret_i (by unfold readD never; rw [if_pos rfl]), Below.refl _ _⟩
  · have hne : (l == [110, 101, 118, 101, 114]) = false := by simpa using hn
    go_enter Tryd.func33, Tryd.ntmps33
    go_wp2_with fail
    go_loopw [3, 4] (fun d r w' => ∃ (x : Int) (k : Bs), d = .int .i64 x ∧ r = .string ⟨k.toArray⟩ ∧ k.length ≤ 1000 ∧ Hid (readF adds k.length x k = readF adds l.length 0 l) ∧ Env w' ∧ Below w.heap.size w w') (fun _ r _ => strLen r)
    case atStart => exact ⟨0, l, rfl, rfl, hl, rfl, hE, Below.refl _ _⟩
    case round =>
      obtain ⟨x, k, rfl, rfl, hk, HR, E1, B1⟩ := hrel
      by_cases hk0 : k = []
      · subst hk0
        go_wp2_with fail
        go_ret
        refine ⟨ret_i ?_, B1⟩
        unfold readD
        rw [if_neg (show ¬ l = never from hn), ← HR.out, readF_nil]
      · have hke : (k == []) = false := by simpa using hk0
        have hc := cut_le k [32]
        have hc2 := cut_length k 32 hk0
        go_wp2_with fail
        refine (cut_any _ _ _ E1 hk).mono ?_
        rintro e w1 ⟨rfl, b1⟩
        have E2 := E1.of b1
        go_wp2_with fail
        refine (comp_any _ _ E2 (by omega)).mono ?_
        rintro e w2 ⟨rfl, b2⟩
        have E3 := E2.of b2
        go_wp2_with (go_at_call 11; refine (add_any _ _ _).mono ?_; rintro e w' ⟨rfl, rfl⟩)
        go_roundw
        case rel =>
          refine ⟨_, _, rfl, rfl, by omega, ?_, E3, then_ B1 (then_ b1 b2)⟩
          show _ = _
          rw [← HR.out]
          obtain ⟨m, hm⟩ : ∃ m, k.length = m + 1 := ⟨k.length - 1, by omega⟩
          rw [hm, readF, if_neg hk0]
          exact readF_more adds _ _ _ _ (Nat.le_refl _) (by omega)
        case measure => simp only [strLen, sz]; omega

end Go.Proofs.YtpndgjhednfpdaaDoor
