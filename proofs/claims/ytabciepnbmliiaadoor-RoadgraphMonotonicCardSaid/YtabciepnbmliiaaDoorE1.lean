/- What the arguments of the laws are, read. -/
import Derived.Test.YtabciepnbmliiaaDoorW5
import Derived.WalkKit
import Derived.ProofKit
import Derived.OpenShut
import Derived.Carry
import Derived.SizedLaws
import Derived.Deep.Slices
import Derived.Deep.DeepHandedRow
import Derived.Deep.DeepWitnessRowRef
import Derived.Lib.LaidTab
import Derived.Lib.SmallJoins
import Derived.ShutString
set_option linter.unusedVariables false
set_option linter.unusedSimpArgs false
set_option maxRecDepth 100000
namespace Go.Proofs.YtabciepnbmliiaaDoor
open Go.ChangeShapes Go.WideShapes Go.ChangeAt Go.RowKit Go.Lib Rg

theorem own : ownKnob Tryd.prog.godebug = none := by kernel_rfl
theorem laidOut : laidOutB Tryd.prog = true := by kernel_rfl
theorem cellsInt : Tryd.prog.cellsOf 3 = 1 := by kernel_rfl
theorem cellsInt64 : Tryd.prog.cellsOf 2 = 1 := by kernel_rfl
theorem cellsEdge : Tryd.prog.cellsOf 35 = 3 := by kernel_rfl
theorem cellsEdges : Tryd.prog.cellsOf 22 = 1 := by kernel_rfl
theorem cellsNet : Tryd.prog.cellsOf 24 = 2 := by kernel_rfl

theorem exists_list {α : Type} {P : Nat → α → Prop} : ∀ n : Nat, (∀ i, i < n → ∃ a, P i a) → ∃ l : List α, l.length = n ∧ ∀ (i : Nat) (a : α), l[i]? = some a → P i a
  | 0, _ => ⟨[], rfl, by simp⟩
  | n + 1, h => by
    obtain ⟨l, hl, hp⟩ := exists_list n fun i hi => h i (by omega)
    obtain ⟨a, ha⟩ := h n (by omega)
    refine ⟨l ++ [a], by simp [hl], fun i b hb => ?_⟩
    by_cases e : i < n
    · rw [List.getElem?_append_left (by omega)] at hb; exact hp i b hb
    · have := (List.getElem?_eq_some_iff.1 hb).1
      rw [List.length_append, List.length_singleton] at this
      obtain rfl : i = n := by omega
      rw [List.getElem?_append_right (by omega), hl] at hb
      simp at hb; subst hb; exact ha
theorem u8_fits {n : Int} (h : (Lit.int .u8 n).wf = true) : 0 ≤ n ∧ n < 256 := by
  simp [Lit.wf, IntKind.min, IntKind.max, IntKind.signed, IntKind.bits] at h; omega
theorem i64_fits {n : Int} (h : (Lit.int .i64 n).wf = true) : I64 n := by
  simp [Lit.wf, IntKind.min, IntKind.max, IntKind.signed, IntKind.bits] at h; exact ⟨by omega, by omega⟩

section
variable {H : Type} {enc : TypeId × Value → H} {W : World}

theorem ints_of {a : Option Addr} {len cap : Nat} {d : DataW H} {ps : List MemPlace} (h : DataW.Trod enc Tryd.prog W 0 (fun _ => true) true 42 (.slice a len cap) d ps) :
    ∃ l : List Int, Rd W a len l ∧ len ≤ 9223372036854775807 ∧ ∀ z ∈ l, I64 z := by
  obtain ⟨fuel, hf⟩ := h
  rcases Go.Deep.open_slice1 Tryd.underlying42 cellsInt hf with ⟨hcs, _⟩ | ⟨b, len', cap', m, n', V, D, Pl, hcs, _, hl, hm, hmm, hx, hi⟩
  · simp [Value.cells] at hcs
    obtain ⟨rfl, rfl, rfl⟩ := hcs
    exact ⟨[], Rd.nil _ _, by simp, by simp⟩
  · simp [Value.cells] at hcs
    obtain ⟨rfl, rfl, rfl⟩ := hcs
    simp only [if_true] at hmm
    subst hmm
    obtain ⟨l, hll, hp⟩ := exists_list (P := fun i (z : Int) => W.cell? (b.add i) = some (.int .i64 z) ∧ I64 z) len fun i hil => by
      obtain ⟨h1, h2⟩ := hi i (by omega)
      obtain ⟨z, h3, _, h4⟩ := DataW.trod_int Tryd.underlying3 h2
      simp at h3
      exact ⟨z, by rw [h1, h3], i64_fits h4⟩
    subst hll
    unfold maxLen at hm
    refine ⟨l, ⟨rfl, fun hn => ⟨b, rfl, ?_, fun j hj => ?_⟩⟩, by omega, fun z hz => ?_⟩
    · have := World.block_lt_of_cell? W _ (hi 0 (by omega)).1
      rwa [block_add'] at this
    · have he : l[j]? = some (l.getD j 0) := by rw [List.getD_eq_getElem?_getD, List.getElem?_eq_getElem hj]; rfl
      exact (hp j _ he).1
    · obtain ⟨i, hz⟩ := List.mem_iff_getElem?.1 hz
      exact (hp i z hz).2

theorem edge_cells {n : Nat} {cs : List Value} {x : DataW H × List MemPlace} (hl : cs.length = 3) (hf : DataW.trod enc Tryd.prog W 0 (fun _ => true) true n 35 cs = some x) :
    ∃ e : Ed3, cs = [.int .i64 e.1, .int .i64 e.2.1, .int .i64 e.2.2] ∧ x.1 = .agg [.lit (.int .i64 e.1), .lit (.int .i64 e.2.1), .lit (.int .i64 e.2.2)] ∧ I64 e.1 ∧ I64 e.2.1 ∧ I64 e.2.2 := by
  obtain ⟨xs, n', _, hxx, _, hxl, hg⟩ := DataW.trod_struct Tryd.underlying35 hf
  match cs, hl with
  | [c0, c1, c2], _ =>
    match xs, hxl with
    | [y0, y1, y2], _ =>
      have g0 : DataW.trod enc Tryd.prog W 0 (fun _ => true) true n' 3 (([c0, c1, c2].drop 0).take (Tryd.prog.cellsOf 3)) = some y0 := hg 0 _ rfl
      have g1 : DataW.trod enc Tryd.prog W 0 (fun _ => true) true n' 3 (([c0, c1, c2].drop 1).take (Tryd.prog.cellsOf 3)) = some y1 := hg 1 _ rfl
      have g2 : DataW.trod enc Tryd.prog W 0 (fun _ => true) true n' 2 (([c0, c1, c2].drop 2).take (Tryd.prog.cellsOf 2)) = some y2 := hg 2 _ rfl
      rw [cellsInt] at g0 g1
      rw [cellsInt64] at g2
      simp only [List.drop_zero, List.drop_succ_cons, List.take_succ_cons, List.take_zero] at g0 g1 g2
      obtain ⟨z0, e0, q0, f0⟩ := DataW.trod_int Tryd.underlying3 g0
      obtain ⟨z1, e1, q1, f1⟩ := DataW.trod_int Tryd.underlying3 g1
      obtain ⟨z2, e2, q2, f2⟩ := DataW.trod_int Tryd.underlying2 g2
      simp at e0 e1 e2
      subst e0 e1 e2
      have hd : x.1 = .agg [y0.1, y1.1, y2.1] := congrArg Prod.fst hxx
      exact ⟨(z0, z1, z2), rfl, by rw [hd, q0, q1, q2], i64_fits f0, i64_fits f1, i64_fits f2⟩

theorem edges_of {n : Nat} {v : Value} {x : DataW H × List MemPlace} (hf : DataW.trod enc Tryd.prog W 0 (fun _ => true) true n 22 [v] = some x) :
    ∃ a len cap, v = .slice a len cap ∧ ∃ l : List Ed3, Re W a len l ∧ len ≤ cap ∧ cap ≤ 9223372036854775807 ∧ ∀ e ∈ l, I64 e.1 ∧ I64 e.2.1 ∧ I64 e.2.2 := by
  rcases Go.Deep.open_slice Tryd.underlying22 hf with ⟨hcs, _⟩ | ⟨b, len, cap', m, n, D, Pl, hcs, _, hl, hm, hmm, hx, hi⟩
  · simp at hcs
    subst hcs
    exact ⟨none, 0, 0, rfl, [], Re.nil _ _, by simp, by simp, by simp⟩
  · simp at hcs
    subst hcs
    simp only [if_true] at hmm
    subst hmm
    obtain ⟨l, hll, hp⟩ := exists_list (P := fun i (e : Ed3) => T3 W (b.add (i * 3)) e ∧ I64 e.1 ∧ I64 e.2.1 ∧ I64 e.2.2) len fun i hil => by
      obtain ⟨cs', h1, h2⟩ := hi i (by omega)
      rw [cellsEdge] at h1
      obtain ⟨_, hcl, hat⟩ := World.cells?_some h1
      obtain ⟨e, he, _, hI⟩ := edge_cells hcl h2
      subst he
      have a0 := hat 0 (by omega)
      have a1 := hat 1 (by omega)
      have a2 := hat 2 (by omega)
      rw [add_zero'] at a0
      exact ⟨e, ⟨by simpa using a0, by simpa using a1, by simpa using a2⟩, hI⟩
    subst hll
    unfold maxLen at hm
    refine ⟨_, _, _, rfl, l, ⟨rfl, fun hn => ⟨b, rfl, fun j hj => ?_⟩⟩, hl, hm, fun e he => ?_⟩
    · have he : l[j]? = some (l.getD j (0, 0, 0)) := by rw [List.getD_eq_getElem?_getD, List.getElem?_eq_getElem hj]; rfl
      exact (hp j _ he).1
    · obtain ⟨i, he⟩ := List.mem_iff_getElem?.1 he
      exact (hp i e he).2

/-- The arguments of New. -/
theorem net_of {r : Reach} {b0 : Nat} {v : Value} {d : DataW H} {ps : List MemPlace} (hv : Value.okWide Tryd.prog W r b0 24 v) (h : DataW.Trod enc Tryd.prog W 0 (fun _ => true) true 24 v d ps) :
    ∃ N a len cap l, v = .agg #[.int .i64 N, .slice a len cap] ∧ I64 N ∧ Re W a len l ∧ len ≤ cap ∧ cap ≤ 9223372036854775807 ∧ ∀ e ∈ l, I64 e.1 ∧ I64 e.2.1 ∧ I64 e.2.2 := by
  obtain ⟨cs, rfl, hsz⟩ := okWide_struct Tryd.underlying24 hv
  obtain ⟨l, rfl⟩ : ∃ l : List Value, cs = l.toArray := ⟨cs.toList, by simp⟩
  have hsz' : l.length = 2 := by rw [cellsNet] at hsz; simpa using hsz
  obtain ⟨fuel, hf⟩ := h
  have hf' : DataW.trod enc Tryd.prog W 0 (fun _ => true) true fuel 24 l = some (d, ps) := hf
  clear hf hv hsz
  obtain ⟨xs, n', _, hxx, _, hxl, hg⟩ := DataW.trod_struct Tryd.underlying24 hf'
  match l, hsz' with
  | [c0, c1], _ =>
    match xs, hxl with
    | [y0, y1], _ =>
      have g0 : DataW.trod enc Tryd.prog W 0 (fun _ => true) true n' 3 (([c0, c1].drop 0).take (Tryd.prog.cellsOf 3)) = some y0 := hg 0 _ rfl
      have g1 : DataW.trod enc Tryd.prog W 0 (fun _ => true) true n' 22 (([c0, c1].drop 1).take (Tryd.prog.cellsOf 22)) = some y1 := hg 1 _ rfl
      rw [cellsInt] at g0
      rw [cellsEdges] at g1
      simp only [List.drop_zero, List.drop_succ_cons, List.take_succ_cons, List.take_zero] at g0 g1
      obtain ⟨z0, e0, _, f0⟩ := DataW.trod_int Tryd.underlying3 g0
      obtain rfl : c0 = .int .i64 z0 := by simpa using e0
      obtain ⟨a, len, cap, rfl, es, h1, h2, h3, h4⟩ := edges_of g1
      exact ⟨z0, a, len, cap, es, rfl, i64_fits f0, h1, h2, h3, h4⟩
/-- One edge. -/
theorem edge_of {r : Reach} {b0 : Nat} {v : Value} {d : DataW H} {ps : List MemPlace} (hv : Value.okWide Tryd.prog W r b0 35 v) (h : DataW.Trod enc Tryd.prog W 0 (fun _ => true) true 35 v d ps) :
    ∃ e : Ed3, v = .agg #[.int .i64 e.1, .int .i64 e.2.1, .int .i64 e.2.2] ∧ I64 e.1 ∧ I64 e.2.1 ∧ I64 e.2.2 := by
  obtain ⟨cs, rfl, hsz⟩ := okWide_struct Tryd.underlying35 hv
  obtain ⟨l, rfl⟩ : ∃ l : List Value, cs = l.toArray := ⟨cs.toList, by simp⟩
  have hsz' : l.length = 3 := by rw [cellsEdge] at hsz; simpa using hsz
  obtain ⟨fuel, hf⟩ := h
  obtain ⟨e, he, _, hI⟩ := edge_cells hsz' (x := (d, ps)) hf
  subst he
  exact ⟨e, rfl, hI⟩
end
end Go.Proofs.YtabciepnbmliiaaDoor
