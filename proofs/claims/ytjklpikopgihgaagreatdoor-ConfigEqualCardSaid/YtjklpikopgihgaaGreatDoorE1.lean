/- What the arguments of the laws are, read. -/
import Derived.Test.YtjklpikopgihgaaGreatDoorV2
import Derived.WalkKit
import Derived.ProofKit
import Derived.OpenShut
import Derived.Carry
import Derived.SizedLaws
import Derived.Deep.Slices
import Derived.Deep.DeepHandedRow
import Derived.Deep.DeepWitnessRowRef
import Derived.Lib.LaidTab
import Derived.ShutString
set_option linter.unusedVariables false
set_option maxRecDepth 100000
namespace Go.Proofs.YtjklpikopgihgaaGreatDoor
open Go.ChangeShapes Go.WideShapes Go.ChangeAt Go.RowKit Go.Lib Cf

theorem own : ownKnob Tryz.prog.godebug = none := by kernel_rfl
theorem laidOut : laidOutB Tryz.prog = true := by kernel_rfl
theorem cellsInt : Tryz.prog.cellsOf 3 = 1 := by kernel_rfl
theorem cellsInt64 : Tryz.prog.cellsOf 2 = 1 := by kernel_rfl
theorem cellsStr : Tryz.prog.cellsOf 9 = 1 := by kernel_rfl
theorem cellsInts : Tryz.prog.cellsOf 22 = 1 := by kernel_rfl
theorem cellsEdges : Tryz.prog.cellsOf 23 = 1 := by kernel_rfl
theorem cellsUnits : Tryz.prog.cellsOf 24 = 1 := by kernel_rfl
theorem cellsPlans : Tryz.prog.cellsOf 25 = 1 := by kernel_rfl
theorem cellsEdge : Tryz.prog.cellsOf 47 = 3 := by kernel_rfl
theorem cellsUnit : Tryz.prog.cellsOf 50 = 3 := by kernel_rfl
theorem cellsPlan : Tryz.prog.cellsOf 43 = 3 := by kernel_rfl
theorem cellsCfg : Tryz.prog.cellsOf 27 = 15 := by kernel_rfl
theorem bytesInt : Tryz.prog.bytesOf 3 = 8 := by kernel_rfl

theorem exists_list {α : Type} {P : Nat → α → Prop} : ∀ n : Nat, (∀ i, i < n → ∃ a, P i a) → ∃ l : List α, l.length = n ∧ ∀ (i : Nat) (a : α), l[i]? = some a → P i a
  | 0, _ => ⟨[], rfl, by simp⟩
  | n + 1, h => by
    obtain ⟨l, hl, hp⟩ := exists_list n fun i hi => h i (by omega)
    obtain ⟨a, ha⟩ := h n (by omega)
    refine ⟨l ++ [a], by simp [hl], fun i b hb => ?_⟩
    by_cases e : i < n
    · rw [List.getElem?_append_left (by omega)] at hb; exact hp i b hb
    · have := (List.getElem?_eq_some_iff.1 hb).1
      rw [List.length_append, List.length_singleton] at this
      obtain rfl : i = n := by omega
      rw [List.getElem?_append_right (by omega), hl] at hb
      simp at hb; subst hb; exact ha
theorem u8_fits {n : Int} (h : (Lit.int .u8 n).wf = true) : 0 ≤ n ∧ n < 256 := by
  simp [Lit.wf, IntKind.min, IntKind.max, IntKind.signed, IntKind.bits] at h; omega
theorem i64_fits {n : Int} (h : (Lit.int .i64 n).wf = true) : I64 n := by
  simp [Lit.wf, IntKind.min, IntKind.max, IntKind.signed, IntKind.bits] at h; exact ⟨by omega, by omega⟩

section
variable {H : Type} {enc : TypeId × Value → H} {W : World}

/-- A row of numbers. -/
theorem ints_of {n : Nat} {v : Value} {x : DataW H × List MemPlace} (hf : DataW.trod enc Tryz.prog W 0 (fun _ => true) true n 22 [v] = some x) :
    ∃ l : List Int, RN W v l ∧ (∀ z ∈ l, I64 z) ∧ l.length ≤ 9223372036854775807 ∧ ((∀ k ∈ x.1.weights Tryz.prog 22, k ≤ reachBytes) → l.length ≤ 2305843009213693952) := by
  rcases Go.Deep.open_slice1 Tryz.underlying22 cellsInt hf with ⟨hcs, _⟩ | ⟨b, len', cap', m, n', V, D, Pl, hcs, _, hl, hm, hmm, hx, hi⟩
  · simp at hcs
    subst hcs
    exact ⟨[], .inl ⟨rfl, rfl⟩, by simp, by simp, by simp⟩
  · simp at hcs
    subst hcs
    simp only [if_true] at hmm
    subst hmm
    obtain ⟨l, hll, hp⟩ := exists_list (P := fun i (z : Int) => W.cell? (b.add i) = some (.int .i64 z) ∧ I64 z) len' fun i hil => by
      obtain ⟨h1, h2⟩ := hi i (by omega)
      obtain ⟨z, h3, _, h4⟩ := DataW.trod_int Tryz.underlying3 h2
      simp at h3
      exact ⟨z, by rw [h1, h3], i64_fits h4⟩
    subst hll
    unfold maxLen at hm
    refine ⟨l, .inr ⟨b, m, rfl, fun j z hj => (hp j z hj).1⟩, fun z hz => ?_, by omega, fun hw => ?_⟩
    · obtain ⟨i, hz⟩ := List.mem_iff_getElem?.1 hz
      exact (hp i z hz).2
    · have h1 := hw (((List.range l.length).map D).length * 8 + ((List.range (m - l.length)).map fun j => D (l.length + j)).length * 8) (by
        rw [hx]
        simp only [DataW.weights, Tryz.underlying22]
        rw [bytesInt, Nat.add_mul]
        exact List.mem_cons_self)
      have h2 := reachBytes_lt
      simp at h1
      omega

theorem weightsAll_mem {P : Program} {e : TypeId} : ∀ {ds : List (DataW H)} {d : DataW H}, d ∈ ds → ∀ n ∈ d.weights P e, n ∈ DataW.weightsAll P e ds
  | d0 :: ds, d, hd, n, hn => by
    simp only [DataW.weightsAll, List.mem_append]
    rcases List.mem_cons.1 hd with rfl | hd
    · exact .inl hn
    · exact .inr (weightsAll_mem hd n hn)

/-- A row of triples. -/
theorem edges_of {n : Nat} {v : Value} {x : DataW H × List MemPlace} (hf : DataW.trod enc Tryz.prog W 0 (fun _ => true) true n 23 [v] = some x) :
    ∃ l : List (Int × Int × Int), R3 W v l ∧ (∀ e ∈ l, I64 e.1 ∧ I64 e.2.1 ∧ I64 e.2.2) ∧ l.length ≤ 9223372036854775807 := by
  rcases Go.Deep.open_slice Tryz.underlying23 hf with ⟨hcs, _⟩ | ⟨b, len, cap', m, n, D, Pl, hcs, _, hl, hm, hmm, hx, hi⟩
  · simp at hcs
    subst hcs
    exact ⟨[], .inl ⟨rfl, rfl⟩, by simp, by simp⟩
  · simp at hcs
    subst hcs
    simp only [if_true] at hmm
    subst hmm
    obtain ⟨l, hll, hp⟩ := exists_list (P := fun i (e : Int × Int × Int) => T3 W (b.add (i * 3)) e ∧ I64 e.1 ∧ I64 e.2.1 ∧ I64 e.2.2) len fun i hil => by
      obtain ⟨cs', h1, h2⟩ := hi i (by omega)
      rw [cellsEdge] at h1
      obtain ⟨_, hcl, hat⟩ := World.cells?_some h1
      obtain ⟨xs, n', _, hxx, _, hxl, hg⟩ := DataW.trod_struct Tryz.underlying47 h2
      match cs', hcl with
      | [c0, c1, c2], _ =>
        match xs, hxl with
        | [y0, y1, y2], _ =>
          have g0 : DataW.trod enc Tryz.prog W 0 (fun _ => true) true n' 3 (([c0, c1, c2].drop 0).take (Tryz.prog.cellsOf 3)) = some y0 := hg 0 _ rfl
          have g1 : DataW.trod enc Tryz.prog W 0 (fun _ => true) true n' 3 (([c0, c1, c2].drop 1).take (Tryz.prog.cellsOf 3)) = some y1 := hg 1 _ rfl
          have g2 : DataW.trod enc Tryz.prog W 0 (fun _ => true) true n' 2 (([c0, c1, c2].drop 2).take (Tryz.prog.cellsOf 2)) = some y2 := hg 2 _ rfl
          rw [cellsInt] at g0 g1
          rw [cellsInt64] at g2
          simp only [List.drop_zero, List.drop_succ_cons, List.take_succ_cons, List.take_zero] at g0 g1 g2
          obtain ⟨z0, e0, _, f0⟩ := DataW.trod_int Tryz.underlying3 g0
          obtain ⟨z1, e1, _, f1⟩ := DataW.trod_int Tryz.underlying3 g1
          obtain ⟨z2, e2, _, f2⟩ := DataW.trod_int Tryz.underlying2 g2
          simp at e0 e1 e2
          subst e0 e1 e2
          have a0 := hat 0 (by omega)
          have a1 := hat 1 (by omega)
          have a2 := hat 2 (by omega)
          rw [add_zero'] at a0
          exact ⟨(z0, z1, z2), ⟨by simpa using a0, by simpa using a1, by simpa using a2⟩, i64_fits f0, i64_fits f1, i64_fits f2⟩
    subst hll
    unfold maxLen at hm
    refine ⟨l, .inr ⟨b, m, rfl, fun j e hj => (hp j e hj).1⟩, fun e he => ?_, by omega⟩
    obtain ⟨i, he⟩ := List.mem_iff_getElem?.1 he
    exact (hp i e he).2

/-- A row of triples. -/
theorem units_of {n : Nat} {v : Value} {x : DataW H × List MemPlace} (hf : DataW.trod enc Tryz.prog W 0 (fun _ => true) true n 24 [v] = some x) :
    ∃ l : List (Int × Int × Int), R3 W v l ∧ (∀ e ∈ l, I64 e.1 ∧ I64 e.2.1 ∧ I64 e.2.2) ∧ l.length ≤ 9223372036854775807 := by
  rcases Go.Deep.open_slice Tryz.underlying24 hf with ⟨hcs, _⟩ | ⟨b, len, cap', m, n, D, Pl, hcs, _, hl, hm, hmm, hx, hi⟩
  · simp at hcs
    subst hcs
    exact ⟨[], .inl ⟨rfl, rfl⟩, by simp, by simp⟩
  · simp at hcs
    subst hcs
    simp only [if_true] at hmm
    subst hmm
    obtain ⟨l, hll, hp⟩ := exists_list (P := fun i (e : Int × Int × Int) => T3 W (b.add (i * 3)) e ∧ I64 e.1 ∧ I64 e.2.1 ∧ I64 e.2.2) len fun i hil => by
      obtain ⟨cs', h1, h2⟩ := hi i (by omega)
      rw [cellsUnit] at h1
      obtain ⟨_, hcl, hat⟩ := World.cells?_some h1
      obtain ⟨xs, n', _, hxx, _, hxl, hg⟩ := DataW.trod_struct Tryz.underlying50 h2
      match cs', hcl with
      | [c0, c1, c2], _ =>
        match xs, hxl with
        | [y0, y1, y2], _ =>
          have g0 : DataW.trod enc Tryz.prog W 0 (fun _ => true) true n' 3 (([c0, c1, c2].drop 0).take (Tryz.prog.cellsOf 3)) = some y0 := hg 0 _ rfl
          have g1 : DataW.trod enc Tryz.prog W 0 (fun _ => true) true n' 3 (([c0, c1, c2].drop 1).take (Tryz.prog.cellsOf 3)) = some y1 := hg 1 _ rfl
          have g2 : DataW.trod enc Tryz.prog W 0 (fun _ => true) true n' 3 (([c0, c1, c2].drop 2).take (Tryz.prog.cellsOf 3)) = some y2 := hg 2 _ rfl
          rw [cellsInt] at g0 g1
          rw [cellsInt] at g2
          simp only [List.drop_zero, List.drop_succ_cons, List.take_succ_cons, List.take_zero] at g0 g1 g2
          obtain ⟨z0, e0, _, f0⟩ := DataW.trod_int Tryz.underlying3 g0
          obtain ⟨z1, e1, _, f1⟩ := DataW.trod_int Tryz.underlying3 g1
          obtain ⟨z2, e2, _, f2⟩ := DataW.trod_int Tryz.underlying3 g2
          simp at e0 e1 e2
          subst e0 e1 e2
          have a0 := hat 0 (by omega)
          have a1 := hat 1 (by omega)
          have a2 := hat 2 (by omega)
          rw [add_zero'] at a0
          exact ⟨(z0, z1, z2), ⟨by simpa using a0, by simpa using a1, by simpa using a2⟩, i64_fits f0, i64_fits f1, i64_fits f2⟩
    subst hll
    unfold maxLen at hm
    refine ⟨l, .inr ⟨b, m, rfl, fun j e hj => (hp j e hj).1⟩, fun e he => ?_, by omega⟩
    obtain ⟨i, he⟩ := List.mem_iff_getElem?.1 he
    exact (hp i e he).2

/-- The plans. -/
theorem plans_of {n : Nat} {v : Value} {x : DataW H × List MemPlace} (hf : DataW.trod enc Tryz.prog W 0 (fun _ => true) true n 25 [v] = some x) (hw : ∀ k ∈ x.1.weights Tryz.prog 25, k ≤ reachBytes) :
    ∃ l : List Plan, RP W v l ∧ (∀ p ∈ l, I64 p.urg ∧ ∀ k ∈ p.kinds, I64 k) ∧ PsIn l ∧ l.length ≤ 9223372036854775807 := by
  rcases Go.Deep.open_slice Tryz.underlying25 hf with ⟨hcs, _⟩ | ⟨b, len, cap', m, n, D, Pl, hcs, _, hl, hm, hmm, hx, hi⟩
  · simp at hcs
    subst hcs
    exact ⟨[], .inl ⟨rfl, rfl⟩, by simp, (fun p hp => by cases hp), by simp⟩
  · simp at hcs
    subst hcs
    simp only [if_true] at hmm
    subst hmm
    have hd : x.1 = .slice ((List.range len).map D) ((List.range (m - len)).map fun j => D (len + j)) := congrArg Prod.fst hx
    obtain ⟨l, hll, hp⟩ := exists_list (P := fun i (p : Plan) => (∃ u, PAt W (b.add (i * 3)) p u ∧ RN W u p.kinds) ∧ (I64 p.urg ∧ ∀ k ∈ p.kinds, I64 k) ∧ p.code.length ≤ 2305843009213693952 ∧ p.kinds.length ≤ 2305843009213693952) len fun i hil => by
      obtain ⟨cs', h1, h2⟩ := hi i (by omega)
      have hwi : ∀ k ∈ (D i).weights Tryz.prog 43, k ≤ reachBytes := fun k hk => hw k (by
        rw [hd]
        simp only [DataW.weights, Tryz.underlying25]
        refine List.mem_cons_of_mem _ (List.mem_append.2 (.inl (weightsAll_mem ?_ k hk)))
        exact List.mem_map.2 ⟨i, by simpa using hil, rfl⟩)
      rw [cellsPlan] at h1
      obtain ⟨_, hcl, hat⟩ := World.cells?_some h1
      obtain ⟨xs, n', _, hxx, _, hxl, hg⟩ := DataW.trod_struct Tryz.underlying43 h2
      match cs', hcl with
      | [c0, c1, c2], _ =>
        match xs, hxl with
        | [y0, y1, y2], _ =>
          have g0 : DataW.trod enc Tryz.prog W 0 (fun _ => true) true n' 9 (([c0, c1, c2].drop 0).take (Tryz.prog.cellsOf 9)) = some y0 := hg 0 _ rfl
          have g1 : DataW.trod enc Tryz.prog W 0 (fun _ => true) true n' 3 (([c0, c1, c2].drop 1).take (Tryz.prog.cellsOf 3)) = some y1 := hg 1 _ rfl
          have g2 : DataW.trod enc Tryz.prog W 0 (fun _ => true) true n' 22 (([c0, c1, c2].drop 2).take (Tryz.prog.cellsOf 22)) = some y2 := hg 2 _ rfl
          rw [cellsStr] at g0
          rw [cellsInt] at g1
          rw [cellsInts] at g2
          simp only [List.drop_zero, List.drop_succ_cons, List.take_succ_cons, List.take_zero] at g0 g1 g2
          obtain ⟨z0, e0, q0, _⟩ := DataW.trod_string Tryz.underlying9 g0
          obtain ⟨z1, e1, _, f1⟩ := DataW.trod_int Tryz.underlying3 g1
          have hDi : D i = .agg [y0.1, y1.1, y2.1] := congrArg Prod.fst hxx
          have hws : ∀ k ∈ DataW.weightsEach Tryz.prog [9, 3, 22] [y0.1, y1.1, y2.1], k ≤ reachBytes := fun k hk => hwi k (by
            rw [hDi]
            simp only [DataW.weights, Tryz.underlying43]
            exact hk)
          have hw0 : z0.data.toList.length ≤ reachBytes := hws _ (DataW.weights_mem_each (j := 0) rfl rfl _ (by rw [q0]; simp [DataW.weights]))
          obtain ⟨l2, r2, i2, _, b2⟩ := ints_of g2
          have b2' := b2 (fun k hk => hws k (DataW.weights_mem_each (j := 2) rfl rfl k hk))
          simp at e0 e1
          subst e0 e1
          have a0 := hat 0 (by omega)
          have a1 := hat 1 (by omega)
          have a2 := hat 2 (by omega)
          have h47 := reachBytes_lt
          rw [add_zero'] at a0
          exact ⟨⟨z0.data.toList, z1, l2⟩, ⟨c2, ⟨by simpa using a0, by simpa using a1, by simpa using a2⟩, r2⟩, ⟨i64_fits f1, i2⟩, by simp only; omega, b2'⟩
    subst hll
    unfold maxLen at hm
    refine ⟨l, .inr ⟨b, m, rfl, hl, fun i p hp' => (hp i p hp').1⟩, fun p hp' => ?_, fun p hp' => ?_, by omega⟩
    · obtain ⟨i, hi'⟩ := List.mem_iff_getElem?.1 hp'
      exact (hp i p hi').2.1
    · obtain ⟨i, hi'⟩ := List.mem_iff_getElem?.1 hp'
      exact (hp i p hi').2.2

set_option maxHeartbeats 1000000 in
/-- A configuration. -/
theorem cfg_of {r : Reach} {b0 : Nat} {v : Value} {d : DataW H} {ps : List MemPlace} (hv : Value.okWide Tryz.prog W r b0 27 v) (h : DataW.Trod enc Tryz.prog W 0 (fun _ => true) true 27 v d ps) (hw : ∀ k ∈ d.weights Tryz.prog 27, k ≤ reachBytes) :
    ∃ c, CfgV W v c ∧ ArgC c := by
  obtain ⟨cs, rfl, hsz⟩ := okWide_struct Tryz.underlying27 hv
  obtain ⟨l, rfl⟩ : ∃ l : List Value, cs = l.toArray := ⟨cs.toList, by simp⟩
  have hsz' : l.length = 15 := by rw [cellsCfg] at hsz; simpa using hsz
  obtain ⟨fuel, hf⟩ := h
  have hf' : DataW.trod enc Tryz.prog W 0 (fun _ => true) true fuel 27 l = some (d, ps) := hf
  clear hf hv hsz
  obtain ⟨xs, n', _, hxx, _, hxl, hg⟩ := DataW.trod_struct Tryz.underlying27 hf'
  match l, hsz' with
  | [c0, c1, c2, c3, c4, c5, c6, c7, c8, c9, c10, c11, c12, c13, c14], _ =>
    match xs, hxl with
    | [y0, y1, y2, y3, y4, y5, y6, y7, y8, y9, y10, y11, y12, y13, y14], _ =>
      have g0 : DataW.trod enc Tryz.prog W 0 (fun _ => true) true n' 3 (([c0, c1, c2, c3, c4, c5, c6, c7, c8, c9, c10, c11, c12, c13, c14].drop 0).take (Tryz.prog.cellsOf 3)) = some y0 := hg 0 _ rfl
      rw [cellsInt] at g0
      have g1 : DataW.trod enc Tryz.prog W 0 (fun _ => true) true n' 22 (([c0, c1, c2, c3, c4, c5, c6, c7, c8, c9, c10, c11, c12, c13, c14].drop 1).take (Tryz.prog.cellsOf 22)) = some y1 := hg 1 _ rfl
      rw [cellsInts] at g1
      have g2 : DataW.trod enc Tryz.prog W 0 (fun _ => true) true n' 23 (([c0, c1, c2, c3, c4, c5, c6, c7, c8, c9, c10, c11, c12, c13, c14].drop 2).take (Tryz.prog.cellsOf 23)) = some y2 := hg 2 _ rfl
      rw [cellsEdges] at g2
      have g3 : DataW.trod enc Tryz.prog W 0 (fun _ => true) true n' 24 (([c0, c1, c2, c3, c4, c5, c6, c7, c8, c9, c10, c11, c12, c13, c14].drop 3).take (Tryz.prog.cellsOf 24)) = some y3 := hg 3 _ rfl
      rw [cellsUnits] at g3
      have g4 : DataW.trod enc Tryz.prog W 0 (fun _ => true) true n' 25 (([c0, c1, c2, c3, c4, c5, c6, c7, c8, c9, c10, c11, c12, c13, c14].drop 4).take (Tryz.prog.cellsOf 25)) = some y4 := hg 4 _ rfl
      rw [cellsPlans] at g4
      have g5 : DataW.trod enc Tryz.prog W 0 (fun _ => true) true n' 2 (([c0, c1, c2, c3, c4, c5, c6, c7, c8, c9, c10, c11, c12, c13, c14].drop 5).take (Tryz.prog.cellsOf 2)) = some y5 := hg 5 _ rfl
      rw [cellsInt64] at g5
      have g6 : DataW.trod enc Tryz.prog W 0 (fun _ => true) true n' 2 (([c0, c1, c2, c3, c4, c5, c6, c7, c8, c9, c10, c11, c12, c13, c14].drop 6).take (Tryz.prog.cellsOf 2)) = some y6 := hg 6 _ rfl
      rw [cellsInt64] at g6
      have g7 : DataW.trod enc Tryz.prog W 0 (fun _ => true) true n' 2 (([c0, c1, c2, c3, c4, c5, c6, c7, c8, c9, c10, c11, c12, c13, c14].drop 7).take (Tryz.prog.cellsOf 2)) = some y7 := hg 7 _ rfl
      rw [cellsInt64] at g7
      have g8 : DataW.trod enc Tryz.prog W 0 (fun _ => true) true n' 2 (([c0, c1, c2, c3, c4, c5, c6, c7, c8, c9, c10, c11, c12, c13, c14].drop 8).take (Tryz.prog.cellsOf 2)) = some y8 := hg 8 _ rfl
      rw [cellsInt64] at g8
      have g9 : DataW.trod enc Tryz.prog W 0 (fun _ => true) true n' 2 (([c0, c1, c2, c3, c4, c5, c6, c7, c8, c9, c10, c11, c12, c13, c14].drop 9).take (Tryz.prog.cellsOf 2)) = some y9 := hg 9 _ rfl
      rw [cellsInt64] at g9
      have g10 : DataW.trod enc Tryz.prog W 0 (fun _ => true) true n' 2 (([c0, c1, c2, c3, c4, c5, c6, c7, c8, c9, c10, c11, c12, c13, c14].drop 10).take (Tryz.prog.cellsOf 2)) = some y10 := hg 10 _ rfl
      rw [cellsInt64] at g10
      have g11 : DataW.trod enc Tryz.prog W 0 (fun _ => true) true n' 2 (([c0, c1, c2, c3, c4, c5, c6, c7, c8, c9, c10, c11, c12, c13, c14].drop 11).take (Tryz.prog.cellsOf 2)) = some y11 := hg 11 _ rfl
      rw [cellsInt64] at g11
      have g12 : DataW.trod enc Tryz.prog W 0 (fun _ => true) true n' 2 (([c0, c1, c2, c3, c4, c5, c6, c7, c8, c9, c10, c11, c12, c13, c14].drop 12).take (Tryz.prog.cellsOf 2)) = some y12 := hg 12 _ rfl
      rw [cellsInt64] at g12
      have g13 : DataW.trod enc Tryz.prog W 0 (fun _ => true) true n' 3 (([c0, c1, c2, c3, c4, c5, c6, c7, c8, c9, c10, c11, c12, c13, c14].drop 13).take (Tryz.prog.cellsOf 3)) = some y13 := hg 13 _ rfl
      rw [cellsInt] at g13
      have g14 : DataW.trod enc Tryz.prog W 0 (fun _ => true) true n' 3 (([c0, c1, c2, c3, c4, c5, c6, c7, c8, c9, c10, c11, c12, c13, c14].drop 14).take (Tryz.prog.cellsOf 3)) = some y14 := hg 14 _ rfl
      rw [cellsInt] at g14
      simp only [List.drop_zero, List.drop_succ_cons, List.take_succ_cons, List.take_zero] at g0 g1 g2 g3 g4 g5 g6 g7 g8 g9 g10 g11 g12 g13 g14
      have hd : d = .agg [y0.1, y1.1, y2.1, y3.1, y4.1, y5.1, y6.1, y7.1, y8.1, y9.1, y10.1, y11.1, y12.1, y13.1, y14.1] := congrArg Prod.fst hxx
      have hw4 : ∀ k ∈ y4.1.weights Tryz.prog 25, k ≤ reachBytes := fun k hk => hw k (by
        rw [hd]
        simp only [DataW.weights, Tryz.underlying27]
        exact DataW.weights_mem_each (j := 4) (ts := [3, 22, 23, 24, 25, 2, 2, 2, 2, 2, 2, 2, 2, 3, 3]) rfl rfl k hk)
      clear hxx hd hw
      obtain ⟨z0, e0, _, f0⟩ := DataW.trod_int Tryz.underlying3 g0
      obtain rfl : c0 = .int .i64 z0 := by simpa using e0
      obtain ⟨z5, e5, _, f5⟩ := DataW.trod_int Tryz.underlying2 g5
      obtain rfl : c5 = .int .i64 z5 := by simpa using e5
      obtain ⟨z6, e6, _, f6⟩ := DataW.trod_int Tryz.underlying2 g6
      obtain rfl : c6 = .int .i64 z6 := by simpa using e6
      obtain ⟨z7, e7, _, f7⟩ := DataW.trod_int Tryz.underlying2 g7
      obtain rfl : c7 = .int .i64 z7 := by simpa using e7
      obtain ⟨z8, e8, _, f8⟩ := DataW.trod_int Tryz.underlying2 g8
      obtain rfl : c8 = .int .i64 z8 := by simpa using e8
      obtain ⟨z9, e9, _, f9⟩ := DataW.trod_int Tryz.underlying2 g9
      obtain rfl : c9 = .int .i64 z9 := by simpa using e9
      obtain ⟨z10, e10, _, f10⟩ := DataW.trod_int Tryz.underlying2 g10
      obtain rfl : c10 = .int .i64 z10 := by simpa using e10
      obtain ⟨z11, e11, _, f11⟩ := DataW.trod_int Tryz.underlying2 g11
      obtain rfl : c11 = .int .i64 z11 := by simpa using e11
      obtain ⟨z12, e12, _, f12⟩ := DataW.trod_int Tryz.underlying2 g12
      obtain rfl : c12 = .int .i64 z12 := by simpa using e12
      obtain ⟨z13, e13, _, f13⟩ := DataW.trod_int Tryz.underlying3 g13
      obtain rfl : c13 = .int .i64 z13 := by simpa using e13
      obtain ⟨z14, e14, _, f14⟩ := DataW.trod_int Tryz.underlying3 g14
      obtain rfl : c14 = .int .i64 z14 := by simpa using e14
      obtain ⟨l1, r1, i1, b1, _⟩ := ints_of g1
      obtain ⟨l2, r2, i2, b2⟩ := edges_of g2
      obtain ⟨l3, r3, i3, b3⟩ := units_of g3
      obtain ⟨l4, r4, i4, p4, b4⟩ := plans_of g4 hw4
      refine ⟨⟨z0, l1, l2, l3, l4, z5, z6, z7, z8, z9, z10, z11, z12, z13, z14⟩, ⟨c1, c2, c3, c4, rfl, r1, r2, r3, r4⟩, ⟨⟨i64_fits f0, i1, i2, i3, i4, fun n hn => ?_⟩, p4, b1, b2, b3, b4⟩⟩
      simp only [Cfg.nums, List.mem_cons, List.mem_nil_iff, or_false] at hn
      rcases hn with rfl | rfl | rfl | rfl | rfl | rfl | rfl | rfl | rfl | rfl
      all_goals (apply i64_fits; assumption)
end
end Go.Proofs.YtjklpikopgihgaaGreatDoor
