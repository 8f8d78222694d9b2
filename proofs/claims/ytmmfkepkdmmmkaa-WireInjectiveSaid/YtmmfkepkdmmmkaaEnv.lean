/- What the arguments of the laws are, read. -/
import Derived.Test.YtmmfkepkdmmmkaaV9
import Derived.WalkKit
import Derived.ProofKit
import Derived.OpenShut
import Derived.Carry
import Derived.SizedLaws
import Derived.Deep.Slices
import Derived.Deep.DeepHandedRow
import Derived.Deep.DeepWitnessRowRef
import Derived.Lib.LaidTab
import Derived.ShutString
set_option linter.unusedVariables false
namespace Go.Proofs.Ytmmfkepkdmmmkaa
open Go.ChangeShapes Go.WideShapes Go.ChangeAt Go.RowKit Go.Lib Wr

theorem own : ownKnob Try.prog.godebug = none := by kernel_rfl
theorem laidOut : laidOutB Try.prog = true := by kernel_rfl
theorem cellsInt : Try.prog.cellsOf 3 = 1 := by kernel_rfl
theorem cellsInt64 : Try.prog.cellsOf 2 = 1 := by kernel_rfl
theorem cellsU8 : Try.prog.cellsOf 5 = 1 := by kernel_rfl
theorem cellsBool : Try.prog.cellsOf 4 = 1 := by kernel_rfl
theorem cellsStr : Try.prog.cellsOf 9 = 1 := by kernel_rfl
theorem cellsInts : Try.prog.cellsOf 31 = 1 := by kernel_rfl
theorem cellsThing : Try.prog.cellsOf 33 = 5 := by kernel_rfl
theorem bytesInt : Try.prog.bytesOf 3 = 8 := by kernel_rfl

theorem exists_list {α : Type} {P : Nat → α → Prop} : ∀ n : Nat, (∀ i, i < n → ∃ a, P i a) → ∃ l : List α, l.length = n ∧ ∀ (i : Nat) (a : α), l[i]? = some a → P i a
  | 0, _ => ⟨[], rfl, by simp⟩
  | n + 1, h => by
    obtain ⟨l, hl, hp⟩ := exists_list n fun i hi => h i (by omega)
    obtain ⟨a, ha⟩ := h n (by omega)
    refine ⟨l ++ [a], by simp [hl], fun i b hb => ?_⟩
    by_cases e : i < n
    · rw [List.getElem?_append_left (by omega)] at hb; exact hp i b hb
    · have := (List.getElem?_eq_some_iff.1 hb).1
      rw [List.length_append, List.length_singleton] at this
      obtain rfl : i = n := by omega
      rw [List.getElem?_append_right (by omega), hl] at hb
      simp at hb; subst hb; exact ha
theorem u8_fits {n : Int} (h : (Lit.int .u8 n).wf = true) : 0 ≤ n ∧ n < 256 := by
  simp [Lit.wf, IntKind.min, IntKind.max, IntKind.signed, IntKind.bits] at h; omega
theorem i64_fits {n : Int} (h : (Lit.int .i64 n).wf = true) : I64 n := by
  simp [Lit.wf, IntKind.min, IntKind.max, IntKind.signed, IntKind.bits] at h; exact ⟨by omega, by omega⟩

section
variable {H : Type} {enc : TypeId × Value → H} {W : World} {a : Option Addr} {len cap : Nat} {d : DataW H} {ps : List MemPlace}

theorem bytes_of (h : DataW.Trod enc Try.prog W 0 (fun _ => true) true 22 (.slice a len cap) d ps) :
    ∃ l : Bs, len = l.length ∧ RB W (.slice a len cap) l ∧ l.length ≤ 9223372036854775807 := by
  obtain ⟨fuel, hf⟩ := h
  rcases Go.Deep.open_slice1 Try.underlying22 cellsU8 hf with ⟨hcs, _⟩ | ⟨b, len', cap', m, n, V, D, Pl, hcs, _, hl, hm, hmm, _, hi⟩
  · simp [Value.cells] at hcs
    obtain ⟨rfl, rfl, rfl⟩ := hcs
    exact ⟨[], rfl, RB.nil W, by simp⟩
  · simp [Value.cells] at hcs
    obtain ⟨rfl, rfl, rfl⟩ := hcs
    simp only [if_true] at hmm
    subst hmm
    obtain ⟨l, hll, hp⟩ := exists_list (P := fun i (z : UInt8) => W.cell? (b.add i) = some (.int .u8 (z.toNat : Int))) len fun i hil => by
      obtain ⟨h1, h2⟩ := hi i (by omega)
      obtain ⟨z, h3, _, h4⟩ := DataW.trod_int Try.underlying5 h2
      simp at h3
      have h5 := u8_fits h4
      refine ⟨byt z.toNat, ?_⟩
      rw [h1, h3, byt_toNat (by omega)]
      congr 2; omega
    subst hll
    unfold maxLen at hm
    refine ⟨l, rfl, .inr ⟨b, m, rfl, hl, fun h0 => ?_, fun j z hj => hp j z hj⟩, by omega⟩
    obtain ⟨h1, _⟩ := hi 0 h0
    have := World.block_lt_of_cell? W _ h1
    rwa [block_add'] at this

/-- The list of a thing. -/
theorem ints_of {n : Nat} {v : Value} {x : DataW H × List MemPlace} (hf : DataW.trod enc Try.prog W 0 (fun _ => true) true n 31 [v] = some x) (hw : ∀ k ∈ x.1.weights Try.prog 31, k ≤ reachBytes) :
    ∃ l : List Int, RN W v l ∧ (∀ z ∈ l, I64 z) ∧ l.length ≤ 2 ^ 61 := by
  rcases Go.Deep.open_slice1 Try.underlying31 cellsInt hf with ⟨hcs, _⟩ | ⟨b, len', cap', m, n', V, D, Pl, hcs, _, hl, hm, hmm, hx, hi⟩
  · simp at hcs
    subst hcs
    exact ⟨[], RN.nil W, by simp, by simp⟩
  · simp at hcs
    subst hcs
    simp only [if_true] at hmm
    subst hmm
    obtain ⟨l, hll, hp⟩ := exists_list (P := fun i (z : Int) => W.cell? (b.add i) = some (.int .i64 z) ∧ I64 z) len' fun i hil => by
      obtain ⟨h1, h2⟩ := hi i (by omega)
      obtain ⟨z, h3, _, h4⟩ := DataW.trod_int Try.underlying3 h2
      simp at h3
      exact ⟨z, by rw [h1, h3], i64_fits h4⟩
    subst hll
    refine ⟨l, .inr ⟨b, m, rfl, fun j z hj => (hp j z hj).1⟩, fun z hz => ?_, ?_⟩
    · obtain ⟨i, hz⟩ := List.mem_iff_getElem?.1 hz
      exact (hp i z hz).2
    · have h1 := hw (((List.range l.length).map D).length * 8 + ((List.range (m - l.length)).map fun j => D (l.length + j)).length * 8) (by
        rw [hx]
        simp only [DataW.weights, Try.underlying31]
        rw [bytesInt, Nat.add_mul]
        exact List.mem_cons_self)
      have h2 := reachBytes_lt
      simp at h1
      omega

theorem weightsAll_mem {P : Program} {e : TypeId} : ∀ {ds : List (DataW H)} {d : DataW H}, d ∈ ds → ∀ n ∈ d.weights P e, n ∈ DataW.weightsAll P e ds
  | d0 :: ds, d, hd, n, hn => by
    simp only [DataW.weightsAll, List.mem_append]
    rcases List.mem_cons.1 hd with rfl | hd
    · exact .inl hn
    · exact .inr (weightsAll_mem hd n hn)

theorem things_of (h : DataW.Trod enc Try.prog W 0 (fun _ => true) true 38 (.slice a len cap) d ps) (hw : ∀ k ∈ d.weights Try.prog 38, k ≤ reachBytes) :
    ∃ l : List Th, len = l.length ∧ RT W a l ∧ Ths l ∧ l.length ≤ 9223372036854775807 := by
  obtain ⟨fuel, hf⟩ := h
  rcases Go.Deep.open_slice Try.underlying38 hf with ⟨hcs, _⟩ | ⟨b, len', cap', m, n, D, Pl, hcs, _, hl, hm, hmm, hx, hi⟩
  · simp [Value.cells] at hcs
    obtain ⟨rfl, rfl, rfl⟩ := hcs
    exact ⟨[], rfl, fun h => by simp at h, fun t ht => (by cases ht), by simp⟩
  · simp [Value.cells] at hcs
    obtain ⟨rfl, rfl, rfl⟩ := hcs
    simp only [if_true] at hmm
    subst hmm
    have hd : d = .slice ((List.range len).map D) ((List.range (m - len)).map fun j => D (len + j)) := congrArg Prod.fst hx
    obtain ⟨l, hll, hp⟩ := exists_list (P := fun i (t : Th) => (∃ u, ThAt W (b.add (i * 5)) t u ∧ RN W u t.l) ∧ I64 t.k ∧ I64 t.n ∧ t.d.length ≤ 2 ^ 61 ∧ t.l.length ≤ 2 ^ 61 ∧ ∀ z ∈ t.l, I64 z) len fun i hil => by
      obtain ⟨cs', h1, h2⟩ := hi i (by omega)
      have hwi : ∀ k ∈ (D i).weights Try.prog 33, k ≤ reachBytes := fun k hk => hw k (by
        rw [hd]
        simp only [DataW.weights, Try.underlying38]
        refine List.mem_cons_of_mem _ (List.mem_append.2 (.inl (weightsAll_mem ?_ k hk)))
        exact List.mem_map.2 ⟨i, by simpa using hil, rfl⟩)
      rw [cellsThing] at h1
      obtain ⟨_, hcl, hat⟩ := World.cells?_some h1
      obtain ⟨xs, n', _, hxx, _, hxl, hg⟩ := DataW.trod_struct Try.underlying33 h2
      match cs', hcl with
      | [c0, c1, c2, c3, c4], _ =>
        match xs, hxl with
        | [y0, y1, y2, y3, y4], _ =>
          have g0 : DataW.trod enc Try.prog W 0 (fun _ => true) true n' 3 (([c0, c1, c2, c3, c4].drop 0).take (Try.prog.cellsOf 3)) = some y0 := hg 0 _ rfl
          have g1 : DataW.trod enc Try.prog W 0 (fun _ => true) true n' 2 (([c0, c1, c2, c3, c4].drop 1).take (Try.prog.cellsOf 2)) = some y1 := hg 1 _ rfl
          have g2 : DataW.trod enc Try.prog W 0 (fun _ => true) true n' 4 (([c0, c1, c2, c3, c4].drop 2).take (Try.prog.cellsOf 4)) = some y2 := hg 2 _ rfl
          have g3 : DataW.trod enc Try.prog W 0 (fun _ => true) true n' 9 (([c0, c1, c2, c3, c4].drop 3).take (Try.prog.cellsOf 9)) = some y3 := hg 3 _ rfl
          have g4 : DataW.trod enc Try.prog W 0 (fun _ => true) true n' 31 (([c0, c1, c2, c3, c4].drop 4).take (Try.prog.cellsOf 31)) = some y4 := hg 4 _ rfl
          rw [cellsInt] at g0
          rw [cellsInt64] at g1
          rw [cellsBool] at g2
          rw [cellsStr] at g3
          rw [cellsInts] at g4
          simp only [List.drop_zero, List.drop_succ_cons, List.take_succ_cons, List.take_zero] at g0 g1 g2 g3 g4
          obtain ⟨z0, e0, _, f0⟩ := DataW.trod_int Try.underlying3 g0
          obtain ⟨z1, e1, _, f1⟩ := DataW.trod_int Try.underlying2 g1
          obtain ⟨z2, e2, _⟩ := DataW.trod_bool Try.underlying4 g2
          obtain ⟨z3, e3, q3, _⟩ := DataW.trod_string Try.underlying9 g3
          have hDi : D i = .agg [y0.1, y1.1, y2.1, y3.1, y4.1] := congrArg Prod.fst hxx
          have hws : ∀ k ∈ DataW.weightsEach Try.prog [3, 2, 4, 9, 31] [y0.1, y1.1, y2.1, y3.1, y4.1], k ≤ reachBytes := fun k hk => hwi k (by
            rw [hDi]
            simp only [DataW.weights, Try.underlying33]
            exact hk)
          have hw3 : z3.data.toList.length ≤ reachBytes := hws _ (DataW.weights_mem_each (j := 3) rfl rfl _ (by rw [q3]; simp [DataW.weights]))
          obtain ⟨l4, r4, i4, b4⟩ := ints_of g4 (fun k hk => hws k (DataW.weights_mem_each (j := 4) rfl rfl k hk))
          simp at e0 e1 e2 e3
          subst e0 e1 e2 e3
          have a0 := hat 0 (by omega)
          have a1 := hat 1 (by omega)
          have a2 := hat 2 (by omega)
          have a3 := hat 3 (by omega)
          have a4 := hat 4 (by omega)
          have h47 := reachBytes_lt
          rw [add_zero'] at a0
          refine ⟨⟨z0, z1, z2, z3.data.toList, l4⟩, ⟨c4, ⟨by simpa using a0, by simpa using a1, by simpa using a2, by simpa using a3, by simpa using a4⟩, r4⟩, i64_fits f0, i64_fits f1, by simp only; omega, b4, i4⟩
    subst hll
    unfold maxLen at hm
    refine ⟨l, rfl, fun hn => ⟨b, rfl, ?_, fun i t ht => (hp i t ht).1⟩, fun t ht => ?_, by omega⟩
    · obtain ⟨t, ht⟩ : ∃ t, l[0]? = some t := ⟨_, List.getElem?_eq_getElem hn⟩
      obtain ⟨u, hu, _⟩ := (hp 0 t ht).1
      have := World.block_lt_of_cell? W _ hu.1
      rwa [block_add'] at this
    · obtain ⟨i, ht⟩ := List.mem_iff_getElem?.1 ht
      exact (hp i t ht).2
end
end Go.Proofs.Ytmmfkepkdmmmkaa
