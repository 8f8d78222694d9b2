/- What the arguments of the laws are, read. -/
import Derived.Test.YtkdabnhhjjmibaaVR
import Derived.WalkKit
import Derived.ProofKit
import Derived.OpenShut
import Derived.Carry
import Derived.Deep.Slices
import Derived.Deep.DeepHandedRow
import Derived.Deep.DeepWitnessRowRef
import Derived.Lib.LaidTab
import Derived.ShutString
namespace Go.Proofs.Ytkdabnhhjjmibaa
open Go.ChangeShapes Go.WideShapes Go.ChangeAt Go.RowKit Go.Lib

theorem own : ownKnob Try.prog.godebug = none := by kernel_rfl
theorem laidOut : laidOutB Try.prog = true := by kernel_rfl
theorem cellsInt : Try.prog.cellsOf 3 = 1 := by kernel_rfl
theorem cellsInt64 : Try.prog.cellsOf 2 = 1 := by kernel_rfl
theorem cellsU8 : Try.prog.cellsOf 5 = 1 := by kernel_rfl
theorem cellsStr : Try.prog.cellsOf 9 = 1 := by kernel_rfl
theorem cellsAct : Try.prog.cellsOf 28 = 3 := by kernel_rfl

theorem exists_list {α : Type} {P : Nat → α → Prop} : ∀ n : Nat, (∀ i, i < n → ∃ a, P i a) → ∃ l : List α, l.length = n ∧ ∀ (i : Nat) (a : α), l[i]? = some a → P i a
  | 0, _ => ⟨[], rfl, by simp⟩
  | n + 1, h => by
    obtain ⟨l, hl, hp⟩ := exists_list n fun i hi => h i (by omega)
    obtain ⟨a, ha⟩ := h n (by omega)
    refine ⟨l ++ [a], by simp [hl], fun i b hb => ?_⟩
    by_cases e : i < n
    · rw [List.getElem?_append_left (by omega)] at hb; exact hp i b hb
    · have := (List.getElem?_eq_some_iff.1 hb).1
      rw [List.length_append, List.length_singleton] at this
      obtain rfl : i = n := by omega
      rw [List.getElem?_append_right (by omega), hl] at hb
      simp at hb; subst hb; exact ha

section
variable {H : Type} {enc : TypeId × Value → H} {W : World} {a : Option Addr} {len cap : Nat} {d : DataW H} {ps : List MemPlace}

theorem numbers_of {T E : TypeId} (ht : Try.prog.underlying T = some (.slice E)) (he : Try.prog.underlying E = some (.int .i64)) (hc : Try.prog.cellsOf E = 1) (h : DataW.Trod enc Try.prog W 0 (fun _ => true) true T (.slice a len cap) d ps) :
    ∃ l, len = l.length ∧ RdN W a l ∧ l.length ≤ 9223372036854775807 := by
  obtain ⟨fuel, hf⟩ := h
  rcases Go.Deep.open_slice1 ht hc hf with ⟨hcs, _⟩ | ⟨b, len', cap', m, n, V, D, Pl, hcs, _, hl, hm, hmm, _, hi⟩
  · simp [Value.cells] at hcs
    obtain ⟨rfl, rfl, rfl⟩ := hcs
    exact ⟨[], rfl, ⟨fun h => by simp at h, by simp⟩, by simp⟩
  · simp [Value.cells] at hcs
    obtain ⟨rfl, rfl, rfl⟩ := hcs
    simp only [if_true] at hmm
    subst hmm
    obtain ⟨l, hll, hp⟩ := exists_list (P := fun i (z : Int) => W.cell? (b.add i) = some (.int .i64 z) ∧ Fits z) len fun i hil => by
      obtain ⟨h1, h2⟩ := hi i (by omega)
      obtain ⟨z, h3, _, h4⟩ := DataW.trod_int he h2
      simp at h3
      exact ⟨z, by rw [h1, h3], h4⟩
    subst hll
    unfold maxLen at hm
    refine ⟨l, rfl, ⟨fun hn => ⟨b, rfl, ?_, fun i z hz => (hp i z hz).1⟩, fun z hz => ?_⟩, by omega⟩
    · obtain ⟨z, hz⟩ : ∃ z, l[0]? = some z := ⟨_, List.getElem?_eq_getElem hn⟩
      have := World.block_lt_of_cell? W _ (hp 0 z hz).1
      rwa [block_add'] at this
    · obtain ⟨i, hz⟩ := List.mem_iff_getElem?.1 hz
      exact (hp i z hz).2

theorem texts_of (h : DataW.Trod enc Try.prog W 0 (fun _ => true) true 54 (.slice a len cap) d ps) :
    ∃ l, len = l.length ∧ RdT W a l ∧ l.length ≤ 9223372036854775807 := by
  obtain ⟨fuel, hf⟩ := h
  rcases Go.Deep.open_slice1 Try.underlying54 cellsStr hf with ⟨hcs, _⟩ | ⟨b, len', cap', m, n, V, D, Pl, hcs, _, hl, hm, hmm, _, hi⟩
  · simp [Value.cells] at hcs
    obtain ⟨rfl, rfl, rfl⟩ := hcs
    exact ⟨[], rfl, ⟨fun h => by simp at h, by simp⟩, by simp⟩
  · simp [Value.cells] at hcs
    obtain ⟨rfl, rfl, rfl⟩ := hcs
    simp only [if_true] at hmm
    subst hmm
    obtain ⟨l, hll, hp⟩ := exists_list (P := fun i (z : List UInt8) => W.cell? (b.add i) = some (.string ⟨z.toArray⟩) ∧ z.length ≤ maxLen) len fun i hil => by
      obtain ⟨h1, h2⟩ := hi i (by omega)
      obtain ⟨z, h3, _, h4⟩ := DataW.trod_string Try.underlying9 h2
      simp at h3
      refine ⟨z.data.toList, by rw [h1, h3], ?_⟩
      have : z.size = z.data.toList.length := by cases z; simp [ByteArray.size]
      omega
    subst hll
    unfold maxLen at hm
    refine ⟨l, rfl, ⟨fun hn => ⟨b, rfl, ?_, fun i z hz => (hp i z hz).1⟩, fun z hz => ?_⟩, by omega⟩
    · obtain ⟨z, hz⟩ : ∃ z, l[0]? = some z := ⟨_, List.getElem?_eq_getElem hn⟩
      have := World.block_lt_of_cell? W _ (hp 0 z hz).1
      rwa [block_add'] at this
    · obtain ⟨i, hz⟩ := List.mem_iff_getElem?.1 hz
      exact (hp i z hz).2

theorem u8_fits {n : Int} (h : (Lit.int .u8 n).wf = true) : 0 ≤ n ∧ n ≤ 255 := by
  simp [Lit.wf, IntKind.min, IntKind.max, IntKind.signed, IntKind.bits] at h; omega

theorem acts_of (h : DataW.Trod enc Try.prog W 0 (fun _ => true) true 22 (.slice a len cap) d ps) :
    ∃ l, len = l.length ∧ RdA W a l ∧ l.length ≤ 9223372036854775807 := by
  obtain ⟨fuel, hf⟩ := h
  rcases Go.Deep.open_slice Try.underlying22 hf with ⟨hcs, _⟩ | ⟨b, len', cap', m, n, D, Pl, hcs, _, hl, hm, hmm, _, hi⟩
  · simp [Value.cells] at hcs
    obtain ⟨rfl, rfl, rfl⟩ := hcs
    exact ⟨[], rfl, ⟨fun h => by simp at h, by simp⟩, by simp⟩
  · simp [Value.cells] at hcs
    obtain ⟨rfl, rfl, rfl⟩ := hcs
    simp only [if_true] at hmm
    subst hmm
    obtain ⟨l, hll, hp⟩ := exists_list (P := fun i (z : Int × Int × Int) => (W.cell? (b.add (i * 3)) = some (.int .u8 z.1) ∧ W.cell? (b.add (i * 3 + 1)) = some (.int .i64 z.2.1) ∧ W.cell? (b.add (i * 3 + 2)) = some (.int .i64 z.2.2)) ∧ 0 ≤ z.1 ∧ z.1 ≤ 255 ∧ Fits z.2.1 ∧ Fits z.2.2) len fun i hil => by
      obtain ⟨cs', h1, h2⟩ := hi i (by omega)
      rw [cellsAct] at h1
      obtain ⟨_, hcl, hat⟩ := World.cells?_some h1
      obtain ⟨xs, n', _, _, _, hxl, hg⟩ := DataW.trod_struct Try.underlying28 h2
      match cs', hcl with
      | [c0, c1, c2], _ =>
        match xs, hxl with
        | [y0, y1, y2], _ =>
          have g0 : DataW.trod enc Try.prog W 0 (fun _ => true) true n' 5 (([c0, c1, c2].drop 0).take (Try.prog.cellsOf 5)) = some y0 := hg 0 _ rfl
          have g1 : DataW.trod enc Try.prog W 0 (fun _ => true) true n' 3 (([c0, c1, c2].drop 1).take (Try.prog.cellsOf 3)) = some y1 := hg 1 _ rfl
          have g2 : DataW.trod enc Try.prog W 0 (fun _ => true) true n' 2 (([c0, c1, c2].drop 2).take (Try.prog.cellsOf 2)) = some y2 := hg 2 _ rfl
          rw [cellsU8] at g0
          rw [cellsInt] at g1
          rw [cellsInt64] at g2
          simp only [List.drop_zero, List.drop_succ_cons, List.take_succ_cons, List.take_zero] at g0 g1 g2
          obtain ⟨z0, e0, _, f0⟩ := DataW.trod_int Try.underlying5 g0
          obtain ⟨z1, e1, _, f1⟩ := DataW.trod_int Try.underlying3 g1
          obtain ⟨z2, e2, _, f2⟩ := DataW.trod_int Try.underlying2 g2
          simp at e0 e1 e2
          subst e0 e1 e2
          have a0 := hat 0 (by omega)
          have a1 := hat 1 (by omega)
          have a2 := hat 2 (by omega)
          rw [addr_add] at a0 a1 a2
          obtain ⟨u0, u1⟩ := u8_fits f0
          exact ⟨(z0, z1, z2), ⟨by simpa using a0, by simpa using a1, by simpa using a2⟩, u0, u1, f1, f2⟩
    subst hll
    unfold maxLen at hm
    refine ⟨l, rfl, ⟨fun hn => ⟨b, rfl, ?_, fun i z hz => (hp i z hz).1⟩, fun z hz => ?_⟩, by omega⟩
    · obtain ⟨z, hz⟩ : ∃ z, l[0]? = some z := ⟨_, List.getElem?_eq_getElem hn⟩
      have := World.block_lt_of_cell? W _ (hp 0 z hz).1.1
      rwa [block_add'] at this
    · obtain ⟨i, hz⟩ := List.mem_iff_getElem?.1 hz
      exact (hp i z hz).2
end
end Go.Proofs.Ytkdabnhhjjmibaa
