/- How long a graph's row of edges can be, by what the claim's form weighs. -/
import Derived.Test.YtabciepnbmliiaaDoorV0
set_option linter.unusedVariables false
set_option linter.unusedSimpArgs false
set_option maxRecDepth 100000
namespace Go.Proofs.YtabciepnbmliiaaDoor
open Go.ChangeShapes Go.WideShapes Go.ChangeAt Go.RowKit Go.Lib Rg

theorem bytesEdge : Tryd.prog.bytesOf 35 = 24 := by kernel_rfl
/-- No row without a place has room; and no row takes more than all addresses. -/
def NetFits (v : Value) : Prop := ∀ N a n c, v = .agg #[.int .i64 N, .slice a n c] → n * 24 ≤ 140737488355328
section
variable {H : Type} {enc : TypeId × Value → H} {W : World}
theorem edges_fit {n : Nat} {v : Value} {x : DataW H × List MemPlace} (hf : DataW.trod enc Tryd.prog W 0 (fun _ => true) true n 22 [v] = some x) (hw : ∀ k ∈ x.1.weights Tryd.prog 22, k ≤ reachBytes) :
    ∀ a len c, v = .slice a len c → len * 24 ≤ 140737488355328 := by
  rintro a len c rfl
  rcases Go.Deep.open_slice Tryd.underlying22 hf with ⟨hcs, _⟩ | ⟨b, len', cap', m, n, D, Pl, hcs, _, hl, hm, hmm, hx, hi⟩
  · simp at hcs
    omega
  · simp at hcs
    obtain ⟨rfl, rfl, rfl⟩ := hcs
    simp only [if_true] at hmm
    subst hmm
    have h1 := hw _ (by
      rw [hx]
      simp only [DataW.weights, Tryd.underlying22]
      exact List.mem_cons_self)
    rw [bytesEdge] at h1
    have h2 := reachBytes_lt
    simp at h1
    omega
theorem netFits_of {r : Reach} {b0 : Nat} {v : Value} {d : DataW H} {ps : List MemPlace} (hv : Value.okWide Tryd.prog W r b0 24 v) (h : DataW.Trod enc Tryd.prog W 0 (fun _ => true) true 24 v d ps) (hw : ∀ k ∈ d.weights Tryd.prog 24, k ≤ reachBytes) : NetFits v := by
  obtain ⟨cs, rfl, hsz⟩ := okWide_struct Tryd.underlying24 hv
  obtain ⟨l, rfl⟩ : ∃ l : List Value, cs = l.toArray := ⟨cs.toList, by simp⟩
  have hsz' : l.length = 2 := by rw [cellsNet] at hsz; simpa using hsz
  obtain ⟨fuel, hf⟩ := h
  have hf' : DataW.trod enc Tryd.prog W 0 (fun _ => true) true fuel 24 l = some (d, ps) := hf
  clear hf hv hsz
  obtain ⟨xs, n', _, hxx, _, hxl, hg⟩ := DataW.trod_struct Tryd.underlying24 hf'
  match l, hsz' with
  | [c0, c1], _ =>
    match xs, hxl with
    | [y0, y1], _ =>
      have g1 : DataW.trod enc Tryd.prog W 0 (fun _ => true) true n' 22 (([c0, c1].drop 1).take (Tryd.prog.cellsOf 22)) = some y1 := hg 1 _ rfl
      rw [cellsEdges] at g1
      simp only [List.drop_succ_cons, List.drop_zero, List.take_succ_cons, List.take_zero] at g1
      have hd : d = .agg [y0.1, y1.1] := congrArg Prod.fst hxx
      have hw1 : ∀ k ∈ y1.1.weights Tryd.prog 22, k ≤ reachBytes := fun k hk => hw k (by
        rw [hd]
        simp only [DataW.weights, Tryd.underlying24]
        exact DataW.weights_mem_each (j := 1) (ts := [3, 22]) rfl rfl k hk)
      intro N a m c e
      injection e with e
      simp only [Array.mk.injEq, List.cons.injEq, and_true] at e
      exact edges_fit g1 hw1 a m c e.2
end
/-! ### A row that may have no place, appended to an empty one -/

theorem run_append_none {P : Program} {w : World} (base : Nat) (t ty e : TypeId) (i : TypeInfo) (size : Nat) (ht : P.underlying t = some (.slice e)) (hi : P.info? e = some i)
    (v : Value) (n c : Nat) (xs : List Value) (hown : w.ownsRow base e size v n xs) :
    (Builtin.append_ #[t, t] ty #[v, .slice none 0 c]).run P w = .ok v w := by
  rcases hown.2 with ⟨rfl, rfl⟩ | ⟨g, cap, cur, rfl, _, _, hnc, _⟩
  · simp [Builtin.append_, run_underlying ht, sizeOf, typeInfo, hi, Builtin.lenOf, Builtin.firstCells]
  · simp [Builtin.append_, run_underlying ht, sizeOf, typeInfo, hi, Builtin.lenOf, Builtin.firstCells, hnc, storeCells]
end Go.Proofs.YtabciepnbmliiaaDoor
