/- What the rows' listed variables give a walk; a world that meets the list. -/
import Derived.Test.YtpndgjhednfpdaaDoorW8
import Derived.Test.YtpndgjhednfpdaaDoorCards
import Derived.Test.YtpndgjhednfpdaaDoorTie
import Derived.WalkKit
import Derived.ProofKit
import Derived.OpenShut
import Derived.Deep.DeepHandedRow
import Derived.Deep.DeepWitnessRowRef
import Derived.Lib.LaidTab
import Derived.ShutString
namespace Go.Proofs.YtpndgjhednfpdaaDoor
open Go.ChangeShapes Go.WideShapes Go.ChangeAt Go.RowKit Go.Lib

theorem own : ownKnob Tryd.prog.godebug = none := by kernel_rfl

theorem laid_at {P : Program} {w : World} : ∀ {l : List (String × DataW Unit)} {ps : List MemPlace}, DataW.LaidVars P w l ps → ∀ {n : String} {d : DataW Unit}, (n, d) ∈ l →
    ∃ g t cs fuel p, P.globalNamed n = some g ∧ (P.globals[g]?).map (·.type) = some t ∧ w.var? P n = some cs ∧ DataW.trod (fun _ => ()) P w 0 (fun _ => true) false fuel t cs.toList = some (d, p)
  | [], _, _, _, _, hx => by cases hx
  | (m, e) :: r, ps, h, n, d, hx => by
    obtain ⟨g, t, cs, fuel, p, q, h1, h2, h3, h4, h5, _⟩ := h
    rcases List.mem_cons.1 hx with hx | hx
    · cases hx; exact ⟨g, t, cs, fuel, p, h1, h2, h3, h4⟩
    · exact laid_at h5 hx

theorem gPowT : (Tryd.prog.globals[(1 : Nat)]?).map (·.type) = some 69 := by kernel_rfl
theorem cellsPow : Tryd.prog.cellsOf 69 = 20 := by kernel_rfl
theorem cellsU64 : Tryd.prog.cellsOf 57 = 1 := by kernel_rfl
theorem gSyn : Tryd.prog.globalNamed "strconv.ErrSyntax" = some 5 := by kernel_rfl
theorem gSynT : (Tryd.prog.globals[(5 : Nat)]?).map (·.type) = some 51 := by kernel_rfl
theorem gRng : Tryd.prog.globalNamed "strconv.ErrRange" = some 6 := by kernel_rfl
theorem gRngT : (Tryd.prog.globals[(6 : Nat)]?).map (·.type) = some 51 := by kernel_rfl
theorem gUn : Tryd.prog.globalNamed "samaritan/clock.units" = some 0 := by kernel_rfl
theorem gUnT : (Tryd.prog.globals[(0 : Nat)]?).map (·.type) = some 39 := by kernel_rfl
theorem cellsUn : Tryd.prog.cellsOf 39 = 6 := by kernel_rfl
theorem cellsU : Tryd.prog.cellsOf 38 = 2 := by kernel_rfl

theorem cellsStr : Tryd.prog.cellsOf 9 = 1 := by kernel_rfl
theorem cellsI64 : Tryd.prog.cellsOf 2 = 1 := by kernel_rfl

theorem unit_of_trod {w : World} {fuel : Nat} {cs : List Value} {s : List UInt8} {k : Int} {p : List MemPlace}
    (h : DataW.trod (H := Unit) (fun _ => ()) Tryd.prog w 0 (fun _ => true) false fuel 38 cs = some (.agg [.lit (.string s), .lit (.int .i64 k)], p)) : cs = [.string ⟨s.toArray⟩, .int .i64 k] := by
  obtain ⟨y0, y1, n, hx, hl, h0, h1⟩ := trod_struct2 Tryd.underlying38 h
  rw [cellsU] at hl
  obtain ⟨c0, c1, rfl⟩ : ∃ c0 c1, cs = [c0, c1] := by
    match cs, hl with
    | [c0, c1], _ => exact ⟨c0, c1, rfl⟩
  simp only [cellsStr, cellsI64, List.drop_zero, List.take_succ_cons, List.take_zero, List.drop_succ_cons] at h0 h1
  obtain ⟨s0, e0, rfl, _⟩ := DataW.trod_string Tryd.underlying9 h0
  obtain ⟨z, e1, rfl, _⟩ := DataW.trod_int Tryd.underlying2 h1
  simp only [List.cons.injEq, and_true] at e0 e1
  subst e0 e1
  simp only [Prod.mk.injEq, DataW.agg.injEq, List.cons.injEq, DataW.lit.injEq, Lit.string.injEq, Lit.int.injEq, and_true, true_and] at hx
  obtain ⟨⟨rfl, rfl⟩, _⟩ := hx
  rfl

theorem pow_eq : (Rows.laid_internal_strconv_uint64pow10 : DataW Unit) = tabData .u64 pow10Tab := by kernel_rfl

theorem env_of {W : World} (hL : laidMet Tryd.prog Rows.clockAddRow.laid W) (hsh : W.ShapedOpen Tryd.prog) : Env W := by
  obtain ⟨ps, hv, _, _⟩ := hL
  have hpow : Lib.TabIs Tryd.prog W "internal/strconv.uint64pow10" .u64 Lib.pow10Tab := by
    obtain ⟨g, t, cs, fuel, p, a1, a2, a3, a4⟩ := laid_at hv (n := "internal/strconv.uint64pow10") (d := Rows.laid_internal_strconv_uint64pow10) (.tail _ (.tail _ (.head _)))
    obtain rfl := Option.some.inj (gPow.symm.trans a1)
    obtain rfl := Option.some.inj (gPowT.symm.trans a2)
    rw [pow_eq] at a4
    unfold Lib.TabIs
    rw [a3, ← cells_of_tab Tryd.underlying69 Tryd.underlying57 cellsU64 cellsPow a4]
  have hrng : ∃ t p, W.cell? ⟨6, 0, none⟩ = some (.iface t p) := by
    obtain ⟨g, t, cs, fuel, p, a1, a2, a3, a4⟩ := laid_at hv (n := "strconv.ErrRange") (d := Rows.laid_strconv_ErrRange) (.tail _ (.tail _ (.tail _ (.head _))))
    obtain rfl := Option.some.inj (gRng.symm.trans a1)
    obtain rfl := Option.some.inj (gRngT.symm.trans a2)
    obtain ⟨_, u, v, hc, _, _⟩ := iface_of_trod Tryd.underlying51 a4
    exact ⟨u, v, by rw [World.var?_cell gRng a3 0, ← Array.getElem?_toList, hc]; rfl⟩
  have hsyn : ∃ t p, W.cell? ⟨5, 0, none⟩ = some (.iface t p) := by
    obtain ⟨g, t, cs, fuel, p, a1, a2, a3, a4⟩ := laid_at hv (n := "strconv.ErrSyntax") (d := Rows.laid_strconv_ErrSyntax) (.tail _ (.tail _ (.tail _ (.tail _ (.head _)))))
    obtain rfl := Option.some.inj (gSyn.symm.trans a1)
    obtain rfl := Option.some.inj (gSynT.symm.trans a2)
    obtain ⟨_, u, v, hc, _, _⟩ := iface_of_trod Tryd.underlying51 a4
    exact ⟨u, v, by rw [World.var?_cell gSyn a3 0, ← Array.getElem?_toList, hc]; rfl⟩
  have hun : ∀ j, W.cell? ⟨0, j, none⟩ = ([.string ⟨#[104]⟩, .int .i64 3600, .string ⟨#[109]⟩, .int .i64 60, .string ⟨#[115]⟩, .int .i64 1] : List Value)[j]? := by
    obtain ⟨g, t, cs, fuel, p, a1, a2, a3, a4⟩ := laid_at hv (n := "samaritan/clock.units") (d := Rows.laid_samaritan_clock_units) (.tail _ (.tail _ (.tail _ (.tail _ (.tail _ (.head _))))))
    obtain rfl := Option.some.inj (gUn.symm.trans a1)
    obtain rfl := Option.some.inj (gUnT.symm.trans a2)
    obtain ⟨xs, m, _, hx, hl, hxl, hall⟩ := DataW.trod_array Tryd.underlying39 a4
    rw [cellsUn] at hl
    obtain ⟨x0, x1, x2, rfl⟩ : ∃ x0 x1 x2, xs = [x0, x1, x2] := by
      match xs, hxl with
      | [x0, x1, x2], _ => exact ⟨x0, x1, x2, rfl⟩
    simp only [Rows.laid_samaritan_clock_units, List.map_cons, List.map_nil, Prod.mk.injEq, DataW.agg.injEq, List.cons.injEq, and_true] at hx
    obtain ⟨⟨q0, q1, q2⟩, _⟩ := hx
    have t0 := hall 0 (by omega)
    have t1 := hall 1 (by omega)
    have t2 := hall 2 (by omega)
    simp only [cellsU, List.getElem?_cons_zero, List.getElem?_cons_succ] at t0 t1 t2
    obtain ⟨x0a, x0b⟩ := x0
    obtain ⟨x1a, x1b⟩ := x1
    obtain ⟨x2a, x2b⟩ := x2
    simp only at q0 q1 q2
    subst q0 q1 q2
    have r0 := unit_of_trod t0
    have r1 := unit_of_trod t1
    have r2 := unit_of_trod t2
    intro j
    rw [World.var?_cell gUn a3 j, ← Array.getElem?_toList]
    congr 1
    generalize cs.toList = l at *
    match l, hl with
    | [c0, c1, c2, c3, c4, c5], _ =>
      simp at r0 r1 r2
      obtain ⟨rfl, rfl⟩ := r0
      obtain ⟨rfl, rfl⟩ := r1
      obtain ⟨rfl, rfl⟩ := r2
      rfl
  have hmax : ∃ m, W.cell? ⟨2, 0, none⟩ = some (.int .i64 m) := Tryd.laysM145.s1_3 W hsh
  have hsz : 7 ≤ W.heap.size := by
    obtain ⟨t, p, h⟩ := hrng
    have := World.block_lt_of_cell? W _ h
    exact this
  exact { pow := hpow, maxlen := hmax, syn := hsyn, rng := hrng, u0 := hun 0, u1 := hun 1, u2 := hun 2, u3 := hun 3, u4 := hun 4, u5 := hun 5, size := hsz }

def bytesCellsOf (k : IntKind) (zs : List Int) : Array Value := (zs.map fun z => Value.int k z).toArray

/-- The witness: the settled world with two blocks more (the two errors' structs), the six listed variables holding what their initialisers lay. -/
noncomputable def laidWorld (os : Os) : World :=
  let N := (World.settled Tryd.prog os).heap.size
  let w0 := World.holding Tryd.prog os ⟨#[.cells #[.string ⟨#[118, 97, 108, 117, 101, 32, 111, 117, 116, 32, 111, 102, 32, 114, 97, 110, 103, 101]⟩] 100, .cells #[.string ⟨#[105, 110, 118, 97, 108, 105, 100, 32, 115, 121, 110, 116, 97, 120]⟩] 100], #[], []⟩
  let put (h : Array Obj) (g : Nat) (cs : Array Value) : Array Obj := h.modify g fun
    | .cells _ t frozen => .cells cs t frozen
    | o => o
  let h0 := put (put w0.heap 6 #[.iface 98 (.pointer (some ⟨N, 0, none⟩))]) 5 #[.iface 98 (.pointer (some ⟨N + 1, 0, none⟩))]
  let h1 := put h0 3 (bytesCellsOf .u8 [0, 1, 28, 2, 29, 14, 24, 3, 30, 22, 20, 15, 25, 17, 4, 8, 31, 27, 13, 23, 21, 19, 16, 7, 26, 12, 18, 6, 11, 5, 10, 9])
  let h2 := put h1 4 (bytesCellsOf .u8 [0, 1, 56, 2, 57, 49, 28, 3, 61, 58, 42, 50, 38, 29, 17, 4, 62, 47, 59, 36, 45, 43, 51, 22, 53, 39, 33, 30, 24, 18, 12, 5, 63, 55, 48, 27, 60, 41, 37, 16, 46, 35, 44, 21, 52, 32, 23, 11, 54, 26, 40, 15, 34, 20, 31, 10, 25, 14, 19, 9, 13, 8, 7, 6])
  let h3 := put h2 1 (bytesCellsOf .u64 [1, 10, 100, 1000, 10000, 100000, 1000000, 10000000, 100000000, 1000000000, 10000000000, 100000000000, 1000000000000, 10000000000000, 100000000000000, 1000000000000000, 10000000000000000, 100000000000000000, 1000000000000000000, 10000000000000000000])
  let h4 := put h3 0 #[.string ⟨#[104]⟩, .int .i64 3600, .string ⟨#[109]⟩, .int .i64 60, .string ⟨#[115]⟩, .int .i64 1]
  { w0 with heap := h4 }

set_option maxRecDepth 1000000 in
theorem laid_met (os : Os) (args : Array Value) : laidMet Tryd.prog Rows.clockAddRow.laid ((laidWorld os).forCall (fun _ _ => 0) ⟨#[], args, []⟩).memory :=
  laidMet_of_run' 8 (by kernel_rfl) (by kernel_rfl)

end Go.Proofs.YtpndgjhednfpdaaDoor
