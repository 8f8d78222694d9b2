/- What the rows' listed variable gives a walk; a world that meets the list. -/
import Derived.Test.YtabciepnbmliiaaDoorE1
import Derived.Test.YtabciepnbmliiaaDoorN5
import Derived.Test.YtabciepnbmliiaaDoorCards
import Derived.Test.YtabciepnbmliiaaDoorTie
import Derived.WalkKit
import Derived.ProofKit
import Derived.OpenShut
import Derived.Carry
import Derived.Deep.DeepHandedRow
import Derived.Deep.DeepWitnessRowRef
import Derived.Lib.LaidTab
import Derived.ShutString
set_option linter.unusedVariables false
set_option linter.unusedSimpArgs false
namespace Go.Proofs.YtabciepnbmliiaaDoor
open Go.ChangeShapes Go.WideShapes Go.ChangeAt Go.RowKit Go.Lib

theorem laid_at {P : Program} {w : World} : ∀ {l : List (String × DataW Unit)} {ps : List MemPlace}, DataW.LaidVars P w l ps → ∀ {n : String} {d : DataW Unit}, (n, d) ∈ l →
    ∃ g t cs fuel p, P.globalNamed n = some g ∧ (P.globals[g]?).map (·.type) = some t ∧ w.var? P n = some cs ∧ DataW.trod (fun _ => ()) P w 0 (fun _ => true) false fuel t cs.toList = some (d, p)
  | [], _, _, _, _, hx => by cases hx
  | (m, e) :: r, ps, h, n, d, hx => by
    obtain ⟨g, t, cs, fuel, p, q, h1, h2, h3, h4, h5, _⟩ := h
    rcases List.mem_cons.1 hx with hx | hx
    · cases hx; exact ⟨g, t, cs, fuel, p, h1, h2, h3, h4⟩
    · exact laid_at h5 hx

theorem gDb : Tryd.prog.globalNamed "math/bits.deBruijn64tab" = some 0 := by kernel_rfl
theorem gDbT : (Tryd.prog.globals[(0 : Nat)]?).map (·.type) = some 94 := by kernel_rfl
theorem cellsDb : Tryd.prog.cellsOf 94 = 64 := by kernel_rfl
theorem cellsU8 : Tryd.prog.cellsOf 5 = 1 := by kernel_rfl
theorem db_eq : (Rows.laid_math_bits_deBruijn64tab : DataW Unit) = tabData .u8 (deBruijn64tab.map fun (n : Nat) => (n : Int)) := by kernel_rfl

theorem env_of {W : World} (hL : laidMet Tryd.prog Rows.roadgraphNewRow.laid W) (hsh : W.ShapedOpen Tryd.prog) : Env W := by
  obtain ⟨ps, hv, _, _⟩ := hL
  have hdb : TabAt 0 Lib.deBruijn64tab W := by
    obtain ⟨g, t, cs, fuel, p, a1, a2, a3, a4⟩ := laid_at hv (n := "math/bits.deBruijn64tab") (d := Rows.laid_math_bits_deBruijn64tab) (.head _)
    obtain rfl := Option.some.inj (gDb.symm.trans a1)
    obtain rfl := Option.some.inj (gDbT.symm.trans a2)
    rw [db_eq] at a4
    have hc := cells_of_tab Tryd.underlying94 Tryd.underlying5 cellsU8 cellsDb a4
    intro j hj
    rw [World.var?_cell gDb a3 j, ← Array.getElem?_toList, hc]
    simp [hj]
  have hsz : 0 + 1 ≤ W.heap.size := World.block_lt_of_cell? W _ (hdb 0 (by decide))
  exact { db := hdb, size := hsz }

def bytesCellsOf (k : IntKind) (zs : List Int) : Array Value := (zs.map fun z => Value.int k z).toArray

/-- The witness: the settled world, the listed variable holding what its initialiser lays. -/
noncomputable def laidWorld (os : Os) : World :=
  let w0 := World.holding Tryd.prog os ⟨#[], #[], []⟩
  let put (h : Array Obj) (g : Nat) (cs : Array Value) : Array Obj := h.modify g fun
    | .cells _ t frozen => .cells cs t frozen
    | o => o
  { w0 with heap := put w0.heap 0 (bytesCellsOf .u8 [0, 1, 56, 2, 57, 49, 28, 3, 61, 58, 42, 50, 38, 29, 17, 4, 62, 47, 59, 36, 45, 43, 51, 22, 53, 39, 33, 30, 24, 18, 12, 5, 63, 55, 48, 27, 60, 41, 37, 16, 46, 35, 44, 21, 52, 32, 23, 11, 54, 26, 40, 15, 34, 20, 31, 10, 25, 14, 19, 9, 13, 8, 7, 6]) }

set_option maxRecDepth 1000000 in
theorem laid_met (os : Os) (args : Array Value) : laidMet Tryd.prog Rows.roadgraphNewRow.laid ((laidWorld os).forCall (fun _ _ => 0) ⟨#[], args, []⟩).memory :=
  laidMet_of_run' 8 (by kernel_rfl) (by kernel_rfl)

end Go.Proofs.YtabciepnbmliiaaDoor
