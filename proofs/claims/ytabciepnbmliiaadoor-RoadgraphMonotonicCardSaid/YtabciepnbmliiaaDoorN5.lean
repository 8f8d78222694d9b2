/- What the walks ask of a world; TrailingZeros64. -/
import Derived.Test.YtabciepnbmliiaaDoorN2
import Derived.Test.YtabciepnbmliiaaDoorNsL
import Derived.Lib.LaidTab
import Derived.Lib.SmallJoins
import Derived.WalkSmall
import Derived.Shelf.Spec.TrailingZeros
set_option linter.unusedVariables false
set_option linter.unusedSimpArgs false
namespace Go.Proofs.YtabciepnbmliiaaDoor
open Go.RowKit Go.Lib Go.Sort Nds

theorem ups : Tryd.prog.underlying 42 = some (.slice 3) := Tryd.underlying42
/-- What the walks ask of a world. -/
structure Env (w : World) : Prop where
  db : TabAt 0 Lib.deBruijn64tab w
  size : 0 + 1 ≤ w.heap.size
theorem Env.of {w w' : World} (h : Env w) (hb : Below w.heap.size w w') : Env w' := by
  have hs := h.size
  exact {
    db := fun j hj => by rw [show w'.cell? ⟨0, j, none⟩ = w.cell? ⟨0, j, none⟩ from hb.cell (p := ⟨0, j, none⟩) (by show 0 < w.heap.size; omega)]; exact h.db j hj
    size := Nat.le_trans hs hb.size }

/-! ### TrailingZeros64 -/

set_option maxRecDepth 100000 in
theorem tz_walk (x k idx : Nat) (w : World) (hx0 : ((x : Int) == 0) = false)
    (key : IntKind.u64.wrap (bits BinOp.and IntKind.u64 (x : Int) (IntKind.u64.wrap (-(x : Int))) * 285870213051353865) / 288230376151711744 = (idx : Int))
    (hi : idx < 64) (hcell : w.cell? ⟨0, idx, none⟩ = some (.int .u8 k)) (hk : k < 64) :
    Calls Tryd.prog 55 #[.int .u64 x] w fun e w' => e = .returned (.int .i64 k) ∧ w = w' := by
  go_enter Tryd.func55, Tryd.ntmps55
  go_wp2_with (simp only [key])
  go_ret
  exact ⟨rfl, rfl⟩

theorem tz_any (x : Nat) (w : World) (hT : TabAt 0 Lib.deBruijn64tab w) (h0 : x ≠ 0) (h : x < 18446744073709551616) :
    Calls Tryd.prog 55 #[.int .u64 x] w fun e w' => e = .returned (.int .i64 (ctz 64 x)) ∧ w = w' := by
  obtain ⟨hlow, hk⟩ := Lib.lowest_bit 64 x h0 h
  obtain ⟨hi, htab⟩ := Lib.deBruijn64_at _ hk
  have hcell := hT _ hi
  rw [htab] at hcell
  exact tz_walk x _ _ w (by simp; omega) (tz64_key x _ h h0 hlow) hi hcell hk

end Go.Proofs.YtabciepnbmliiaaDoor
