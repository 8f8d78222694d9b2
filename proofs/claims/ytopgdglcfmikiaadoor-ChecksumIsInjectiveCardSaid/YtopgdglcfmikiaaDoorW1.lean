/- Bytes in memory; the reference: step, More, Of. -/
import Derived.Test.YtopgdglcfmikiaaDoorRows
import Derived.Test.YtopgdglcfmikiaaDoorMath
import Derived.WalkKit
import Derived.ProofKit
import Derived.WalkLawsBesides
import Derived.WalkSpells
import Derived.Outline
import Derived.LoopTactic
import Derived.RegionTactic
import Derived.ChangeAlike
import Derived.Laws.Rows
import Derived.Laws.Bits64
import Derived.Laws.Bits64b
import Derived.Lib.Hide
import Derived.Deep.Draws
import Derived.Laws.CopyOwn
import Derived.Laws.OwnMore
import Derived.BigQuiet
import Derived.Maps.AppendAt
namespace Go.Proofs.YtopgdglcfmikiaaDoor
open Go.RowKit Go.Lib Cs

theorem ret_b {a b : Bool} (h : a = b) : Ending.returned (.bool a) = .returned (.bool b) := by rw [h]
theorem ret_u {a b : Nat} (h : a = b) : Ending.returned (.int .u64 (a : Int)) = .returned (.int .u64 (b : Int)) := by rw [h]
theorem then_ {w a b : World} (h : Below w.heap.size w a) (k : Below a.heap.size a b) : Below w.heap.size w b := h.trans (k.mono h.size)
theorem cell_keep {w a : World} {p : Addr} {v : Value} (h : w.cell? p = some v) (k : Below w.heap.size w a) : a.cell? p = some v := (k.cell (World.block_lt_of_cell? w p h)).trans h
theorem block_add' (a : Addr) (n : Nat) : (a.add n).block = a.block := by unfold Addr.add; split <;> rfl
abbrev W64 (c : Nat) : Prop := c < 18446744073709551616

/-- The value v reads as the bytes l. -/
def RB (w : World) (v : Value) (l : List Nat) : Prop :=
  Bytes l ∧ ((v = .slice none 0 0 ∧ l = []) ∨ ∃ ad c, v = .slice (some ad) l.length c ∧ ∀ (j : Nat) (b : Nat), l[j]? = some b → w.cell? (ad.add j) = some (.int .u8 (b : Int)))
theorem RB.below {w w' : World} {v : Value} {l : List Nat} (h : RB w v l) (hb : Below w.heap.size w w') : RB w' v l := by
  refine ⟨h.1, ?_⟩
  rcases h.2 with h | ⟨ad, c, e, hc⟩
  · exact .inl h
  · exact .inr ⟨ad, c, e, fun j b hj => cell_keep (hc j b hj) hb⟩
theorem RB.form {w : World} {v : Value} {l : List Nat} (h : RB w v l) : ∃ A c, v = .slice A l.length c := by
  rcases h.2 with ⟨e, hl⟩ | ⟨ad, c, e, _⟩
  · exact ⟨none, 0, by rw [e, hl]; rfl⟩
  · exact ⟨_, c, e⟩
theorem RB.at_ {w : World} {A : Option Addr} {c : Nat} {l : List Nat} (h : RB w (.slice A l.length c) l) {j b : Nat} (hj : l[j]? = some b) : ∃ ad, A = some ad ∧ w.cell? (ad.add j) = some (.int .u8 (b : Int)) := by
  rcases h.2 with ⟨_, hl⟩ | ⟨ad, c', e, hc⟩
  · subst hl; simp at hj
  · simp only [Value.slice.injEq, true_and] at e
    exact ⟨ad, e.1, hc j b hj⟩
theorem RB.nil (w : World) : RB w (.slice none 0 0) [] := ⟨fun _ h => by (cases h), .inl ⟨rfl, rfl⟩⟩

/-! ### The reference's step -/

set_option maxRecDepth 100000 in
theorem rstep_any (c b : Nat) (hc : W64 c) (hb : b < 256) (w : World) : Calls Tryd.prog 23 #[.int .u64 (c : Int), .int .u8 (b : Int)] w fun r w' => r = .returned (.int .u64 (Cs.step c b : Nat)) ∧ Below w.heap.size w w' := by
  obtain ⟨low, hlow⟩ : ∃ low, c % 256 = low := ⟨_, rfl⟩
  have g0 : ((c : Int) % 256) = (low : Int) := by omega
  have hll : low < 256 := by omega
  go_enter Tryd.func23, Tryd.ntmps23
  go_wp2
  rw [g0]
  go_loopw [6, 7] (fun x v w' => ∃ k V X : Nat, 2 ^ k = V ∧ (low ^^^ b) % 2 ^ k = X ∧ v = .int .u64 (V : Int) ∧ k ≤ 8 ∧ x = .int .u64 (X : Int) ∧ Below w.heap.size w w') (fun _ v _ => 256 - (intOf v).toNat)
  case atStart => exact ⟨0, 1, 0, rfl, by simp [Nat.mod_one], rfl, by omega, rfl, Below.refl _ _⟩
  case round =>
    obtain ⟨k, V, x, hV, hx, rfl, hk, rfl, hB⟩ := hrel
    by_cases hlt : k < 8
    · have hV1 : 0 < V := by rw [← hV]; exact Nat.two_pow_pos k
      have hV2 : V ≤ 128 := by rw [← hV]; exact Nat.pow_le_pow_right (by decide) (show k ≤ 7 by omega)
      have hxl : x < 256 := by rw [← hx, hV]; have := Nat.mod_lt (low ^^^ b) hV1; omega
      have hs := mod_succ_xor low b k
      rw [hx, hV] at hs
      obtain ⟨p, hp⟩ : ∃ p, low / V % 2 = p := ⟨_, rfl⟩
      obtain ⟨q, hq⟩ : ∃ q, b / V % 2 = q := ⟨_, rfl⟩
      rw [hp, hq] at hs
      obtain ⟨p0, hp0⟩ : ∃ p0, low / V = p0 := ⟨_, rfl⟩
      obtain ⟨q0, hq0⟩ : ∃ q0, b / V = q0 := ⟨_, rfl⟩
      rw [hp0] at hp
      rw [hq0] at hq
      have d1 : (low : Int) / (V : Int) = (p0 : Int) := by rw [← hp0]; simp
      have d2 : (b : Int) / (V : Int) = (q0 : Int) := by rw [← hq0]; simp
      have d3 : (IntKind.u64.wrap (p0 : Int)).tmod 2 = (p : Int) := by rw [IntKind.wrap_u64, Int.tmod_eq_emod_of_nonneg (by omega)]; omega
      have d4 : (IntKind.u64.wrap (q0 : Int)).tmod 2 = (q : Int) := by rw [IntKind.wrap_u64, Int.tmod_eq_emod_of_nonneg (by omega)]; omega
      have d5 : (V : Int) < 256 := by omega
      have d6 : (V : Int) ≠ 0 := by omega
      have d7 : ¬ V = 0 := by omega
      have d8 : IntKind.u64.wrap ((x : Int) + (V : Int)) = ((x + V : Nat) : Int) := by rw [IntKind.wrap_u64]; omega
      have d9 : IntKind.u64.wrap ((V : Int) * 2) = ((V * 2 : Nat) : Int) := by rw [IntKind.wrap_u64]; omega
      have hV' := Lib.hid hV
      have hs' := Lib.hid hs
      clear hx hs hp hq hp0 hq0 hV hlow g0
      by_cases hpq : p = q
      · have t1 : ((p : Int) != (q : Int)) = false := by simp [hpq]
        have t2 : (p != q) = false := by simp [hpq]
        go_wp2
        go_quiet (fail)
        go_wp2
        go_roundw
        case rel =>
          refine ⟨k + 1, V * 2, x, by rw [Nat.pow_succ, hV'.out], by rw [hs'.out, if_pos hpq, Nat.add_zero], rfl, by omega, rfl, below_drewN hB _⟩
        case measure => simp [intOf]; omega
      · have t1 : ((p : Int) != (q : Int)) = true := by simp; omega
        have t2 : (p != q) = true := by simpa using hpq
        go_wp2
        go_quiet (fail)
        go_wp2
        go_roundw
        case rel =>
          refine ⟨k + 1, V * 2, x + V, by rw [Nat.pow_succ, hV'.out], by rw [hs'.out, if_neg hpq], rfl, by omega, rfl, below_drewN hB _⟩
        case measure => simp [intOf]; omega
    · obtain rfl : k = 8 := by omega
      obtain rfl : V = 256 := by rw [← hV]
      have hxx : x = low ^^^ b := by
        rw [← hx]; exact Nat.mod_eq_of_lt (Nat.xor_lt_two_pow (n := 8) (by omega) (by omega))
      obtain ⟨X, hX⟩ : ∃ X, c ^^^ b = X := ⟨_, rfl⟩
      have hXl : c - low + x = X := by rw [hxx, ← hX, ← hlow]; exact xor_low c b hb
      obtain ⟨D, hD⟩ : ∃ D, c - low = D := ⟨_, rfl⟩
      obtain ⟨M, hM⟩ : ∃ M, mul X = M := ⟨_, rfl⟩
      obtain ⟨Y, hY⟩ : ∃ Y, M / 4294967296 = Y := ⟨_, rfl⟩
      have hMl : M < 18446744073709551616 := by rw [← hM]; exact mul_lt _
      have hXl2 : X < 18446744073709551616 := by rw [← hX]; exact xor_lt hc (by omega)
      have d1 : IntKind.u64.wrap ((c : Int) - (low : Int)) = (D : Int) := by rw [IntKind.wrap_u64]; omega
      have d2 : IntKind.u64.wrap ((D : Int) + (x : Int)) = (X : Int) := by rw [IntKind.wrap_u64]; omega
      have d3 : IntKind.u64.wrap ((X : Int) * 1099511628211) = (M : Int) := by rw [IntKind.wrap_u64, ← hM]; unfold mul; omega
      have d4 : (M : Int) / 4294967296 = (Y : Int) := by omega
      have d5 := bits_xor_u64_nat M Y hMl (by omega)
      have hr : M ^^^ Y = Cs.step c b := by rw [← hY, ← hM, ← hX]; rfl
      have hr := Lib.hid hr
      clear hV hx hlow g0 hxx hXl hD hM hY hX
      go_wp2
      go_ret
      exact ⟨rfl, hB⟩
end Go.Proofs.YtopgdglcfmikiaaDoor
