/- The reference: More, Of, Bytes, Link, Words. -/
import Derived.Test.YtopgdglcfmikiaaDoorW1
namespace Go.Proofs.YtopgdglcfmikiaaDoor
open Go.RowKit Go.Lib Cs

theorem more_take {c : Nat} {l : List Nat} {k b : Nat} (h : l[k]? = some b) : more c (l.take (k + 1)) = Cs.step (more c (l.take k)) b := by
  rw [List.take_add_one, h]
  exact more_snoc _ _ _

theorem rmore_any (c : Nat) (v : Value) (l : List Nat) (w : World) (hc : W64 c) (H : RB w v l) (hl : l.length ≤ 9223372036854775807) : Calls Tryd.prog 13 #[.int .u64 (c : Int), v] w fun r w' => r = .returned (.int .u64 (more c l : Nat)) ∧ Below w.heap.size w w' := by
  obtain ⟨A, cap, rfl⟩ := H.form
  go_enter Tryd.func13, Tryd.ntmps13
  go_wp2
  go_loopw [0, 5] (fun s i w' => ∃ k z : Nat, i = .int .i64 (k : Int) ∧ k ≤ l.length ∧ more c (l.take k) = z ∧ s = .int .u64 (z : Int) ∧ Below w.heap.size w w') (fun _ i _ => l.length - (intOf i).toNat)
  case atStart => exact ⟨0, c, rfl, by omega, rfl, rfl, Below.refl _ _⟩
  case round =>
    obtain ⟨k, z, rfl, hk, hz, rfl, hB⟩ := hrel
    have hzl : W64 z := by rw [← hz]; exact more_lt hc _
    by_cases hlt : k < l.length
    · obtain ⟨b, hb⟩ : ∃ b, l[k]? = some b := ⟨_, List.getElem?_eq_getElem hlt⟩
      obtain ⟨ad, rfl, c0⟩ := (H.below hB).at_ hb
      have hbl : b < 256 := H.1 b (List.mem_of_getElem? hb)
      have e1 : (k : Int) < (l.length : Int) := by omega
      have e2 : (0 : Int) ≤ (k : Int) := by omega
      have hst := Lib.hid (more_take (c := c) hb)
      have hz' := Lib.hid hz
      clear hb hz
      go_wp2_with (go_at_call 23; refine (rstep_any z b hzl hbl _).mono ?_; rintro r w2 ⟨rfl, b2⟩)
      go_roundw
      case rel => exact ⟨k + 1, Cs.step z b, by go_num, by omega, by rw [hst.out, hz'.out], rfl, then_ hB b2⟩
      case measure => simp [intOf]; omega
    · obtain rfl : k = l.length := by omega
      rw [List.take_length] at hz
      have hz' := Lib.hid hz
      clear hz
      go_wp2
      go_ret
      exact ⟨by rw [hz'.out]; rfl, hB⟩

theorem rof_any (v : Value) (l : List Nat) (w : World) (H : RB w v l) (hl : l.length ≤ 9223372036854775807) : Calls Tryd.prog 11 #[v] w fun r w' => r = .returned (.int .u64 (more Cs.init l : Nat)) ∧ Below w.heap.size w w' := by
  go_enter Tryd.func11, Tryd.ntmps11
  go_wp2_with fail
  refine (rmore_any 14695981039346656037 v l w (by decide) H hl).mono ?_
  rintro r w' ⟨rfl, b⟩
  go_wp2
  go_ret
  exact ⟨rfl, b⟩
end Go.Proofs.YtopgdglcfmikiaaDoor
