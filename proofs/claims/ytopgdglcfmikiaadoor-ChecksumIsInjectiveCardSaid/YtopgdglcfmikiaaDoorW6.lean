/- The code: addByte, addInt, Update, Sum, Chain, SumInts. -/
import Derived.Test.YtopgdglcfmikiaaDoorW5
namespace Go.Proofs.YtopgdglcfmikiaaDoor
open Go.RowKit Go.Lib Cs

/-- What Parse answers. -/
def cparse (l : List UInt8) : Nat × Int := match parse l with
  | some n => (n, 0)
  | none => (0, 2)

theorem addbyte_any (c b : Nat) (hc : W64 c) (hb : b < 256) (w : World) : Calls Tryd.prog 22 #[.int .u64 (c : Int), .int .u8 (b : Int)] w fun r w' => r = .returned (.int .u64 (Cs.step c b : Nat)) ∧ Below w.heap.size w w' := by
  obtain ⟨X, hX⟩ : ∃ X, c ^^^ b = X := ⟨_, rfl⟩
  obtain ⟨M, hM⟩ : ∃ M, mul X = M := ⟨_, rfl⟩
  obtain ⟨Y, hY⟩ : ∃ Y, M / 4294967296 = Y := ⟨_, rfl⟩
  have hXl2 : X < 18446744073709551616 := by rw [← hX]; exact xor_lt hc (by omega)
  have hMl : M < 18446744073709551616 := by rw [← hM]; exact mul_lt _
  have d0 := bits_xor_u64_nat c b hc (by omega)
  rw [hX] at d0
  have d3 : IntKind.u64.wrap ((X : Int) * 1099511628211) = (M : Int) := by rw [IntKind.wrap_u64, ← hM]; unfold mul; omega
  have d4 : (M : Int) / 4294967296 = (Y : Int) := by omega
  have d5 := bits_xor_u64_nat M Y hMl (by omega)
  have hr : M ^^^ Y = Cs.step c b := by rw [← hY, ← hM, ← hX]; rfl
  have hr := Lib.hid hr
  clear hX hM hY
  go_enter Tryd.func22, Tryd.ntmps22
  go_wp2
  go_ret
  exact ⟨by rw [← hr.out]; rfl, Below.refl _ _⟩

theorem addint_any (c n : Nat) (hc : W64 c) (hn : W64 n) (w : World) : Calls Tryd.prog 24 #[.int .u64 (c : Int), .int .u64 (n : Int)] w fun r w' => r = .returned (.int .u64 (more c (le 8 n) : Nat)) ∧ Below w.heap.size w w' := by
  go_enter Tryd.func24, Tryd.ntmps24
  go_wp2
  go_loopw [0, 6] (fun s i w' => ∃ k z : Nat, i = .int .i64 (k : Int) ∧ k ≤ 8 ∧ more c (le k n) = z ∧ s = .int .u64 (z : Int) ∧ Below w.heap.size w w') (fun _ i _ => 8 - (intOf i).toNat)
  case atStart => exact ⟨0, c, rfl, by omega, rfl, rfl, Below.refl _ _⟩
  case round =>
    obtain ⟨k, z, rfl, hk, hz, rfl, hB⟩ := hrel
    have hzl : W64 z := by rw [← hz]; exact more_lt hc _
    by_cases hlt : k < 8
    · have e1 : (k : Int) < 8 := by omega
      obtain ⟨b, hb⟩ : ∃ b, n / 256 ^ k % 256 = b := ⟨_, rfl⟩
      have hbl : b < 256 := by omega
      have hst : more c (le (k + 1) n) = Cs.step z b := by rw [le_snoc, more_snoc, hz, hb]
      have hst := Lib.hid hst
      have hz' := Lib.hid hz
      clear hz
      have d1 : (n : Int) / 2 ^ (8 * k) % 256 = (b : Int) := by
        have e : (2 : Nat) ^ (8 * k) = 256 ^ k := Nat.pow_mul 2 8 k
        rw [← hb, ← e]; simp
      clear hb
      go_wp2_with (go_at_call 22; refine (addbyte_any z b hzl hbl _).mono ?_; rintro r w2 ⟨rfl, b2⟩)
      go_roundw
      case rel => exact ⟨k + 1, Cs.step z b, by go_num, by omega, hst.out, rfl, then_ hB b2⟩
      case measure => simp [intOf]; omega
    · obtain rfl : k = 8 := by omega
      have hz' := Lib.hid hz
      clear hz
      go_wp2
      go_ret
      exact ⟨by rw [hz'.out]; rfl, hB⟩

theorem update_any (c : Nat) (v : Value) (l : List Nat) (w : World) (hc : W64 c) (H : RB w v l) (hl : l.length ≤ 9223372036854775807) : Calls Tryd.prog 12 #[.int .u64 (c : Int), v] w fun r w' => r = .returned (.int .u64 (more c l : Nat)) ∧ Below w.heap.size w w' := by
  obtain ⟨A, cap, rfl⟩ := H.form
  go_enter Tryd.func12, Tryd.ntmps12
  go_wp2
  go_loopw [0, 9] (fun s i w' => ∃ k z : Nat, i = .int .i64 (k : Int) ∧ k ≤ l.length ∧ more c (l.take k) = z ∧ s = .int .u64 (z : Int) ∧ Below w.heap.size w w') (fun _ i _ => l.length - (intOf i).toNat)
  case atStart => exact ⟨0, c, rfl, by omega, rfl, rfl, Below.refl _ _⟩
  case round =>
    obtain ⟨k, z, rfl, hk, hz, rfl, hB⟩ := hrel
    have hzl : W64 z := by rw [← hz]; exact more_lt hc _
    by_cases hlt : k < l.length
    · obtain ⟨b, hb⟩ : ∃ b, l[k]? = some b := ⟨_, List.getElem?_eq_getElem hlt⟩
      obtain ⟨ad, rfl, c0⟩ := (H.below hB).at_ hb
      have hbl : b < 256 := H.1 b (List.mem_of_getElem? hb)
      have e1 : (k : Int) < (l.length : Int) := by omega
      have e2 : (0 : Int) ≤ (k : Int) := by omega
      have hst := Lib.hid (more_take (c := c) hb)
      have hz' := Lib.hid hz
      clear hb hz
      go_wp2_with (go_at_call 22; refine (addbyte_any z b hzl hbl _).mono ?_; rintro r w2 ⟨rfl, b2⟩)
      go_roundw
      case rel => exact ⟨k + 1, Cs.step z b, by go_num, by omega, by rw [hst.out, hz'.out], rfl, then_ hB b2⟩
      case measure => simp [intOf]; omega
    · obtain rfl : k = l.length := by omega
      rw [List.take_length] at hz
      have hz' := Lib.hid hz
      clear hz
      go_wp2
      go_ret
      exact ⟨by rw [hz'.out]; rfl, hB⟩

theorem sum_any (v : Value) (l : List Nat) (w : World) (H : RB w v l) (hl : l.length ≤ 9223372036854775807) : Calls Tryd.prog 10 #[v] w fun r w' => r = .returned (.int .u64 (more Cs.init l : Nat)) ∧ Below w.heap.size w w' := by
  go_enter Tryd.func10, Tryd.ntmps10
  go_wp2_with fail
  refine (update_any 14695981039346656037 v l w (by decide) H hl).mono ?_
  rintro r w' ⟨rfl, b⟩
  go_wp2
  go_ret
  exact ⟨rfl, b⟩

theorem chain_any (prev kind : Nat) (v : Value) (body : List Nat) (w : World) (hp : W64 prev) (hk : kind < 256) (H : RB w v body) (hl : body.length ≤ 10000) : Calls Tryd.prog 14 #[.int .u64 (prev : Int), .int .u8 (kind : Int), v] w fun r w' => r = .returned (.int .u64 (Cs.chain prev kind body : Nat)) ∧ Below w.heap.size w w' := by
  obtain ⟨A, cap, rfl⟩ := H.form
  have H' := Lib.hid H
  clear H
  have hcv : IntKind.u64.wrap (body.length : Int) = (body.length : Int) := by rw [IntKind.wrap_u64]; omega
  obtain ⟨n, hn⟩ : ∃ n, body.length = n := ⟨_, rfl⟩
  rw [hn] at hcv
  obtain ⟨s1, h1⟩ : ∃ s1, more Cs.init (le 8 prev) = s1 := ⟨_, rfl⟩
  obtain ⟨s2, h2⟩ : ∃ s2, Cs.step s1 kind = s2 := ⟨_, rfl⟩
  obtain ⟨s3, h3⟩ : ∃ s3, more s2 (le 8 n) = s3 := ⟨_, rfl⟩
  have q1 : W64 s1 := by rw [← h1]; exact more_lt init_lt _
  have q2 : W64 s2 := by rw [← h2]; exact step_lt _ _
  have q3 : W64 s3 := by rw [← h3]; exact more_lt q2 _
  have hf : more s3 body = Cs.chain prev kind body := by rw [chain_eq, h1, h2, hn, h3]
  have a1 : ∀ W, Calls Tryd.prog 24 #[.int .u64 14695981039346656037, .int .u64 (prev : Int)] W fun r w' => r = .returned (.int .u64 (s1 : Int)) ∧ Below W.heap.size W w' := fun W => by rw [← h1]; exact addint_any 14695981039346656037 prev (by decide) hp W
  have a2 : ∀ W, Calls Tryd.prog 22 #[.int .u64 (s1 : Int), .int .u8 (kind : Int)] W fun r w' => r = .returned (.int .u64 (s2 : Int)) ∧ Below W.heap.size W w' := fun W => by rw [← h2]; exact addbyte_any s1 kind q1 hk W
  have a3 : ∀ W, Calls Tryd.prog 24 #[.int .u64 (s2 : Int), .int .u64 (n : Int)] W fun r w' => r = .returned (.int .u64 (s3 : Int)) ∧ Below W.heap.size W w' := fun W => by rw [← h3]; exact addint_any s2 n q2 (by omega) W
  have a1 := Lib.hid a1
  have a2 := Lib.hid a2
  have a3 := Lib.hid a3
  have hf := Lib.hid hf
  have hl := Lib.hid hl
  rw [hn]
  rw [hn] at H'
  clear h1 h2 h3
  go_enter Tryd.func14, Tryd.ntmps14
  go_wp2_with fail
  refine (a1.out _).mono ?_
  rintro r w1 ⟨rfl, b1⟩
  go_wp2_with fail
  refine (a2.out _).mono ?_
  rintro r w2 ⟨rfl, b2⟩
  have b2 := then_ b1 b2
  go_wp2_with fail
  refine (a3.out _).mono ?_
  rintro r w3 ⟨rfl, b3⟩
  have b3 := then_ b2 b3
  go_wp2_with fail
  refine (update_any s3 _ body w3 q3 (hn ▸ H'.out.below b3) (by have := hl.out; omega)).mono ?_
  rintro r w4 ⟨rfl, b4⟩
  rw [hf.out]
  go_wp2
  go_ret
  exact ⟨rfl, then_ b3 b4⟩

theorem words_take {l : List Int} {k : Nat} {z : Int} (h : l[k]? = some z) : Cs.words ((l.take (k + 1)).map uz) = more (Cs.words ((l.take k).map uz)) (le 8 (uz z)) := by
  rw [List.take_add_one, h, List.map_append]
  exact words_snoc _ _

theorem sumints_any (v : Value) (l : List Int) (w : World) (H : RN w v l) (hl : l.length ≤ 10000) : Calls Tryd.prog 16 #[v] w fun r w' => r = .returned (.int .u64 (Cs.words (l.map uz) : Nat)) ∧ Below w.heap.size w w' := by
  obtain ⟨A, cap, rfl⟩ := H.form
  go_enter Tryd.func16, Tryd.ntmps16
  go_wp2
  go_loopw [3, 8] (fun s i w' => ∃ k z : Nat, i = .int .i64 (k : Int) ∧ k ≤ l.length ∧ Cs.words ((l.take k).map uz) = z ∧ s = .int .u64 (z : Int) ∧ Below w.heap.size w w') (fun _ i _ => l.length - (intOf i).toNat)
  case atStart => exact ⟨0, Cs.init, rfl, by omega, rfl, rfl, Below.refl _ _⟩
  case round =>
    obtain ⟨k, z, rfl, hk, hz, rfl, hB⟩ := hrel
    have hzl : W64 z := by rw [← hz]; exact more_lt init_lt _
    by_cases hlt : k < l.length
    · obtain ⟨b, hb⟩ : ∃ b, l[k]? = some b := ⟨_, List.getElem?_eq_getElem hlt⟩
      obtain ⟨ad, rfl, c0⟩ := (H.below hB).at_ hb
      have e1 : (k : Int) < (l.length : Int) := by omega
      have e2 : (0 : Int) ≤ (k : Int) := by omega
      have hst := words_take hb
      rw [hz] at hst
      have hst := Lib.hid hst
      have hz' := Lib.hid hz
      clear hb hz
      have hcv := uz_wrap b
      have hul := uz_lt b
      generalize uz b = y at *
      go_wp2_with (go_at_call 24; refine (addint_any z y hzl hul _).mono ?_; rintro r w2 ⟨rfl, b2⟩)
      obtain ⟨q, hq⟩ : ∃ q, more z (le 8 y) = q := ⟨_, rfl⟩
      rw [hq]
      rw [hq] at hst
      go_roundw
      case rel => exact ⟨k + 1, q, by go_num, by omega, hst.out, rfl, then_ hB b2⟩
      case measure => simp [intOf]; omega
    · obtain rfl : k = l.length := by omega
      rw [List.take_length] at hz
      have hz' := Lib.hid hz
      clear hz
      go_wp2
      go_ret
      exact ⟨by rw [hz'.out]; rfl, hB⟩
end Go.Proofs.YtopgdglcfmikiaaDoor
