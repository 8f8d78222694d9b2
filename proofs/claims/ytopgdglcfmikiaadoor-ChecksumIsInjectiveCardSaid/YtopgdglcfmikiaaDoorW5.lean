/- The reference: Parse. -/
import Derived.Test.YtopgdglcfmikiaaDoorW4
namespace Go.Proofs.YtopgdglcfmikiaaDoor
open Go.RowKit Go.Lib Cs

theorem val_lt {c : UInt8} {d : Nat} (h : val c = some d) : d < 16 := by
  unfold val at h
  have h1 := List.idxOf?_eq_some_iff.1 h
  obtain ⟨h2, _⟩ := h1
  simpa [hexd] using h2
theorem val_iff {c : UInt8} {d : Nat} (hd : d < 16) : val c = some d ↔ c = hexd.getD d 0 := by
  constructor
  · intro h
    have h1 := List.idxOf?_eq_some_iff.1 h
    obtain ⟨h2, h3, _⟩ := h1
    rw [List.getD_eq_getElem?_getD, List.getElem?_eq_getElem h2]
    simpa using h3.symm
  · rintro rfl
    exact val_hexd d hd
theorem unhex_take {l : List UInt8} {k : Nat} {c : UInt8} (h : l[k]? = some c) (n : Nat) : unhex n (l.take (k + 1)) = (unhex n (l.take k)).bind fun m => (val c).map fun d => m * 16 + d := by
  rw [List.take_add_one, h]
  show unhex n (l.take k ++ [c]) = _
  rw [unhex_append]
  congr 1
  funext m
  simp only [unhex]
  cases val c <;> rfl
theorem unhex_none {l : List UInt8} {k : Nat} {n : Nat} (h : unhex n (l.take k) = none) : unhex n l = none := by
  rw [← List.take_append_drop k l, unhex_append, h]; rfl
theorem unhex_lt : ∀ (l : List UInt8) (n m : Nat), unhex n l = some m → m < (n + 1) * 16 ^ l.length
  | [], n, m, h => by simp [unhex] at h; subst h; simp
  | c :: t, n, m, h => by
    simp only [unhex] at h
    cases hv : val c with
    | none => rw [hv] at h; cases h
    | some d =>
      rw [hv] at h
      have h1 := unhex_lt t _ _ h
      have h2 := val_lt hv
      rw [List.length_cons, Nat.pow_succ, Nat.mul_comm (16 ^ t.length) 16, ← Nat.mul_assoc]
      exact Nat.lt_of_lt_of_le h1 (Nat.mul_le_mul_right _ (by omega))

theorem str_slice {l : List UInt8} {k : Nat} {c : UInt8} (h : l[k]? = some c) : (⟨l.toArray⟩ : ByteArray).extract k (k + 1) = ⟨[c].toArray⟩ := by
  have hk := (List.getElem?_eq_some_iff.1 h).1
  apply ByteArray.ext
  rw [ByteArray.data_extract]
  apply Array.ext'
  simp only [List.extract_toArray, List.extract_eq_take_drop]
  rw [show k + 1 - k = 1 by omega, List.drop_eq_getElem_cons hk]
  have := (List.getElem?_eq_some_iff.1 h).2
  simp [this]

def perr : Option Nat → Nat × Int
  | some n => (n, 0)
  | none => (0, 2)

theorem rparse_len (l : List UInt8) (w : World) (h : l.length ≠ 16) : Calls Tryd.prog 20 #[.string ⟨l.toArray⟩] w fun r w' => r = .returned (.tuple #[.int .u64 0, .int .i64 2]) ∧ w = w' := by
  have h1 : ((l.length : Int) != 16) = true := by simp; omega
  have h2 : (l.length != 16) = true := by simpa using h
  go_enter Tryd.func20, Tryd.ntmps20
  go_wp2
  go_ret2
  exact ⟨rfl, rfl⟩

set_option maxRecDepth 100000 in
theorem rparse_16 (l : List UInt8) (w : World) (h : l.length = 16) : Calls Tryd.prog 20 #[.string ⟨l.toArray⟩] w fun r w' => (∃ n : Nat, unhex 0 l = some n ∧ r = .returned (.tuple #[.int .u64 (n : Int), .int .i64 0]) ∨ unhex 0 l = none ∧ r = .returned (.tuple #[.int .u64 0, .int .i64 2])) ∧ Below w.heap.size w w' := by
  have hl' := Lib.hid h
  go_enter Tryd.func20, Tryd.ntmps20
  go_wp2
  clear h
  go_loopw [4, 5] (fun z i w' => ∃ k n : Nat, i = .int .i64 (k : Int) ∧ k ≤ 16 ∧ unhex 0 (l.take k) = some n ∧ n < 16 ^ k ∧ z = .int .u64 (n : Int) ∧ Below w.heap.size w w') (fun _ i _ => 16 - (intOf i).toNat)
  case atStart => exact ⟨0, 0, rfl, by omega, rfl, by decide, rfl, Below.refl _ _⟩
  case round =>
    obtain ⟨k, n, rfl, hk, hn, hnl, rfl, hB⟩ := hrel
    by_cases hlt : k < 16
    · have hlen := hl'.out
      obtain ⟨c, hc⟩ : ∃ c, l[k]? = some c := ⟨_, List.getElem?_eq_getElem (by omega)⟩
      have hn16 : n < 1152921504606846976 := by
        have : 16 ^ k ≤ 16 ^ 15 := Nat.pow_le_pow_right (by decide) (by omega)
        have : (16 : Nat) ^ 15 = 1152921504606846976 := by decide
        omega
      have hsl := str_slice hc
      have hut := Lib.hid (unhex_take hc 0)
      have hn' := Lib.hid hn
      have hnl' := Lib.hid hnl
      obtain ⟨k1, hk1⟩ : ∃ k1, k + 1 = k1 := ⟨_, rfl⟩
      rw [hk1] at hsl
      have e1 : (k : Int) < 16 := by omega
      have e2 : (0 : Int) ≤ (k : Int) := by omega
      have e3 : IntKind.i64.wrap ((k : Int) + 1) = (k1 : Int) := by rw [IntKind.wrap_i64]; omega
      have e4 : (k : Int) ≤ (k1 : Int) := by omega
      have e5 : (k1 : Int) ≤ (l.length : Int) := by omega
      clear hc hn hnl hlen
      go_wp2
      go_loopw [4, 6, 7] (fun z f e w' => ∃ d m : Nat, e = .int .u64 (d : Int) ∧ d ≤ 16 ∧ Below w.heap.size w w' ∧ z = .int .u64 (m : Int) ∧ ((∃ v, val c = some v ∧ v < d ∧ m = n * 16 + v ∧ f = .bool true) ∨ ((∀ v, val c = some v → d ≤ v) ∧ m = n ∧ f = .bool false))) (fun _ _ e _ => 16 - (intOf e).toNat)
      case atStart => exact ⟨0, n, rfl, by omega, hB, rfl, .inr ⟨fun _ _ => Nat.zero_le _, rfl, rfl⟩⟩
      case round =>
        obtain ⟨d, m, rfl, hd, hB2, rfl, hcase⟩ := hrel
        have hcase := Lib.hid hcase
        by_cases hd16 : d < 16
        · obtain ⟨x, hx⟩ : ∃ x, hexd.getD d 0 = x := ⟨_, rfl⟩
          obtain ⟨d1, hd1⟩ : ∃ d1, d + 1 = d1 := ⟨_, rfl⟩
          have hds := digit_slice d hd16
          rw [hx, hd1] at hds
          have hvi := val_iff (c := c) hd16
          rw [hx] at hvi
          have f1 : IntKind.u64.wrap ((d : Int) + 1) = (d1 : Int) := by rw [IntKind.wrap_u64]; omega
          have f2 : (d : Int) ≤ (d1 : Int) := by omega
          have f3 : (d1 : Int) ≤ 16 := by omega
          have f4 : (0 : Int) ≤ (d : Int) := by omega
          have f5 : (d : Int) < 16 := by omega
          have hvi := Lib.hid hvi
          clear hx
          by_cases hcx : c = x
          · have t1 : (c == x) = true := by simp [hcx]
            have t2 : ([c] == [x]) = true := by simp [hcx]
            go_wp2
            go_quiet (fail)
            go_wp2
            have hv : val c = some d := hvi.out.2 hcx
            rcases hcase.out with ⟨v, h1, h2, _⟩ | ⟨_, h2, _⟩
            · rw [hv] at h1; injection h1 with h1; omega
            · subst h2
              have e : IntKind.u64.wrap (IntKind.u64.wrap ((m : Int) * 16) + (d : Int)) = ((m * 16 + d : Nat) : Int) := by rw [IntKind.wrap_u64, IntKind.wrap_u64]; omega
              rw [e]
              go_roundw
              case rel => exact ⟨d1, m * 16 + d, rfl, by omega, below_drewN hB2 _, rfl, .inl ⟨d, hv, by omega, rfl, rfl⟩⟩
              case measure => simp [intOf]; omega
          · have t1 : (c == x) = false := by simpa using hcx
            have t2 : ([c] == [x]) = false := by simpa using hcx
            go_wp2
            go_quiet (fail)
            go_wp2
            go_roundw
            case rel =>
              refine ⟨d1, m, rfl, by omega, below_drewN hB2 _, rfl, ?_⟩
              rcases hcase.out with ⟨v, h1, h2, h3, h4⟩ | ⟨h1, h2, h3⟩
              · exact .inl ⟨v, h1, by omega, h3, h4⟩
              · refine .inr ⟨fun v hv => ?_, h2, h3⟩
                have h4 := h1 v hv
                have h5 : d ≠ v := fun e => by subst e; exact hcx (hvi.out.1 hv)
                omega
            case measure => simp [intOf]; omega
        · obtain rfl : d = 16 := by omega
          rcases hcase.out with ⟨v, h1, h2, rfl, rfl⟩ | ⟨h1, rfl, rfl⟩
          · have hk2 := hut.out
            rw [hn'.out, h1] at hk2
            have hb2 : n * 16 + v < 16 ^ (k + 1) := by rw [Nat.pow_succ]; have := hnl'.out; omega
            have hk2 := Lib.hid hk2
            have hb2 := Lib.hid hb2
            clear hcase
            go_wp2
            go_roundw
            case rel => exact ⟨k + 1, n * 16 + v, by go_num, by omega, by simpa using hk2.out, hb2.out, rfl, hB2⟩
            case measure => simp [intOf]; omega
          · have hv : val c = none := by
              cases hv : val c with
              | none => rfl
              | some v => have := h1 v hv; have := val_lt hv; omega
            have hk2 := hut.out
            rw [hn'.out, hv] at hk2
            have hk3 := Lib.hid (unhex_none (k := k + 1) hk2)
            clear hk2 hcase
            go_wp2
            go_ret2
            exact ⟨⟨0, .inr ⟨hk3.out, rfl⟩⟩, hB2⟩
    · obtain rfl : k = 16 := by omega
      have hlen := hl'.out
      rw [List.take_of_length_le (by omega)] at hn
      have hn' := Lib.hid hn
      clear hn hlen
      go_wp2
      go_ret2
      exact ⟨⟨n, .inl ⟨hn'.out, rfl⟩⟩, hB⟩
end Go.Proofs.YtopgdglcfmikiaaDoor
