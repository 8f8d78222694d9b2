/- What the world holds; the code: Format. -/
import Derived.Test.YtopgdglcfmikiaaDoorW6
import Derived.Lib.TrailingZeros
import Derived.Shelf.Spec.TrailingZeros
import Derived.Lib.ConvBytes
namespace Go.Proofs.YtopgdglcfmikiaaDoor
open Go.RowKit Go.Lib Cs

/-- What the walks ask of a world. -/
structure Env (w : World) : Prop where
  db : w.cell? ⟨5, 15, none⟩ = some (.int .u8 4)
  syn : ∃ t p, w.cell? ⟨1, 0, none⟩ = some (.iface t p)
  rng : ∃ t p, w.cell? ⟨2, 0, none⟩ = some (.iface t p)
  size : 6 ≤ w.heap.size
theorem Env.of {w w' : World} (h : Env w) (hb : Below w.heap.size w w') : Env w' := by
  have hs := h.size
  have c : ∀ b o, b < 6 → w'.cell? ⟨b, o, none⟩ = w.cell? ⟨b, o, none⟩ := fun b o hlt => hb.cell (p := ⟨b, o, none⟩) (by show b < w.heap.size; omega)
  exact {
    db := by rw [c _ _ (by omega)]; exact h.db
    syn := by rw [c _ _ (by omega)]; exact h.syn
    rng := by rw [c _ _ (by omega)]; exact h.rng
    size := Nat.le_trans hs hb.size }

theorem ispow_16 (w : World) : Calls Tryd.prog 56 #[.int .i64 16] w fun r w' => r = .returned (.bool true) ∧ w = w' := by
  go_enter Tryd.func56, Tryd.ntmps56
  go_wp2
  go_ret
  exact ⟨rfl, rfl⟩

theorem tz64_16 (w : World) (hT : w.cell? ⟨5, 15, none⟩ = some (.int .u8 4)) : Calls Tryd.prog 64 #[.int .u64 16] w fun r w' => r = .returned (.int .i64 4) ∧ w = w' := by
  have e1 : bits BinOp.and IntKind.u64 16 (IntKind.u64.wrap (-16)) = 16 := by decide
  go_enter Tryd.func64, Tryd.ntmps64
  go_wp2
  go_ret
  exact ⟨rfl, rfl⟩

theorem tz_16 (w : World) (hE : Env w) : Calls Tryd.prog 57 #[.int .u64 16] w fun r w' => r = .returned (.int .i64 4) ∧ w = w' := by
  have hT := hE.db
  go_enter Tryd.func57, Tryd.ntmps57
  go_wp2_with (go_at_call 64; refine (tz64_16 _ hT).mono ?_; rintro r w2 ⟨rfl, rfl⟩)
  go_ret
  exact ⟨rfl, rfl⟩

def d36 : ByteArray := ⟨#[48, 49, 50, 51, 52, 53, 54, 55, 56, 57, 97, 98, 99, 100, 101, 102, 103, 104, 105, 106, 107, 108, 109, 110, 111, 112, 113, 114, 115, 116, 117, 118, 119, 120, 121, 122]⟩
theorem dig_index (d : Nat) (h : d < 16) (W : World) : (Instr.index 9 (.string d36) (.int .u64 (d : Int))).run Tryd.prog W = .ok (.int .u8 ((hexd.getD d 0).toNat : Int)) W := by
  have hs : d36.size = 36 := rfl
  have e : ∀ d, d < 16 → d36.data[d]? = some (hexd.getD d 0) := by decide
  rw [run_index_string W 9 d36 .u64 d Tryd.underlying9, dif_pos ⟨by omega, by omega⟩]
  have e2 := e d h
  obtain ⟨h1, h2⟩ := Array.getElem?_eq_some_iff.1 e2
  rw [← h2]
  rfl

/-- A row of 65 bytes, its last k the k last digits of n. -/
def HexRow (w : World) (B k n : Nat) : Prop := (∀ j, w.frozen? ⟨B, j, none⟩ = false) ∧ (∀ j, j < 65 → ∃ v, w.cell? ⟨B, j, none⟩ = some v) ∧ ∀ (j : Nat) (c : UInt8), (hex k n)[j]? = some c → w.cell? ⟨B, 65 - k + j, none⟩ = some (.int .u8 (c.toNat : Int))
theorem hexrow_zero (w : World) (n : Nat) : HexRow (w.alloc (.cells Tryd.zeroCells84 84)) w.heap.size 0 n := by
  refine ⟨fun j => World.frozen?_alloc_new _ _ _ _, fun j hj => ?_, fun j c h => by simp [hex] at h⟩
  have hb := heap_alloc_new w (.cells Tryd.zeroCells84 84)
  have hz := Tryd.zeroCells84_size
  refine ⟨Tryd.zeroCells84[j]'(by omega), ?_⟩
  unfold World.cell?
  rw [hb]
  simp
theorem HexRow.put {w : World} {B k n d : Nat} (h : HexRow w B k n) (hk : k < 65) (hd : n / 16 ^ k % 16 = d) : HexRow (w.setCell ⟨B, 64 - k, none⟩ (.int .u8 ((hexd.getD d 0).toNat : Int))) B (k + 1) n := by
  obtain ⟨v, hv⟩ := h.2.1 (64 - k) (by omega)
  refine ⟨fun j => by rw [World.frozen?_setCell]; exact h.1 j, fun j hj => ?_, fun j c hc => ?_⟩
  · obtain ⟨u, hu⟩ := h.2.1 j hj
    exact cell?_setCell_some hu
  · rw [hex_cons, hd] at hc
    cases j with
    | zero =>
      simp at hc
      subst hc
      rw [show 65 - (k + 1) + 0 = 64 - k by omega]
      exact World.cell?_setCell_same _ _ _ hv
    | succ j =>
      simp at hc
      have hj := (List.getElem?_eq_some_iff.1 hc).1
      rw [hex_length] at hj
      rw [World.cell?_setCell_other _ _ _ _ (by intro e; injection e with _ e _; omega), show 65 - (k + 1) + (j + 1) = 65 - k + j by omega]
      exact h.2.2 j c hc

set_option maxRecDepth 100000 in
theorem fmtbits_16 (n : Nat) (hn : W64 n) (w : World) (hE : Env w) : Calls Tryd.prog 41 #[.slice none 0 0, .int .u64 (n : Int), .int .i64 16, .bool false, .bool false] w fun r w' => (∃ k, 0 < k ∧ k ≤ 16 ∧ n < 16 ^ k ∧ r = .returned (.tuple #[.slice none 0 0, .string ⟨(hex k n).toArray⟩])) ∧ Below w.heap.size w w' := by
  have hA : Below w.heap.size w (w.alloc (.cells Tryd.zeroCells84 84)) := (Below.refl _ w).alloc (Nat.le_refl _) _
  have hE1 := hE.of hA
  have hZ := Lib.hid (hexrow_zero w n)
  go_enter Tryd.func41, Tryd.ntmps41
  go_wp2_with first | (go_at_call 56; refine (ispow_16 _).mono ?_; rintro r w2 ⟨rfl, rfl⟩) | (go_at_call 57; refine (tz_16 _ hE1).mono ?_; rintro r w2 ⟨rfl, rfl⟩)
  go_loopw [1, 13] (fun u i w' => ∃ k y : Nat, i = .int .i64 ((65 - k : Nat) : Int) ∧ k ≤ 15 ∧ n / 16 ^ k = y ∧ u = .int .u64 (y : Int) ∧ HexRow w' w.heap.size k n ∧ w.heap.size < w'.heap.size ∧ Below w.heap.size w w') (fun _ i _ => (intOf i).toNat)
  case atStart => exact ⟨0, n, rfl, by omega, by simp, rfl, hZ.out, by rw [World.size_alloc]; omega, hA⟩
  case round =>
    obtain ⟨k, y, rfl, hk, hy, rfl, hR, hs, hB⟩ := hrel
    have hyl : y ≤ n := by rw [← hy]; exact Nat.div_le_self _ _
    obtain ⟨p, hp⟩ : ∃ p, 64 - k = p := ⟨_, rfl⟩
    have hq : 65 - k = p + 1 := by omega
    rw [hq]
    obtain ⟨q, hq2⟩ : ∃ q, p + 1 = q := ⟨_, rfl⟩
    rw [hq2]
    obtain ⟨v, hv⟩ := hR.2.1 p (by omega)
    have hfr := hR.1 p
    obtain ⟨d, hd⟩ : ∃ d, y % 16 = d := ⟨_, rfl⟩
    have hd16 : d < 16 := by omega
    have a1 : bits BinOp.and IntKind.u64 (y : Int) 15 = (d : Int) := by
      have h1 := bits_and_u64_nat y 15 (by omega) (by omega)
      rw [Nat.and_two_pow_sub_one_eq_mod y 4] at h1
      rw [← hd]; exact h1
    have hix := fun W => dig_index d hd16 W
    unfold d36 at hix
    have e2 : (q : Int) - 1 = (p : Int) := by omega
    have e3 : (0 : Int) ≤ (p : Int) := by omega
    have e4 : (p : Int) < 65 := by omega
    have hput := hR.put (by omega) (show n / 16 ^ k % 16 = d by rw [hy, hd])
    rw [hp] at hput
    have hB2 : Below w.heap.size w (wr.setCell ⟨w.heap.size, p, none⟩ (.int .u8 ((hexd.getD d 0).toNat : Int))) := hB.setCell (p := ⟨w.heap.size, p, none⟩) (Nat.le_refl _) _
    obtain ⟨cd, hcd⟩ : ∃ cd, hexd.getD d 0 = cd := ⟨_, rfl⟩
    rw [hcd] at hput hB2 hix
    have hput := Lib.hid hput
    have hB2 := Lib.hid hB2
    clear hR hcd hB
    by_cases hlt : 16 ≤ y
    · have e1 : (16 : Int) ≤ (y : Int) := by omega
      have hk15 : k + 1 ≤ 15 := by
        rcases Nat.lt_or_ge (k + 1) 16 with h | h
        · omega
        · exfalso
          obtain rfl : k = 15 := by omega
          rw [← hy] at hlt
          have := Nat.div_mul_le_self n (16 ^ 15)
          unfold W64 at hn
          omega
      have hy2 : n / 16 ^ (k + 1) = y / 16 := by rw [Nat.pow_succ, ← Nat.div_div_eq_div_mul, hy]
      have hq3 : p = 65 - (k + 1) := by omega
      have hs2 : w.heap.size < (wr.setCell ⟨w.heap.size, p, none⟩ (.int .u8 (cd.toNat : Int))).heap.size := by simpa using hs
      have hy2 := Lib.hid hy2
      have hs2 := Lib.hid hs2
      have hq4 := Lib.hid hq3
      have hq5 := Lib.hid hq2
      clear hy hq3 hp hq hd hq2 hs
      go_wp2
      refine ⟨⟨k + 1, y / 16, by rw [← hq4.out], hk15, hy2.out, by simp, hput.out, hs2.out, hB2.out⟩, by have := hq5.out; simp [intOf]; omega⟩
    · have e1 : (y : Int) < 16 := by omega
      have hyd : y = d := by omega
      subst hyd
      have e5 : (p : Int) ≤ 65 := by omega
      have e6 : ¬ 65 = p := by omega
      obtain ⟨m, hm⟩ : ∃ m, 65 - p = m := ⟨_, rfl⟩
      have hml : (hex (k + 1) n).length = m := by rw [hex_length]; omega
      have hcv : (convert 23 9 (.slice (some ⟨w.heap.size, p, none⟩) m m)).run Tryd.prog (wr.setCell ⟨w.heap.size, p, none⟩ (.int .u8 (cd.toNat : Int))) = .ok (.string ⟨(hex (k + 1) n).toArray⟩) (wr.setCell ⟨w.heap.size, p, none⟩ (.int .u8 (cd.toNat : Int))) := by
        have h := run_convert_bytes_back (P := Tryd.prog) (wr.setCell ⟨w.heap.size, p, none⟩ (.int .u8 (cd.toNat : Int))) 23 9 5 ⟨w.heap.size, p, none⟩ m (hex (k + 1) n) Tryd.underlying23 Tryd.underlying5 Tryd.underlying9 (fun j hj => by
          have h2 := hput.out.2.2 j _ (List.getElem?_eq_getElem hj)
          rw [show 65 - (k + 1) + j = p + j by omega] at h2
          rw [show (⟨w.heap.size, p, none⟩ : Addr).add j = ⟨w.heap.size, p + j, none⟩ by simp [Addr.add]]
          exact h2)
        rw [hml] at h
        exact h
      have hfin : n < 16 ^ (k + 1) := by
        rw [Nat.pow_succ]
        have := Nat.lt_mul_div_succ n (show 0 < 16 ^ k from Nat.pow_pos (by decide))
        rw [hy] at this
        exact Nat.lt_of_lt_of_le this (Nat.mul_le_mul_left _ (by omega))
      have hfin := Lib.hid hfin
      clear hp hq hd hq2 hs hy hml
      go_wp2
      go_ret2
      exact ⟨⟨k + 1, by omega, by omega, hfin.out, rfl⟩, hB2.out⟩

theorem ifmt_16 (n : Nat) (hn : W64 n) (w : World) (hE : Env w) : Calls Tryd.prog 29 #[.int .u64 (n : Int), .int .i64 16] w fun r w' => (∃ k, 0 < k ∧ k ≤ 16 ∧ n < 16 ^ k ∧ r = .returned (.string ⟨(hex k n).toArray⟩)) ∧ Below w.heap.size w w' := by
  go_enter Tryd.func29, Tryd.ntmps29
  go_wp2_with fail
  refine (fmtbits_16 n hn w hE).mono ?_
  rintro r w1 ⟨⟨k, h0, h1, h2, rfl⟩, b1⟩
  obtain ⟨t, ht⟩ : ∃ t, (hex k n) = t := ⟨_, rfl⟩
  rw [ht]
  go_wp2
  go_ret
  exact ⟨⟨k, h0, h1, h2, by rw [ht]; rfl⟩, b1⟩
theorem fmt_16 (n : Nat) (hn : W64 n) (w : World) (hE : Env w) : Calls Tryd.prog 26 #[.int .u64 (n : Int), .int .i64 16] w fun r w' => (∃ k, 0 < k ∧ k ≤ 16 ∧ n < 16 ^ k ∧ r = .returned (.string ⟨(hex k n).toArray⟩)) ∧ Below w.heap.size w w' := by
  go_enter Tryd.func26, Tryd.ntmps26
  go_wp2_with fail
  refine (ifmt_16 n hn w hE).mono ?_
  rintro r w1 ⟨⟨k, h0, h1, h2, rfl⟩, b1⟩
  obtain ⟨t, ht⟩ : ∃ t, (hex k n) = t := ⟨_, rfl⟩
  rw [ht]
  go_wp2
  go_ret
  exact ⟨⟨k, h0, h1, h2, by rw [ht]; rfl⟩, b1⟩
end Go.Proofs.YtopgdglcfmikiaaDoor
