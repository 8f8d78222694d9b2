/- The reference: Words, Text. -/
import Derived.Test.YtopgdglcfmikiaaDoorW3
namespace Go.Proofs.YtopgdglcfmikiaaDoor
open Go.RowKit Go.Lib Cs

/-! ### Words -/

def uz (z : Int) : Nat := (z % 18446744073709551616).toNat
theorem uz_lt (z : Int) : W64 (uz z) := by unfold uz W64; omega
theorem uz_wrap (z : Int) : IntKind.u64.wrap z = (uz z : Int) := by rw [IntKind.wrap_u64]; unfold uz; omega

/-- The value v reads as the numbers l. -/
def RN (w : World) (v : Value) (l : List Int) : Prop :=
  (v = .slice none 0 0 ∧ l = []) ∨ ∃ ad c, v = .slice (some ad) l.length c ∧ ∀ (j : Nat) (z : Int), l[j]? = some z → w.cell? (ad.add j) = some (.int .i64 z)
theorem RN.below {w w' : World} {v : Value} {l : List Int} (h : RN w v l) (hb : Below w.heap.size w w') : RN w' v l := by
  rcases h with h | ⟨ad, c, e, hc⟩
  · exact .inl h
  · exact .inr ⟨ad, c, e, fun j b hj => cell_keep (hc j b hj) hb⟩
theorem RN.form {w : World} {v : Value} {l : List Int} (h : RN w v l) : ∃ A c, v = .slice A l.length c := by
  rcases h with ⟨e, hl⟩ | ⟨ad, c, e, _⟩
  · exact ⟨none, 0, by rw [e, hl]; rfl⟩
  · exact ⟨_, c, e⟩
theorem RN.at_ {w : World} {A : Option Addr} {c : Nat} {l : List Int} (h : RN w (.slice A l.length c) l) {j : Nat} {z : Int} (hj : l[j]? = some z) : ∃ ad, A = some ad ∧ w.cell? (ad.add j) = some (.int .i64 z) := by
  rcases h with ⟨_, hl⟩ | ⟨ad, c', e, hc⟩
  · subst hl; simp at hj
  · simp only [Value.slice.injEq, true_and] at e
    exact ⟨ad, e.1, hc j z hj⟩

def wbs (l : List Int) : List Nat := (l.map uz).flatMap (le 8)
theorem wbs_take {l : List Int} {k : Nat} {z : Int} (h : l[k]? = some z) : wbs (l.take (k + 1)) = wbs (l.take k) ++ le 8 (uz z) := by
  unfold wbs
  rw [List.take_add_one, h]
  simp
theorem wbs_length (l : List Int) : (wbs l).length = 8 * l.length := by
  unfold wbs
  induction l with
  | nil => rfl
  | cons a t ih => simp only [List.map_cons, List.flatMap_cons, List.length_append, le_length, ih, List.length_cons]; omega
theorem wbs_bytes (l : List Int) : Bytes (wbs l) := by
  intro b hb
  unfold wbs at hb
  obtain ⟨x, _, hx⟩ := List.mem_flatMap.1 hb
  exact le_bytes 8 x b hx

theorem rwords_any (v : Value) (l : List Int) (w : World) (H : RN w v l) (hl : l.length ≤ 10000) : Calls Tryd.prog 17 #[v] w fun r w' => r = .returned (.int .u64 (Cs.words (l.map uz) : Nat)) ∧ Below w.heap.size w w' := by
  obtain ⟨A, cap, rfl⟩ := H.form
  go_enter Tryd.func17, Tryd.ntmps17
  go_wp2
  go_loopw [3, 4] (fun v i w' => ∃ k : Nat, i = .int .i64 (k : Int) ∧ k ≤ l.length ∧ OwnB w' w.heap.size v (wbs (l.take k)) ∧ Below w.heap.size w w') (fun _ i _ => l.length - (intOf i).toNat)
  case atStart => exact ⟨0, rfl, by omega, OwnB.nil _ _, Below.refl _ _⟩
  case round =>
    obtain ⟨k, rfl, hk, hO, hb⟩ := hrel
    have hwl := wbs_length (l.take k)
    rw [List.length_take, Nat.min_eq_left hk] at hwl
    by_cases hlt : k < l.length
    · obtain ⟨z, hz⟩ : ∃ z, l[k]? = some z := ⟨_, List.getElem?_eq_getElem hlt⟩
      obtain ⟨ad, rfl, c0⟩ := (H.below hb).at_ hz
      have e1 : (k : Int) < (l.length : Int) := by omega
      have e2 : (0 : Int) ≤ (k : Int) := by omega
      have hcv := uz_wrap z
      have hst := Lib.hid (wbs_take hz)
      have hO' := Lib.hid hO
      clear hO hz
      go_wp2_with fail
      refine (rbytes_any (uz z) (uz_lt z) wr).mono ?_
      rintro r w2 ⟨v2, rfl, O2, b2⟩
      have B2 : Below w.heap.size w w2 := then_ hb b2
      have hR2 := O2.rb (le_bytes 8 (uz z))
      have O2b := Lib.hid (hO'.out.below b2)
      have h63 : (wbs (l.take k)).length + (le 8 (uz z)).length ≤ 1000000 := by rw [hwl, le_length]; omega
      have hbs := B2.size
      clear c0 hcv
      go_wp2_with (at_builtin; refine wpList_append_bytes rfl _ _ rfl w.heap.size _ (wbs (l.take k)) rfl O2b.out v2 (le 8 (uz z)) rfl hR2 h63 hbs ?_; intro v3 w3 hO3 hg3)
      have hB3 := grown_below B2 O2b.out hbs hg3
      rw [← hst.out] at hO3
      go_roundw
      case rel => exact ⟨k + 1, by go_num, by omega, hO3, hB3⟩
      case measure => simp [intOf]; omega
    · obtain rfl : k = l.length := by omega
      rw [List.take_length] at hO hwl
      have hR := Lib.hid (hO.rb (wbs_bytes l))
      go_wp2_with fail
      refine (rof_any _ (wbs l) wr hR.out (by omega)).mono ?_
      rintro r w2 ⟨rfl, b2⟩
      go_wp2
      go_ret
      exact ⟨rfl, then_ hb b2⟩

/-! ### Text -/

theorem hex_cons (k n : Nat) : hex (k + 1) n = hexd.getD (n / 16 ^ k % 16) 0 :: hex k n := by
  induction k generalizing n with
  | zero => simp [hex]
  | succ k ih =>
    rw [show hex (k + 1 + 1) n = hex (k + 1) (n / 16) ++ [hexd.getD (n % 16) 0] from rfl, ih, show hex (k + 1) n = hex k (n / 16) ++ [hexd.getD (n % 16) 0] from rfl, Nat.div_div_eq_div_mul, Nat.pow_succ, Nat.mul_comm (16 ^ k) 16]
    rfl
theorem digit_slice : ∀ d, d < 16 → (⟨#[48, 49, 50, 51, 52, 53, 54, 55, 56, 57, 97, 98, 99, 100, 101, 102]⟩ : ByteArray).extract d (d + 1) = ⟨[hexd.getD d 0].toArray⟩ := by decide

theorem ba_cons (x : UInt8) (l : List UInt8) : ((⟨#[x]⟩ : ByteArray) ++ ⟨l.toArray⟩) = ⟨(x :: l).toArray⟩ := by
  apply ByteArray.ext
  simp

theorem rtext_any (n : Nat) (hn : W64 n) (w : World) : Calls Tryd.prog 21 #[.int .u64 (n : Int)] w fun r w' => r = .returned (.string ⟨(hex 16 n).toArray⟩) ∧ w = w' := by
  go_enter Tryd.func21, Tryd.ntmps21
  go_wp2
  go_loop [0, 3, 4] (fun z s i => ∃ k y : Nat, i = .int .i64 (k : Int) ∧ k ≤ 16 ∧ n / 16 ^ k = y ∧ z = .int .u64 (y : Int) ∧ s = .string ⟨(hex k n).toArray⟩) (fun _ _ i => 16 - (intOf i).toNat)
  case atStart => exact ⟨0, n, rfl, by omega, by simp, rfl, rfl⟩
  case round =>
    obtain ⟨k, y, rfl, hk, hy, rfl, rfl⟩ := hrel
    have hyl : y ≤ n := by rw [← hy]; exact Nat.div_le_self _ _
    by_cases hlt : k < 16
    · obtain ⟨d, hd⟩ : ∃ d, y % 16 = d := ⟨_, rfl⟩
      have hdl : d < 16 := by omega
      have e1 : (k : Int) < 16 := by omega
      have hds := digit_slice d hdl
      have hcons := hex_cons k n
      rw [hy, hd] at hcons
      have hy2 : n / 16 ^ (k + 1) = y / 16 := by rw [Nat.pow_succ, ← Nat.div_div_eq_div_mul, hy]
      have hcons' := Lib.hid hcons
      have hy2' := Lib.hid hy2
      have hlen := hex_length k n
      have f0 : (y : Int) % 16 = (d : Int) := by omega
      have f1 : IntKind.u64.wrap ((d : Int) + 1) = ((d + 1 : Nat) : Int) := by rw [IntKind.wrap_u64]; omega
      clear hcons hy2 hy hd
      generalize hex k n = out at *
      go_wp2
      go_round
      case rel => exact ⟨k + 1, y / 16, by go_num, by omega, hy2'.out, by simp, by rw [hcons'.out, ba_cons, List.getD_eq_getElem?_getD]⟩
      case measure => simp [intOf]; omega
    · obtain rfl : k = 16 := by omega
      go_wp2
      go_ret
      exact ⟨rfl, rfl⟩
end Go.Proofs.YtopgdglcfmikiaaDoor
