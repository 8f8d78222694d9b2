/- The code: Parse. -/
import Derived.Test.YtopgdglcfmikiaaDoorW8
import Derived.Lib.Strings
import Derived.Lib.AtoiAllMem
import Derived.Lib.AtoiErrMem
import Derived.Laws.Closers25b
namespace Go.Proofs.YtopgdglcfmikiaaDoor
open Go.RowKit Go.Lib Cs

/-- What the library's ParseUint hands back: some number; the right one for sixteen lower-case digits. -/
def PU (l : List UInt8) (u : Nat) : Prop := W64 u ∧ ∀ n, parse l = some n → u = n
def PE (e : Value) : Prop := e = .nilIface ∨ e = .iface 75 (.int .i64 2) ∨ e = .iface 75 (.int .i64 1)

theorem all_bytes {Q : UInt8 → Prop} (h : ∀ m, m < 256 → Q (UInt8.ofNat m)) (c : UInt8) : Q c := by
  have := h c.toNat c.toNat_lt
  rwa [UInt8.ofNat_toNat] at this
theorem val_digit : ∀ c : UInt8, 48 ≤ c.toNat → c.toNat ≤ 57 → val c = some (c.toNat - 48) := all_bytes (by decide +kernel)
theorem val_letter : ∀ c : UInt8, 97 ≤ c.toNat → c.toNat ≤ 102 → val c = some (c.toNat - 87) := all_bytes (by decide +kernel)
theorem val_other : ∀ c : UInt8, ¬ (48 ≤ c.toNat ∧ c.toNat ≤ 57) → ¬ (97 ≤ c.toNat ∧ c.toNat ≤ 102) → val c = none := all_bytes (by decide +kernel)
theorem or_letter : ∀ c : UInt8, 97 ≤ c.toNat → c.toNat ≤ 102 → bits BinOp.or IntKind.u8 (c.toNat : Int) 32 = (c.toNat : Int) := all_bytes (by decide +kernel)
theorem pu_max {l : List UInt8} (h : ∀ n, parse l = some n → False) : ∃ u : Nat, (18446744073709551615 : Int) = (u : Int) ∧ PU l u := ⟨18446744073709551615, rfl, by unfold W64; omega, fun n hn => (h n hn).elim⟩
theorem pu_zero {l : List UInt8} (h : ∀ n, parse l = some n → False) : ∃ u : Nat, (0 : Int) = (u : Int) ∧ PU l u := ⟨0, rfl, by unfold W64; omega, fun n hn => (h n hn).elim⟩
theorem pu_of {l : List UInt8} {z : Int} (h0 : 0 ≤ z) (h1 : z < 18446744073709551616) (h : ∀ n, parse l = some n → z.toNat = n) : ∃ u : Nat, z = (u : Int) ∧ PU l u := ⟨z.toNat, by omega, by unfold W64; omega, h⟩

set_option maxHeartbeats 4000000 in
set_option maxRecDepth 100000 in
theorem iparse_16 (l : List UInt8) (w : World) (hl0 : l ≠ []) (hl : l.length ≤ 1000) : Calls Tryd.prog 36 #[.string ⟨l.toArray⟩, .int .i64 16, .int .i64 64] w fun r w' => (∃ x e, r = .returned (.tuple #[.int .u64 x, e]) ∧ (∃ u : Nat, x = (u : Int) ∧ PU l u) ∧ PE e) ∧ Below w.heap.size w w' := by
  have hmv : IntKind.u64.wrap (IntKind.u64.wrap 18446744073709551616 - 1) = 18446744073709551615 := by
    rw [IntKind.wrap_u64, IntKind.wrap_u64]; decide
  obtain ⟨t, ht⟩ : ∃ t : ByteArray, t = ⟨l.toArray⟩ := ⟨_, rfl⟩
  have htl : t.size = l.length := by rw [ht]; simp [ByteArray.size]
  have hne : t.toList.isEmpty = false := by
    rw [← decide_eq_emptyBytes]
    refine decide_eq_false fun h => hl0 ?_
    rw [ht] at h
    have := congrArg (fun b => b.data.toList) h
    simpa using this
  rw [← ht]
  have hcv := Lib.run_convert_string_bytes (P := Tryd.prog) w 9 23 5 t Tryd.underlying9 Tryd.underlying23 Tryd.underlying5
  have hB : ∀ j, j < t.size → (Lib.bytesWorld w 5 t).cell? ⟨w.heap.size, j, none⟩ = some (.int .u8 (t.data.toList.getD j 0).toNat) := fun j hj => Lib.bytesWorld_cell w 5 t j hj
  have hbel : Below w.heap.size w (Lib.bytesWorld w 5 t) := Lib.bytesWorld_below w 5 t
  obtain ⟨W1, hW1⟩ : ∃ W1, W1 = Lib.bytesWorld w 5 t := ⟨_, rfl⟩
  rw [← hW1] at hcv hB hbel
  clear hW1
  have hbel' := Lib.hid hbel
  have hdat : t.data.toList = l := by rw [ht]
  rw [hdat] at hB
  clear hdat ht hbel
  go_enter Tryd.func36, Tryd.ntmps36
  go_wp2
  go_loop [12, 13, 101] (fun vu vn vi => ∃ (k : Nat) (z : Int), vu = .bool false ∧ vn = .int .u64 z ∧ vi = .int .i64 (k : Int) ∧ k ≤ t.size ∧ 0 ≤ z ∧ z < 18446744073709551616 ∧ Hid (∀ n, parse l = some n → unhex 0 (l.take k) = some z.toNat))
    (fun _ _ vi => t.size - (RowKit.intOf vi).toNat)
  case atStart => exact ⟨0, 0, rfl, rfl, rfl, by omega, by omega, by omega, Lib.hid fun _ _ => rfl⟩
  case round =>
    obtain ⟨k, z, rfl, rfl, rfl, hk, hz0, hz1, hh⟩ := hrel
    by_cases hkn : k < t.size
    · have hc := hB k hkn
      obtain ⟨c, hck⟩ : ∃ c, l[k]? = some c := ⟨_, List.getElem?_eq_getElem (by omega)⟩
      rw [List.getD_eq_getElem?_getD, hck, Option.getD_some] at hc
      have hc256 : c.toNat < 256 := c.toNat_lt
      have htk := unhex_take hck 0
      have hno : val c = none → ∀ n, parse l = some n → False := fun hv n hn => by
        have h1 := hh.out n hn
        have h2 : unhex 0 (l.take (k + 1)) = none := by rw [htk, h1, hv]; rfl
        have h3 := unhex_none h2
        unfold parse at hn
        split at hn
        · rw [h3] at hn; cases hn
        · cases hn
      have hno := Lib.hid hno
      have hstep : ∀ d, val c = some d → ∀ n, parse l = some n → unhex 0 (l.take (k + 1)) = some (z.toNat * 16 + d) := fun d hv n hn => by
        rw [htk, hh.out n hn, hv]; rfl
      have hstep := Lib.hid hstep
      have hbig : 1152921504606846976 ≤ z → ∀ n, parse l = some n → False := fun hb n hn => by
        have h1 := hh.out n hn
        have h2 := unhex_lt _ _ _ h1
        have h3 : l.length = 16 := by
          unfold parse at hn
          split at hn
          · assumption
          · cases hn
        have h4 : 16 ^ (l.take k).length ≤ 16 ^ 15 := Nat.pow_le_pow_right (by decide) (by rw [List.length_take]; omega)
        omega
      have hbig := Lib.hid hbig
      clear htk hB hh
      by_cases hdig : 48 ≤ c.toNat ∧ c.toNat ≤ 57
      · obtain ⟨hd0, hd1⟩ := hdig
        have hv : val c = some (c.toNat - 48) := val_digit c hd0 hd1
        have hv := Lib.hid hv
        by_cases hcut : 1152921504606846976 ≤ z
        · go_wp2
          go_ret2
          exact ⟨⟨_, _, rfl, pu_max (hbig.out hcut), .inr (.inr rfl)⟩, hbel'.out⟩
        · have icut : z < 1152921504606846976 := by omega
          have e2 : z * 16 + ((c.toNat : Int) - 48) < 18446744073709551616 := by omega
          clear hcut
          go_wp2
          refine ⟨⟨k + 1, z * 16 + ((c.toNat : Int) - 48), rfl, rfl, by go_num, by omega, by omega, by omega, Lib.hid fun n hn => ?_⟩, by simp [RowKit.intOf]; omega⟩
          rw [hstep.out _ hv.out n hn]
          congr 1; omega
      · have hdig' : (c.toNat : Int) < 48 ∨ 57 < (c.toNat : Int) := by omega
        by_cases hlow : 97 ≤ c.toNat ∧ c.toNat ≤ 102
        · obtain ⟨hd0, hd1⟩ := hlow
          have hv : val c = some (c.toNat - 87) := val_letter c hd0 hd1
          have hv := Lib.hid hv
          have hlw : bits BinOp.or IntKind.u8 (c.toNat : Int) 32 = (c.toNat : Int) := or_letter c hd0 hd1
          have hL : ∀ W : World, Calls Tryd.prog 47 #[.int .u8 (c.toNat : Int)] W fun r w' => r = .returned (.int .u8 (c.toNat : Int)) ∧ w' = W := fun W => by
            have h := Tryd.internal_strconv_lower (c.toNat : Int) W
            rw [hlw] at h
            exact h
          have hL := Lib.hid hL
          clear hlw hdig
          by_cases hcut : 1152921504606846976 ≤ z
          · go_wp2_with (go_at_call 47; refine (hL.out _).mono ?_; rintro r w2 ⟨rfl, rfl⟩)
            go_ret2
            exact ⟨⟨_, _, rfl, pu_max (hbig.out hcut), .inr (.inr rfl)⟩, hbel'.out⟩
          · have icut : z < 1152921504606846976 := by omega
            have e2 : z * 16 + ((c.toNat : Int) - 97 + 10) < 18446744073709551616 := by omega
            clear hcut
            go_wp2_with (go_at_call 47; refine (hL.out _).mono ?_; rintro r w2 ⟨rfl, rfl⟩)
            refine ⟨⟨k + 1, z * 16 + ((c.toNat : Int) - 97 + 10), rfl, rfl, by go_num, by omega, by omega, by omega, Lib.hid fun n hn => ?_⟩, by simp [RowKit.intOf]; omega⟩
            rw [hstep.out _ hv.out n hn]
            congr 1; omega
        · have hn := hno.out (val_other c hdig hlow)
          have hn := Lib.hid hn
          by_cases h95 : c.toNat = 95
          · have hL : ∀ W : World, Calls Tryd.prog 47 #[.int .u8 95] W fun r w' => r = .returned (.int .u8 127) ∧ w' = W := fun W => by
              have h := Tryd.internal_strconv_lower 95 W
              rw [show bits BinOp.or IntKind.u8 95 32 = 127 by decide] at h
              exact h
            have hL := Lib.hid hL
            rw [h95] at hc
            clear hdig hlow hdig' h95 hc256
            go_wp2_with (go_at_call 47; refine (hL.out _).mono ?_; rintro r w2 ⟨rfl, rfl⟩)
            go_ret2
            exact ⟨⟨_, _, rfl, pu_zero hn.out, .inr (.inl rfl)⟩, hbel'.out⟩
          · have t95 : ((c.toNat : Int) == 95) = false := by simp; omega
            obtain ⟨y, hy⟩ : ∃ y : Int, bits BinOp.or IntKind.u8 (c.toNat : Int) 32 = y := ⟨_, rfl⟩
            have y0 : 0 ≤ y := by rw [← hy]; exact bits_lo_u8 .or (c.toNat : Int) 32
            have y1 : y ≤ 255 := by have := bits_hi_u8 .or (c.toNat : Int) 32; rw [hy] at this; omega
            have hL : ∀ W : World, Calls Tryd.prog 47 #[.int .u8 (c.toNat : Int)] W fun r w' => r = .returned (.int .u8 y) ∧ w' = W := fun W => by
              have h := Tryd.internal_strconv_lower (c.toNat : Int) W
              rw [hy] at h
              exact h
            have hL := Lib.hid hL
            have h95' : ¬ (c.toNat : Int) = 95 := by omega
            clear hdig hlow hy
            by_cases hyl : 97 ≤ y ∧ y ≤ 122
            · obtain ⟨g1, g2⟩ := hyl
              by_cases hy16 : y < 103
              · by_cases hcut : 1152921504606846976 ≤ z
                · rcases hdig' with g3 | g3
                  all_goals go_wp2_with (go_at_call 47; refine (hL.out _).mono ?_; rintro r w2 ⟨rfl, rfl⟩)
                  all_goals go_ret2
                  all_goals exact ⟨⟨_, _, rfl, pu_max (hbig.out hcut), .inr (.inr rfl)⟩, hbel'.out⟩
                · have icut : z < 1152921504606846976 := by omega
                  have e2 : z * 16 + (y - 97 + 10) < 18446744073709551616 := by omega
                  clear hcut
                  rcases hdig' with g3 | g3
                  all_goals go_wp2_with (go_at_call 47; refine (hL.out _).mono ?_; rintro r w2 ⟨rfl, rfl⟩)
                  all_goals refine ⟨⟨k + 1, z * 16 + (y - 97 + 10), rfl, rfl, by go_num, by omega, by omega, by omega, Lib.hid fun n h => (hn.out n h).elim⟩, by simp [RowKit.intOf]; omega⟩
              · have hy17 : 103 ≤ y := by omega
                clear hy16
                rcases hdig' with g3 | g3
                all_goals go_wp2_with (go_at_call 47; refine (hL.out _).mono ?_; rintro r w2 ⟨rfl, rfl⟩)
                all_goals go_ret2
                all_goals exact ⟨⟨_, _, rfl, pu_zero hn.out, .inr (.inl rfl)⟩, hbel'.out⟩
            · rcases (show y < 97 ∨ 122 < y by omega) with g1 | g1
              all_goals clear hyl
              all_goals rcases hdig' with g3 | g3
              all_goals go_wp2_with (go_at_call 47; refine (hL.out _).mono ?_; rintro r w2 ⟨rfl, rfl⟩)
              all_goals go_ret2
              all_goals exact ⟨⟨_, _, rfl, pu_zero hn.out, .inr (.inl rfl)⟩, hbel'.out⟩
    · have hkk : k = l.length := by omega
      subst hkk
      have hh' := hh.out
      rw [List.take_length] at hh'
      have hh' := Lib.hid hh'
      clear hh
      go_wp2
      go_ret2
      exact ⟨⟨_, _, rfl, pu_of hz0 hz1 (fun n hn => by
        have h1 := hh'.out n hn
        unfold parse at hn
        split at hn
        · rw [h1] at hn; exact Option.some.inj hn
        · cases hn), .inl rfl⟩, hbel'.out⟩
end Go.Proofs.YtopgdglcfmikiaaDoor
