/- The reference: Int. -/
import Derived.Test.YtmmfkepkdmmmkaaW2
set_option linter.unusedVariables false
namespace Go.Proofs.Ytmmfkepkdmmmkaa
open Go.RowKit Go.Lib Wr

theorem rint_any (n : Int) (hn : I64 n) (w : World) : Calls Try.prog 35 #[.int .i64 n] w fun r w' => ∃ v, r = .returned v ∧ OwnB w' w.heap.size v (Wr.int n) ∧ Below w.heap.size w w' := by
  obtain ⟨z, hz⟩ : ∃ z, zig n = z := ⟨_, rfl⟩
  have hzl := zig_lt hn
  rw [hz] at hzl
  unfold Wr.int
  rw [hz]
  obtain ⟨h1, h2⟩ := hn
  go_enter Try.func35, Try.ntmps35
  by_cases h0 : n < 0
  · have e1 : -(n + 1) * 2 + 1 = (z : Int) := by rw [← hz]; unfold zig; rw [if_neg (by omega)]; omega
    go_wp2
    have e1' := Lib.hid e1
    clear e1 hz
    go_loopw [3, 4] (fun u out w' => ∃ (y : Nat) (pre : Bs), u = .int .u64 (y : Int) ∧ y < 18446744073709551616 ∧ pre ++ enc y = enc z ∧ OwnB w' w.heap.size out pre ∧ Below w.heap.size w w') (fun u _ _ => (intOf u).toNat)
    case atStart => exact ⟨z, [], rfl, hzl, rfl, OwnB.empty w (Nat.le_refl _), (Below.refl _ _).alloc (Nat.le_refl _) _⟩
    case round =>
      obtain ⟨y, pre, rfl, hy, he, hO, hB⟩ := hrel
      have hpl : pre.length ≤ 10 := by
        have := congrArg List.length he
        rw [List.length_append] at this
        have := enc_len10 hzl
        omega
      by_cases hs : y < 128
      · obtain ⟨c, hc⟩ : ∃ c, byt y = c := ⟨_, rfl⟩
        obtain rfl : y = c.toNat := by rw [← hc, byt_toNat (by omega)]
        have t1 : ¬ (128 : Int) ≤ (c.toNat : Int) := by omega
        have hR := (OwnB.one wr (Nat.le_refl _) c).rb
        have h63 : pre.length + [c].length ≤ 100000000 := by simp; omega
        have hbs : w.heap.size ≤ (wr.alloc (.cells #[.int .u8 (c.toNat : Int)] 5)).heap.size := by rw [World.size_alloc]; have := hB.size; omega
        have hb' : Below w.heap.size w (wr.alloc (.cells #[.int .u8 (c.toNat : Int)] 5)) := hB.alloc hB.size _
        have hO' := Lib.hid hO
        rw [enc_small hs, hc] at he
        have he' := Lib.hid he
        clear hO he hc
        go_wp2_with (at_builtin; refine wpList_append_bytes rfl _ _ rfl w.heap.size _ pre rfl (hO'.out.alloc _) _ [c] rfl hR h63 hbs ?_; intro v2 w2 hO2 hg2 hp2)
        go_ret
        exact ⟨_, rfl, he'.out ▸ hO2, grown_below hb' (hO'.out.alloc _) hbs hg2⟩
      · obtain ⟨c, hc⟩ : ∃ c, byt (y % 128 + 128) = c := ⟨_, rfl⟩
        have t1 : (128 : Int) ≤ (y : Int) := by omega
        have d2 : (y : Int) % 128 + 128 = (c.toNat : Int) := by rw [← hc, byt_toNat (by omega)]; omega
        have hR := (OwnB.one wr (Nat.le_refl _) c).rb
        have h63 : pre.length + [c].length ≤ 100000000 := by simp; omega
        have hbs : w.heap.size ≤ (wr.alloc (.cells #[.int .u8 (c.toNat : Int)] 5)).heap.size := by rw [World.size_alloc]; have := hB.size; omega
        have hb' : Below w.heap.size w (wr.alloc (.cells #[.int .u8 (c.toNat : Int)] 5)) := hB.alloc hB.size _
        have hO' := Lib.hid hO
        have he2 : (pre ++ [c]) ++ enc (y / 128) = enc z := by rw [← he, enc_big hs, hc]; simp
        have he' := Lib.hid he2
        clear hO he he2 hc
        go_wp2_with (at_builtin; refine wpList_append_bytes rfl _ _ rfl w.heap.size _ pre rfl (hO'.out.alloc _) _ [c] rfl hR h63 hbs ?_; intro v2 w2 hO2 hg2 hp2)
        go_roundw
        case rel => exact ⟨y / 128, _, by go_num, by omega, he'.out, hO2, grown_below hb' (hO'.out.alloc _) hbs hg2⟩
        case measure => simp [intOf]; omega
  · have e1 : n * 2 = (z : Int) := by rw [← hz]; unfold zig; rw [if_pos (by omega)]; omega
    go_wp2
    have e1' := Lib.hid e1
    clear e1 hz
    go_loopw [3, 4] (fun u out w' => ∃ (y : Nat) (pre : Bs), u = .int .u64 (y : Int) ∧ y < 18446744073709551616 ∧ pre ++ enc y = enc z ∧ OwnB w' w.heap.size out pre ∧ Below w.heap.size w w') (fun u _ _ => (intOf u).toNat)
    case atStart => exact ⟨z, [], rfl, hzl, rfl, OwnB.empty w (Nat.le_refl _), (Below.refl _ _).alloc (Nat.le_refl _) _⟩
    case round =>
      obtain ⟨y, pre, rfl, hy, he, hO, hB⟩ := hrel
      have hpl : pre.length ≤ 10 := by
        have := congrArg List.length he
        rw [List.length_append] at this
        have := enc_len10 hzl
        omega
      by_cases hs : y < 128
      · obtain ⟨c, hc⟩ : ∃ c, byt y = c := ⟨_, rfl⟩
        obtain rfl : y = c.toNat := by rw [← hc, byt_toNat (by omega)]
        have t1 : ¬ (128 : Int) ≤ (c.toNat : Int) := by omega
        have hR := (OwnB.one wr (Nat.le_refl _) c).rb
        have h63 : pre.length + [c].length ≤ 100000000 := by simp; omega
        have hbs : w.heap.size ≤ (wr.alloc (.cells #[.int .u8 (c.toNat : Int)] 5)).heap.size := by rw [World.size_alloc]; have := hB.size; omega
        have hb' : Below w.heap.size w (wr.alloc (.cells #[.int .u8 (c.toNat : Int)] 5)) := hB.alloc hB.size _
        have hO' := Lib.hid hO
        rw [enc_small hs, hc] at he
        have he' := Lib.hid he
        clear hO he hc
        go_wp2_with (at_builtin; refine wpList_append_bytes rfl _ _ rfl w.heap.size _ pre rfl (hO'.out.alloc _) _ [c] rfl hR h63 hbs ?_; intro v2 w2 hO2 hg2 hp2)
        go_ret
        exact ⟨_, rfl, he'.out ▸ hO2, grown_below hb' (hO'.out.alloc _) hbs hg2⟩
      · obtain ⟨c, hc⟩ : ∃ c, byt (y % 128 + 128) = c := ⟨_, rfl⟩
        have t1 : (128 : Int) ≤ (y : Int) := by omega
        have d2 : (y : Int) % 128 + 128 = (c.toNat : Int) := by rw [← hc, byt_toNat (by omega)]; omega
        have hR := (OwnB.one wr (Nat.le_refl _) c).rb
        have h63 : pre.length + [c].length ≤ 100000000 := by simp; omega
        have hbs : w.heap.size ≤ (wr.alloc (.cells #[.int .u8 (c.toNat : Int)] 5)).heap.size := by rw [World.size_alloc]; have := hB.size; omega
        have hb' : Below w.heap.size w (wr.alloc (.cells #[.int .u8 (c.toNat : Int)] 5)) := hB.alloc hB.size _
        have hO' := Lib.hid hO
        have he2 : (pre ++ [c]) ++ enc (y / 128) = enc z := by rw [← he, enc_big hs, hc]; simp
        have he' := Lib.hid he2
        clear hO he he2 hc
        go_wp2_with (at_builtin; refine wpList_append_bytes rfl _ _ rfl w.heap.size _ pre rfl (hO'.out.alloc _) _ [c] rfl hR h63 hbs ?_; intro v2 w2 hO2 hg2 hp2)
        go_roundw
        case rel => exact ⟨y / 128, _, by go_num, by omega, he'.out, hO2, grown_below hb' (hO'.out.alloc _) hbs hg2⟩
        case measure => simp [intOf]; omega
end Go.Proofs.Ytmmfkepkdmmmkaa
