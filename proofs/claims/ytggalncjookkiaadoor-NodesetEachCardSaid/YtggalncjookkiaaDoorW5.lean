/- What the walks ask of a world; the library's functions that the sets call. -/
import Derived.Test.YtggalncjookkiaaDoorW4
import Derived.Test.YtggalncjookkiaaDoorParse
import Derived.Test.YtggalncjookkiaaDoorShelf
import Derived.Lib.LaidTab
import Derived.Lib.SmallJoins
import Derived.WalkSmall
import Derived.Shelf.Spec.TrailingZeros
namespace Go.Proofs.YtggalncjookkiaaDoor
open Go.RowKit Go.Lib Go.Sort Nds

/-- What the walks ask of a world. -/
structure Env (w : World) : Prop where
  pow : Lib.TabIs Tryd.prog w "internal/strconv.uint64pow10" .u64 Lib.pow10Tab
  db : TabAt 0 Lib.deBruijn64tab w
  maxlen : ∃ m, w.cell? ⟨2, 0, none⟩ = some (.int .i64 m)
  syn : ∃ t p, w.cell? ⟨4, 0, none⟩ = some (.iface t p)
  rng : ∃ t p, w.cell? ⟨5, 0, none⟩ = some (.iface t p)
  size : 6 ≤ w.heap.size

theorem gPow : Tryd.prog.globalNamed "internal/strconv.uint64pow10" = some 1 := by kernel_rfl

theorem Env.of {w w' : World} (h : Env w) (hb : Below w.heap.size w w') : Env w' := by
  have hs := h.size
  have c : ∀ b o, b < 6 → w'.cell? ⟨b, o, none⟩ = w.cell? ⟨b, o, none⟩ := fun b o hlt => hb.cell (p := ⟨b, o, none⟩) (by show b < w.heap.size; omega)
  exact {
    pow := var?_below hb gPow (by omega) h.pow
    db := fun j hj => by rw [c _ _ (by omega)]; exact h.db j hj
    maxlen := by rw [c _ _ (by omega)]; exact h.maxlen
    syn := by rw [c _ _ (by omega)]; exact h.syn
    rng := by rw [c _ _ (by omega)]; exact h.rng
    size := Nat.le_trans hs hb.size }

/-! ### TrailingZeros64 -/

set_option maxRecDepth 100000 in
theorem tz_walk (x k idx : Nat) (w : World) (hx0 : ((x : Int) == 0) = false)
    (key : IntKind.u64.wrap (bits BinOp.and IntKind.u64 (x : Int) (IntKind.u64.wrap (-(x : Int))) * 285870213051353865) / 288230376151711744 = (idx : Int))
    (hi : idx < 64) (hcell : w.cell? ⟨0, idx, none⟩ = some (.int .u8 k)) (hk : k < 64) :
    Calls Tryd.prog 43 #[.int .u64 x] w fun e w' => e = .returned (.int .i64 k) ∧ w = w' := by
  go_enter Tryd.func43, Tryd.ntmps43
  go_wp2_with (simp only [key])
  go_ret
  exact ⟨rfl, rfl⟩

theorem tz_any (x : Nat) (w : World) (hT : TabAt 0 Lib.deBruijn64tab w) (h0 : x ≠ 0) (h : x < 18446744073709551616) :
    Calls Tryd.prog 43 #[.int .u64 x] w fun e w' => e = .returned (.int .i64 (ctz 64 x)) ∧ w = w' := by
  obtain ⟨hlow, hk⟩ := Lib.lowest_bit 64 x h0 h
  obtain ⟨hi, htab⟩ := Lib.deBruijn64_at _ hk
  have hcell := hT _ hi
  rw [htab] at hcell
  exact tz_walk x _ _ w (by simp; omega) (tz64_key x _ h h0 hlow) hi hcell hk

/-! ### Cut, Atoi -/

theorem cut_le (l sep : Bs) : (cut l sep).1.length ≤ l.length ∧ (cut l sep).2.1.length ≤ l.length := by
  unfold cut
  split
  · simp only [List.length_take, List.length_drop]; omega
  · simp

theorem sz (l : Bs) : (⟨l.toArray⟩ : ByteArray).size = l.length := rfl

theorem cut_any (l sep : Bs) (w : World) (hE : Env w) (hl : l.length ≤ 1000) :
    Calls Tryd.prog 45 #[.string ⟨l.toArray⟩, .string ⟨sep.toArray⟩] w fun e w' => e = .returned (.tuple #[.string ⟨(cut l sep).1.toArray⟩, .string ⟨(cut l sep).2.1.toArray⟩, .bool (cut l sep).2.2]) ∧ Below w.heap.size w w' := by
  obtain ⟨m, hm⟩ := hE.maxlen
  refine (Tryd.strings_Cut ⟨l.toArray⟩ ⟨sep.toArray⟩ m w (by rw [sz]; omega) hm).mono ?_
  rintro e w' ⟨rfl, n, rfl⟩
  exact ⟨rfl, below_drewN (Below.refl _ _) n⟩

theorem atoi_any (l : Bs) (w : World) (hE : Env w) (hl : l.length ≤ 1000) :
    Calls Tryd.prog 55 #[.string ⟨l.toArray⟩] w fun e w' => ∃ v, e = .returned (.tuple #[.int .i64 (num l), v]) ∧ Below w.heap.size w w' := by
  unfold num
  cases h : atoiAll l
  · rename_i v
    refine (Tryd.strconv_Atoi_ok ⟨l.toArray⟩ (by rw [sz]; omega) v h w).mono ?_
    rintro e w' ⟨rfl, hw⟩
    refine ⟨_, rfl, ?_⟩
    rcases hw with rfl | ⟨t, rfl⟩
    · exact Below.refl _ _
    · exact Joins.below_bytesWorld _ _ _ _ (Nat.le_refl _)
  · obtain ⟨t, p, hv⟩ := hE.syn
    refine (Any.strconv_Atoi_syntax Tryd.laysC172 ⟨l.toArray⟩ (by rw [sz]; omega) h _ w hv (Or.inr ⟨t, p, rfl⟩)).mono ?_
    rintro e w' ⟨N, rfl, _, _, hb⟩
    exact ⟨_, rfl, hb⟩
  · obtain ⟨t, p, hv⟩ := hE.rng
    refine (Tryd.strconv_Atoi_range ⟨l.toArray⟩ (by rw [sz]; omega) h _ w hv (Or.inr ⟨t, p, rfl⟩)).mono ?_
    rintro e w' ⟨N, rfl, _, _, hb⟩
    exact ⟨_, rfl, hb⟩

theorem number_any (l : Bs) (w : World) (hE : Env w) (hl : l.length ≤ 1000) :
    Calls Tryd.prog 49 #[.string ⟨l.toArray⟩] w fun e w' => e = .returned (.int .i64 (num l)) ∧ Below w.heap.size w w' := by
  go_enter Tryd.func49, Tryd.ntmps49
  go_wp2_with (go_at_call 55; refine (atoi_any _ _ hE hl).mono ?_; rintro e w' ⟨v, rfl, hb⟩)
  go_ret
  exact ⟨rfl, hb⟩

theorem ret_2 {a b c d : Int} {k k' : IntKind} (h : a = c) (h' : b = d) : Ending.returned (.tuple #[.int k a, .int k' b]) = .returned (.tuple #[.int k c, .int k' d]) := by rw [h, h']

theorem readRun_any (l : Bs) (w : World) (hE : Env w) (hl : l.length ≤ 1000) :
    Calls Tryd.prog 46 #[.string ⟨l.toArray⟩] w fun e w' => e = .returned (.tuple #[.int .i64 (runOf l).1, .int .i64 (runOf l).2]) ∧ Below w.heap.size w w' := by
  have c1 := cut_le l [45]
  unfold runOf
  cases hc : (cut l [45]).2.2
  · go_enter Tryd.func46, Tryd.ntmps46
    go_wp2_with fail
    refine (cut_any _ _ _ hE hl).mono ?_
    rintro e w1 ⟨rfl, b1⟩
    have E1 := hE.of b1
    go_wp2_with fail
    refine (number_any _ _ E1 (by omega)).mono ?_
    rintro e w2 ⟨rfl, b2⟩
    go_wp2_with fail
    go_ret2
    exact ⟨rfl, then_ b1 b2⟩
  · go_enter Tryd.func46, Tryd.ntmps46
    go_wp2_with fail
    refine (cut_any _ _ _ hE hl).mono ?_
    rintro e w1 ⟨rfl, b1⟩
    have E1 := hE.of b1
    go_wp2_with fail
    refine (number_any _ _ E1 (by omega)).mono ?_
    rintro e w2 ⟨rfl, b2⟩
    have E2 := E1.of b2
    go_wp2_with fail
    refine (number_any _ _ E2 (by omega)).mono ?_
    rintro e w3 ⟨rfl, b3⟩
    go_wp2_with fail
    go_ret2
    exact ⟨rfl, then_ (then_ b1 b2) b3⟩

end Go.Proofs.YtggalncjookkiaaDoor
