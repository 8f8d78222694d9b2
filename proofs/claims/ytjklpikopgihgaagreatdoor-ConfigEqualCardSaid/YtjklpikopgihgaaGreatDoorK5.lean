/- What a world holds; numerals, names of kinds, times; rows of bytes and strings. -/
import Derived.Test.YtjklpikopgihgaaGreatDoorK3
import Derived.Test.YtjklpikopgihgaaGreatDoorWA
import Derived.Test.YtjklpikopgihgaaGreatDoorShelf
import Derived.Lib.LaidTab
import Derived.Lib.SmallJoins
import Derived.Deep.RegionLaw
set_option linter.unusedVariables false
set_option maxRecDepth 100000
set_option linter.unusedSimpArgs false
namespace Go.Proofs.YtjklpikopgihgaaGreatDoor
open Go.RowKit Go.Lib Cf

/-- What the walks ask of a world. -/
structure Env (w : World) : Prop where
  pow : Lib.TabIs Tryz.prog w "internal/strconv.uint64pow10" .u64 Lib.pow10Tab
  maxlen : ∃ m, w.cell? ⟨2, 0, none⟩ = some (.int .i64 m)
  syn : ∃ t p, w.cell? ⟨7, 0, none⟩ = some (.iface t p)
  rng : ∃ t p, w.cell? ⟨8, 0, none⟩ = some (.iface t p)
  k0 : w.cell? ⟨0, 0, none⟩ = some (.string ⟨#[98, 97, 115, 105, 99]⟩)
  k1 : w.cell? ⟨0, 1, none⟩ = some (.string ⟨#[100, 111, 99, 116, 111, 114]⟩)
  k2 : w.cell? ⟨0, 2, none⟩ = some (.string ⟨#[99, 97, 114]⟩)
  k3 : w.cell? ⟨0, 3, none⟩ = some (.string ⟨#[97, 105, 114]⟩)
  size : 9 ≤ w.heap.size
theorem gPow : Tryz.prog.globalNamed "internal/strconv.uint64pow10" = some 1 := by kernel_rfl
theorem Env.keep {w w' : World} (h : Env w) (hb : Below 9 w w') : Env w' := by
  have hs := h.size
  have c : ∀ b o, b < 9 → w'.cell? ⟨b, o, none⟩ = w.cell? ⟨b, o, none⟩ := fun b o hlt => hb.cell (p := ⟨b, o, none⟩) hlt
  exact {
    pow := var?_below hb gPow (by omega) h.pow
    maxlen := by rw [c _ _ (by omega)]; exact h.maxlen
    syn := by rw [c _ _ (by omega)]; exact h.syn
    rng := by rw [c _ _ (by omega)]; exact h.rng
    k0 := by rw [c _ _ (by omega)]; exact h.k0
    k1 := by rw [c _ _ (by omega)]; exact h.k1
    k2 := by rw [c _ _ (by omega)]; exact h.k2
    k3 := by rw [c _ _ (by omega)]; exact h.k3
    size := Nat.le_trans hs hb.size }
theorem Env.of {w w' : World} (h : Env w) (hb : Below w.heap.size w w') : Env w' := h.keep (hb.mono h.size)
theorem below_grow {B : Nat} {w : World} (h : B ≤ w.heap.size) (os : Array Obj) : Below B w (Sort.grow w os) :=
  ⟨rfl, rfl, rfl, by simp [Sort.grow], fun k hk => by simp only [Sort.grow]; rw [Array.getElem?_append_left (by omega)]⟩

theorem fmt_any (n : Int) (w : World) (hE : Env w) (h : Dg n) : Calls Tryz.prog 56 #[.int .i64 n, .int .i64 10] w fun e w' => e = .returned (.string ⟨(dig n).toArray⟩) ∧ Below w.heap.size w w' := by
  obtain ⟨h0, h1⟩ := h
  refine (Tryz.strconv_FormatInt_10 n (by omega) (by omega) w hE.pow).mono ?_
  rintro e w' ⟨rfl, k, os, rfl⟩
  refine ⟨?_, (below_drewN (Below.refl _ _) k).trans (below_grow (w := w.drewN k) (Nat.le_refl _) os)⟩
  unfold itoa; rw [if_neg (by omega)]; rfl
theorem numI_any (n : Int) (w : World) (hE : Env w) (h : Dg n) : Calls Tryz.prog 32 #[.int .i64 n] w fun e w' => e = .returned (.string ⟨(dig n).toArray⟩) ∧ Below w.heap.size w w' := by
  go_enter Tryz.func32, Tryz.ntmps32
  go_wp2_with fail
  refine (fmt_any n w hE h).mono ?_
  rintro r w1 ⟨rfl, b1⟩
  go_wp2
  go_ret
  exact ⟨rfl, b1⟩
theorem num64_any (n : Int) (w : World) (hE : Env w) (h : Dg n) : Calls Tryz.prog 37 #[.int .i64 n] w fun e w' => e = .returned (.string ⟨(dig n).toArray⟩) ∧ Below w.heap.size w w' := by
  go_enter Tryz.func37, Tryz.ntmps37
  go_wp2_with fail
  refine (fmt_any n w hE h).mono ?_
  rintro r w1 ⟨rfl, b1⟩
  go_wp2
  go_ret
  exact ⟨rfl, b1⟩
theorem kname_any (k : Int) (w : World) (hE : Env w) (h : kndOk k = true) : Calls Tryz.prog 34 #[.int .i64 k] w fun e w' => e = .returned (.string ⟨(kindName k).toArray⟩) ∧ w = w' := by
  have hk : k = 1 ∨ k = 2 ∨ k = 3 ∨ k = 4 := by unfold kndOk inR at h; simp at h; omega
  have k0 := hE.k0; have k1 := hE.k1; have k2 := hE.k2; have k3 := hE.k3
  clear h hE
  rcases hk with rfl | rfl | rfl | rfl
  all_goals (
    go_enter Tryz.func34, Tryz.ntmps34
    go_wp2
    go_ret
    exact ⟨rfl, rfl⟩)
theorem time_any (t : Int) (w : World) (hE : Env w) (h : Dg t) : Calls Tryz.prog 33 #[.int .i64 t] w fun e w' => e = .returned (.string ⟨(time t).toArray⟩) ∧ Below w.heap.size w w' := by
  by_cases e : t = 4611686018427387904
  · have q : (t == 4611686018427387904) = true := by simp [e]
    have ht := Lib.hid (show time t = never from by unfold time; rw [if_pos e])
    clear e
    go_enter Tryz.func33, Tryz.ntmps33
    go_wp2
    go_ret
    exact ⟨ret_s ht.out.symm, Below.refl _ _⟩
  · have q : (t == 4611686018427387904) = false := by simp [e]
    have ht := Lib.hid (show time t = dig t from by unfold time; rw [if_neg e])
    clear e
    go_enter Tryz.func33, Tryz.ntmps33
    go_wp2_with fail
    refine (num64_any t w hE h).mono ?_
    rintro r w1 ⟨rfl, b1⟩
    go_wp2
    go_ret
    exact ⟨ret_s ht.out.symm, b1⟩
theorem sz (l : Bs) : (⟨l.toArray⟩ : ByteArray).size = l.length := rfl
theorem cut_any (l sep : Bs) (w : World) (hE : Env w) (hl : l.length ≤ 1000000) :
    Calls Tryz.prog 77 #[.string ⟨l.toArray⟩, .string ⟨sep.toArray⟩] w fun e w' => e = .returned (.tuple #[.string ⟨(cut l sep).1.toArray⟩, .string ⟨(cut l sep).2.1.toArray⟩, .bool (cut l sep).2.2]) ∧ Below w.heap.size w w' := by
  obtain ⟨m, hm⟩ := hE.maxlen
  refine (Tryz.strings_Cut ⟨l.toArray⟩ ⟨sep.toArray⟩ m w (by rw [sz]; omega) hm).mono ?_
  rintro e w' ⟨rfl, n, rfl⟩
  exact ⟨rfl, below_drewN (Below.refl _ _) n⟩
theorem parseInt_any (l : Bs) (w : World) (hE : Env w) (hl : l.length ≤ 1000000) :
    Calls Tryz.prog 124 #[.string ⟨l.toArray⟩, .int .i64 10, .int .i64 64] w fun e w' => ∃ v, e = .returned (.tuple #[.int .i64 (num l), v]) ∧ Below w.heap.size w w' := by
  unfold num
  cases h : parseIntB 64 l
  · rename_i v
    refine (Tryz.strconv_ParseInt_10_at64_ok ⟨l.toArray⟩ (by rw [sz]; omega) v h w).mono ?_
    rintro e w' ⟨rfl, hw⟩
    refine ⟨_, rfl, ?_⟩
    rcases hw with rfl | ⟨t, rfl⟩
    · exact Below.refl _ _
    · exact Joins.below_bytesWorld _ _ _ _ (Nat.le_refl _)
  · obtain ⟨t, p, hv⟩ := hE.syn
    refine (Any.strconv_ParseInt_10_at64_syntax Tryz.laysC174 ⟨l.toArray⟩ (by rw [sz]; omega) h _ w hv (Or.inr ⟨t, p, rfl⟩)).mono ?_
    rintro e w' ⟨N, rfl, _, _, hb⟩
    exact ⟨_, rfl, hb⟩
  · obtain ⟨t, p, hv⟩ := hE.rng
    refine (Tryz.strconv_ParseInt_10_at64_range ⟨l.toArray⟩ (by rw [sz]; omega) h _ w hv (Or.inr ⟨t, p, rfl⟩)).mono ?_
    rintro e w' ⟨N, rfl, _, _, hb⟩
    exact ⟨_, rfl, hb⟩
theorem split_data (l : Bs) : (splitB ⟨#[32]⟩ 0 (countB ⟨l.toArray⟩ ⟨#[32]⟩) ⟨l.toArray⟩).map Value.string = (sp l).map fun x => Value.string ⟨x.toArray⟩ := by
  have h := splitB_data ⟨#[32]⟩ 0 (countB ⟨l.toArray⟩ ⟨#[32]⟩) ⟨l.toArray⟩
  have hc : countB ⟨l.toArray⟩ ⟨#[32]⟩ = l.count 32 := count_one 32 l
  rw [hc] at h ⊢
  have e : splitK (⟨#[32]⟩ : ByteArray).data.toList 0 (l.count 32) (⟨l.toArray⟩ : ByteArray).data.toList = sp l := split_sp l.length l (Nat.le_refl _)
  rw [e] at h
  rw [← h, List.map_map]
  rfl
/-- The strings l, in the slice v. -/
def RS (w : World) (v : Value) (l : List Bs) : Prop := ∃ A c, v = .slice A l.length c ∧ l.length ≤ c ∧ ∀ j x, l[j]? = some x → ∃ ad cs, A = some ad ∧ w.heap[ad.block]? = some (.cells cs 9 (0, 0)) ∧ w.cell? (ad.add j) = some (.string ⟨x.toArray⟩)
theorem split_any (l : Bs) (w : World) (hE : Env w) (hl : l.length ≤ 1000000) :
    Calls Tryz.prog 86 #[.string ⟨l.toArray⟩, .string ⟨#[32]⟩] w fun e w' => ∃ v, e = .returned v ∧ RS w' v (sp l) ∧ Below w.heap.size w w' := by
  obtain ⟨m, hm⟩ := hE.maxlen
  refine (Tryz.strings_Split ⟨l.toArray⟩ ⟨#[32]⟩ m w (by rw [sz]; omega) hm (by decide)).mono ?_
  rintro e w' ⟨rfl, rfl⟩
  have hc : countB ⟨l.toArray⟩ ⟨#[32]⟩ = l.count 32 := count_one 32 l
  have hlen := sp_count l
  refine ⟨_, rfl, ⟨_, _, by rw [hc, hlen], by omega, fun j x hx => ⟨_, _, rfl, heap_alloc_new _ _, ?_⟩⟩, (Below.refl _ _).alloc (Nat.le_refl _) _⟩
  have hadd : (⟨w.heap.size, 0, none⟩ : Addr).add j = ⟨w.heap.size, j, none⟩ := by unfold Addr.add; split <;> simp_all
  rw [hadd, cell_of_row _ _ j _ _ _ (heap_alloc_new _ _), split_data]
  simp [hx]
theorem RS.below {w w' : World} {v : Value} {l : List Bs} (h : RS w v l) (hb : Below w.heap.size w w') : RS w' v l := by
  obtain ⟨A, c, e, hc, h⟩ := h
  refine ⟨A, c, e, hc, fun j x hx => ?_⟩
  obtain ⟨ad, cs, e2, h1, h2⟩ := h j x hx
  exact ⟨ad, cs, e2, (hb.block _ (Array.getElem?_eq_some_iff.1 h1).1).trans h1, cell_keep h2 hb⟩
end Go.Proofs.YtjklpikopgihgaaGreatDoor
