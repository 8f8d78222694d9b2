/- The reference: Drop. -/
import Derived.Test.YtkdabnhhjjmibaaR2
namespace Go.Proofs.Ytkdabnhhjjmibaa
open Go.RowKit Go.Lib Hp

theorem ecs_drop (l : List (Int × KI)) (k : Nat) : (ecsI l).drop (k * 2) = ecsI (l.drop k) := by
  induction l generalizing k with
  | nil => simp [ecsI]
  | cons b l ih =>
    cases k with
    | zero => rfl
    | succ k => rw [show (k + 1) * 2 = k * 2 + 1 + 1 by omega, List.drop_succ_cons, ecs_consI, List.drop_succ_cons, List.drop_succ_cons, ih]

theorem add_at (g o j : Nat) : (⟨g, o, none⟩ : Addr).add j = ⟨g, o + j, none⟩ := by unfold Addr.add; split <;> simp_all

theorem reads_take {w : World} {g cap : Nat} {x : List (Int × KI)} (H : Lines w (.slice (some ⟨g, 0, none⟩) x.length cap) x) {k : Nat} (hk : k ≤ x.length) (c : Nat) : Reads w (.slice (some ⟨g, 0, none⟩) k c) (x.take k) := by
  have hl : (x.take k).length = k := by simp; omega
  refine .inr ⟨⟨g, 0, none⟩, c, by rw [hl], fun j u hu => ?_⟩
  rw [← ecs_takeI, List.getElem?_take] at hu
  split at hu
  · rename_i hj
    rw [add_at, Nat.zero_add, World.ownsRow.cellAt H j (by omega)]; exact hu
  · cases hu
theorem reads_drop {w : World} {g cap : Nat} {x : List (Int × KI)} (H : Lines w (.slice (some ⟨g, 0, none⟩) x.length cap) x) {k : Nat} (hk : k ≤ x.length) (hc : x.length ≤ cap) (c : Nat) : Reads w (.slice (if cap = k then some ⟨g, 0, none⟩ else some ⟨g, k * 2, none⟩) (x.length - k) c) (x.drop k) := by
  have hl : (x.drop k).length = x.length - k := by simp
  by_cases e : cap = k
  · rw [if_pos e]
    refine .inr ⟨⟨g, 0, none⟩, c, by rw [hl], fun j u hu => ?_⟩
    rw [List.drop_of_length_le (by omega)] at hu
    simp [ecsI] at hu
  · rw [if_neg e]
    refine .inr ⟨⟨g, k * 2, none⟩, c, by rw [hl], fun j u hu => ?_⟩
    rw [← ecs_drop, List.getElem?_drop] at hu
    have hj := (List.getElem?_eq_some_iff.1 hu).1
    rw [ecs_lengthI] at hj
    rw [add_at, World.ownsRow.cellAt H _ hj]; exact hu

theorem rdrop_any (v : Value) (x : List (Int × KI)) (y : Int) (w : World) (H : Lines w v x) (hl : x.length ≤ 10000) : Calls Try.prog 15 #[v, .int .i64 y] w fun r w' => ∃ v', r = .returned (.tuple #[v', .bool (rhas x y)]) ∧ Lines w' v' (rdrop x y) ∧ (∀ g, v'.ownBlock = some g → v.ownBlock = some g ∨ w.heap.size ≤ g) ∧ Below w.heap.size w w' := by
  obtain ⟨A, cap, rfl⟩ := H.form
  go_enter Try.func15, Try.ntmps15
  go_wp2
  go_loop [6] (fun i => ∃ k : Nat, i = .int .i64 k ∧ k ≤ x.length ∧ ∀ j b, j < k → x[j]? = some b → b.1 ≠ y) (fun i => x.length - (intOf i).toNat)
  case atStart => exact ⟨0, rfl, by omega, by intro j b h; omega⟩
  case round =>
    obtain ⟨k, rfl, hk, hno⟩ := hrel
    have hno' := Lib.hid hno
    clear hno
    by_cases hlt : k < x.length
    · obtain ⟨g, cap', e⟩ := H.form' (by omega)
      simp only [Value.slice.injEq, true_and] at e
      obtain ⟨rfl, rfl⟩ := e
      obtain ⟨a, ha⟩ : ∃ a, x[k]? = some a := ⟨_, List.getElem?_eq_getElem hlt⟩
      obtain ⟨p0, p1⟩ := H.cell ha
      have e1 : (k : Int) < (x.length : Int) := by omega
      have e2 : (0 : Int) ≤ (k : Int) := by omega
      by_cases hy : a.1 = y
      · have h1 : (a.1 == y) = true := by simpa using hy
        obtain ⟨_, q2', _, q4'⟩ := rkey_at hno'.out ha hy
        have q2 := Lib.hid q2'
        have q4 := Lib.hid q4'
        clear q2' q4'
        obtain ⟨k1, hk1⟩ : ∃ k1, k + 1 = k1 := ⟨_, rfl⟩
        have e3 : IntKind.i64.wrap ((k : Int) + 1) = (k1 : Int) := by rw [IntKind.wrap_i64]; omega
        have e4 : (k1 : Int) ≤ (x.length : Int) := by omega
        have e5 : (0 : Int) ≤ (k1 : Int) := by omega
        have hcapx : x.length ≤ cap := by
          rcases H.2 with ⟨h, _⟩ | ⟨g', cap', cur, h, _, _, h2, _⟩
          · cases h
          · simp only [Value.slice.injEq, Option.some.injEq, Addr.mk.injEq, and_true, true_and] at h; omega
        have e6 : (k : Int) ≤ (cap : Int) := by omega
        have e7 : (x.length : Int) ≤ (cap : Int) := by omega
        have hb1 : Below w.heap.size w (w.alloc (.cells #[] 34)) := (Below.refl _ _).alloc (Nat.le_refl _) _
        have hE : (w.alloc (.cells #[] 34)).ownsRow w.heap.size 34 2 (.slice (some ⟨w.heap.size, 0, none⟩) 0 0) 0 [] := World.ownsRow_lit w #[] 0 (Nat.le_refl _) (by unfold maxLen; omega) rfl
        have hR1 : Reads (w.alloc (.cells #[] 34)) (.slice (some ⟨g, 0, none⟩) k cap) (x.take k) := reads_take (H.below hb1) (by omega) cap
        have hl1 : 0 + (x.take k).length ≤ 1000000 := by simp; omega
        have hl2 : 0 + (x.take k).length + (x.drop k1).length ≤ 1000000 := by simp; omega
        have hbs := hb1.size
        have hR2 : ∀ W, Below w.heap.size w W → Reads W (.slice (if cap = k1 then some ⟨g, 0, none⟩ else some ⟨g, k1 * 2, none⟩) (x.length - k1) (cap - k1)) (x.drop k1) := fun W hW => reads_drop (H.below hW) (by omega) hcapx _
        have hR2 := Lib.hid hR2
        have hbg : ∀ W, (w.alloc (.cells #[] 34)).drew.grownBy W (some w.heap.size) → Below w.heap.size w W := fun W hg => hb1.drew.grown hg hb1.size (fun j hj => by injection hj with hj; omega)
        have hbg := Lib.hid hbg
        have H' := Lib.hid H
        clear H hb1 p1 ha hno'
        go_wp2
        go_region_law (first
          | (refine step_append_lines rfl _ _ rfl w.heap.size (.slice (some ⟨w.heap.size, 0, none⟩) 0 0) 0 [] rfl hE (.slice (some ⟨g, 0, none⟩) k cap) (x.take k) rfl hR1 hl1 hbs ?_; intro v1 w1 ho1 hg1)
          | (refine step_append_lines rfl _ _ rfl w.heap.size v1 (0 + (x.take k).length) ([] ++ ecsI (x.take k)) rfl ho1 (.slice (if cap = k1 then some ⟨g, 0, none⟩ else some ⟨g, k1 * 2, none⟩) (x.length - k1) (cap - k1)) (x.drop k1) rfl (hR2.out w1 (hbg.out w1 hg1)) hl2 (hbg.out w1 hg1).size ?_; intro v2 w2 ho2 hg2))
        have hB1 := hbg.out w1 hg1
        have hB2 : Below w.heap.size w w2 := hB1.grown hg2 hB1.size (fun j hj => (ho1.lt j hj).1)
        have hq : [] ++ ecsI (x.take k) ++ ecsI (x.drop k1) = ecsI (rdrop x y) := by rw [q4.out, ecs_appendI, List.nil_append, hk1]
        have hn : 0 + (x.take k).length + (x.drop k1).length = (rdrop x y).length := by rw [q4.out, List.length_append, hk1]; omega
        rw [hq] at ho2
        have hF := fresh_of ho2 hn
        clear hg1 hg2 ho1 ho2 hR1 hE hB1 p0
        clear hq hn
        go_wp2
        all_goals (go_ret2; rw [q2.out]; exact ⟨v2, rfl, hF.1, fun g hg => .inr (hF.2 g hg), hB2⟩)
      · have h1 : (a.1 == y) = false := by simpa using hy
        go_wp2
        go_round
        case rel => exact ⟨k + 1, by go_num, by omega, fun j b hj hb => by
          by_cases e : j = k
          · subst e; rw [ha] at hb; injection hb with hb; subst hb; exact hy
          · exact hno'.out j b (by omega) hb⟩
        case measure => simp [intOf]; omega
    · obtain rfl : k = x.length := by omega
      have hm := Lib.hid (miss_of hno'.out)
      go_wp2
      go_ret2
      rw [rdrop_none hm.out, hm.out]
      exact ⟨_, rfl, H, fun g hg => .inl hg, Below.refl _ _⟩
end Go.Proofs.Ytkdabnhhjjmibaa
