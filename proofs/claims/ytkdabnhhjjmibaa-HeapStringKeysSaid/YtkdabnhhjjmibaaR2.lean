/- The reference: Put, Drop. -/
import Derived.Test.YtkdabnhhjjmibaaR1
namespace Go.Proofs.Ytkdabnhhjjmibaa
open Go.RowKit Go.Lib Hp

theorem ecs_set1 {l : List (Int × KI)} {k : Nat} {a : Int × KI} (ha : l[k]? = some a) (z : KI) : (ecsI l).set (k * 2 + 1) (.int .i64 z) = ecsI (l.set k (a.1, z)) := by
  rw [← ecs_setI]
  congr 1
  have h := (ecs_atI ha).1
  apply List.ext_getElem?
  intro j
  rw [List.getElem?_set]
  by_cases e : k * 2 = j
  · subst e
    rw [if_pos rfl, if_pos (List.getElem?_eq_some_iff.1 h).1, h]
  · rw [if_neg e]

theorem set_key {w : World} {g cap : Nat} {x : List (Int × KI)} {w0 : World} (H : Fresh w0 w (.slice (some ⟨g, 0, none⟩) x.length cap) x) {k : Nat} {a : Int × KI} (ha : x[k]? = some a) (z : KI) :
    Fresh w0 (w.setCell ⟨g, k * 2 + 1, none⟩ (.int .i64 z)) (.slice (some ⟨g, 0, none⟩) x.length cap) (x.set k (a.1, z)) := by
  refine ⟨?_, H.2⟩
  have h1 := World.ownsRow.stored H.1 (k * 2 + 1) (.int .i64 z)
  have h2 := h1.1
  rw [ecs_set1 ha] at h2
  unfold Lines
  rw [List.length_set]
  exact h2

theorem rput_any (v : Value) (x : List (Int × KI)) (y : Int) (z : KI) (w : World) (H : Lines w v x) (hl : x.length ≤ 10000) : Calls Try.prog 12 #[v, .int .i64 y, .int .i64 z] w fun r w' => ∃ v', r = .returned v' ∧ Fresh w w' v' (rput x y z) ∧ Below w.heap.size w w' := by
  have hE : (w.alloc (.cells #[] 34)).ownsRow w.heap.size 34 2 (.slice (some ⟨w.heap.size, 0, none⟩) 0 0) 0 [] := World.ownsRow_lit w #[] 0 (Nat.le_refl _) (by unfold maxLen; omega) rfl
  have hb1 : Below w.heap.size w (w.alloc (.cells #[] 34)) := (Below.refl _ _).alloc (Nat.le_refl _) _
  have hR := (H.below hb1).reads
  have hsz : w.heap.size ≤ (w.alloc (.cells #[] 34)).heap.size := hb1.size
  have h63 : 0 + x.length ≤ 1000000 := by omega
  have H' := Lib.hid H
  clear H
  go_enter Try.func12, Try.ntmps12
  go_wp2_with (at_builtin; refine wpList_append_lines rfl _ _ rfl w.heap.size _ 0 [] rfl hE v x rfl hR h63 hsz ?_; intro v1 w1 hown hgr)
  have hF : Fresh w w1 v1 x := fresh_of (by simpa using hown) (by omega)
  have hB : Below w.heap.size w w1 := hb1.grown hgr hb1.size (fun k hk => by have h2 : some w.heap.size = some k := hk; injection h2 with h2; omega)
  clear hown hgr hR hE h63 hsz hb1
  generalize hW : w.heap.size = B at *
  have hF' := Lib.hid hF
  obtain ⟨A, cap, hv1⟩ := hF.1.form
  clear hF
  subst hv1
  go_loop [8] (fun i => ∃ k : Nat, i = .int .i64 k ∧ k ≤ x.length ∧ ∀ j b, j < k → x[j]? = some b → b.1 ≠ y) (fun i => x.length - (intOf i).toNat)
  case atStart => exact ⟨0, rfl, by omega, by intro j b h; omega⟩
  case round =>
    obtain ⟨k, rfl, hk, hno⟩ := hrel
    have hno' := Lib.hid hno
    clear hno
    by_cases hlt : k < x.length
    · obtain ⟨g, cap', e⟩ := hF'.out.1.form' (by omega)
      simp only [Value.slice.injEq, true_and] at e
      obtain ⟨rfl, rfl⟩ := e
      obtain ⟨a, ha⟩ : ∃ a, x[k]? = some a := ⟨_, List.getElem?_eq_getElem hlt⟩
      obtain ⟨p0, p1⟩ := hF'.out.1.cell ha
      have f1 := World.ownsRow.frozenAt hF'.out.1 (k * 2 + 1)
      have e1 : (k : Int) < (x.length : Int) := by omega
      have e2 : (0 : Int) ≤ (k : Int) := by omega
      by_cases hy : a.1 = y
      · have h1 : (a.1 == y) = true := by simpa using hy
        go_wp2
        go_ret
        obtain ⟨_, _, q3, _⟩ := rkey_at hno'.out ha hy
        have hs := set_key hF'.out ha z
        have hgl := hF'.out.2 g rfl
        rw [q3 z]
        rw [hy] at hs
        exact ⟨_, rfl, hs, hB.setCell (by show _ ≤ g; omega) _⟩
      · have h1 : (a.1 == y) = false := by simpa using hy
        go_wp2
        go_round
        case rel => exact ⟨k + 1, by go_num, by omega, fun j b hj hb => by
          by_cases e : j = k
          · subst e; rw [ha] at hb; injection hb with hb; subst hb; exact hy
          · exact hno'.out j b (by omega) hb⟩
        case measure => simp [intOf]; omega
    · obtain rfl : k = x.length := by omega
      have hm := Lib.hid (miss_of hno'.out)
      have hO := (World.ownsRow.alloc hF'.out.1 (.cells #[.int .i64 y, .int .i64 z] 34))
      have hR2 : Reads (w1.alloc (.cells #[.int .i64 y, .int .i64 z] 34)) (.slice (some ⟨w1.heap.size, 0, none⟩) 1 1) [(y, z)] := .inr ⟨⟨w1.heap.size, 0, none⟩, 1, rfl, World.news_of_block (heap_alloc_new w1 (.cells #[.int .i64 y, .int .i64 z] 34))⟩
      have h63 : x.length + [(y, z)].length ≤ 1000000 := by simp; omega
      have hO' := Lib.hid hO
      have hBs := hB.size
      clear hO
      go_wp2_with (at_builtin; refine wpList_append_lines rfl _ _ rfl B _ x.length (ecsI x) rfl (ownsRow_base hO'.out hF'.out.2 hW) _ [(y, z)] rfl hR2 h63 (by rw [World.size_alloc]; omega) ?_; intro v2 w2 hown hgr)
      go_ret
      rw [rput_miss hm.out]
      refine ⟨v2, rfl, ?_, ?_⟩
      · refine fresh_of (n := x.length + [(y, z)].length) ?_ (by simp)
        rw [hW, ecs_appendI]
        exact hown
      · refine (hB.alloc (by omega) _).grown hgr (by rw [World.size_alloc]; omega) (fun j hj => ?_)
        have := hF'.out.2 j hj
        omega
end Go.Proofs.Ytkdabnhhjjmibaa
