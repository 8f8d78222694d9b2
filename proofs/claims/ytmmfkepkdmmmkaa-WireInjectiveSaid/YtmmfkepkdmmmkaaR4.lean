/- The reference: Same. -/
import Derived.Test.YtmmfkepkdmmmkaaR3
set_option linter.unusedVariables false
namespace Go.Proofs.Ytmmfkepkdmmmkaa
open Go.RowKit Go.Lib Wr

theorem two_things (k n k' n' : Int) (b b' : Bool) (d d' : Bs) (u u' : Value) (w : World) : Below w.heap.size w ((w.alloc (.cells #[.int .i64 k, .int .i64 n, .bool b, .string ⟨d.toArray⟩, u] 33)).alloc (.cells #[.int .i64 k', .int .i64 n', .bool b', .string ⟨d'.toArray⟩, u'] 33)) :=
  ((Below.refl _ _).alloc (Nat.le_refl _) _).alloc (by simp) _

theorem same_k (k n k' n' : Int) (b b' : Bool) (d d' : Bs) (u u' : Value) (w : World) (h : k ≠ k') : Calls Try.prog 11 #[.agg #[.int .i64 k, .int .i64 n, .bool b, .string ⟨d.toArray⟩, u], .agg #[.int .i64 k', .int .i64 n', .bool b', .string ⟨d'.toArray⟩, u']] w fun r w' => r = .returned (.bool false) ∧ Below w.heap.size w w' := by
  have t1 : (k != k') = true := by simpa using h
  have hB := two_things k n k' n' b b' d d' u u' w
  go_enter Try.func11, Try.ntmps11
  go_wp2
  go_ret
  exact ⟨rfl, hB⟩
theorem same_n (k n n' : Int) (b b' : Bool) (d d' : Bs) (u u' : Value) (w : World) (h : n ≠ n') : Calls Try.prog 11 #[.agg #[.int .i64 k, .int .i64 n, .bool b, .string ⟨d.toArray⟩, u], .agg #[.int .i64 k, .int .i64 n', .bool b', .string ⟨d'.toArray⟩, u']] w fun r w' => r = .returned (.bool false) ∧ Below w.heap.size w w' := by
  have t1 : (n != n') = true := by simpa using h
  have hB := two_things k n k n' b b' d d' u u' w
  go_enter Try.func11, Try.ntmps11
  go_wp2
  go_ret
  exact ⟨rfl, hB⟩
theorem same_b (k n : Int) (b b' : Bool) (d d' : Bs) (u u' : Value) (w : World) (h : b ≠ b') : Calls Try.prog 11 #[.agg #[.int .i64 k, .int .i64 n, .bool b, .string ⟨d.toArray⟩, u], .agg #[.int .i64 k, .int .i64 n, .bool b', .string ⟨d'.toArray⟩, u']] w fun r w' => r = .returned (.bool false) ∧ Below w.heap.size w w' := by
  have hB := two_things k n k n b b' d d' u u' w
  cases b <;> cases b' <;> first | exact absurd rfl h | (go_enter Try.func11, Try.ntmps11; go_wp2; go_ret; exact ⟨rfl, hB⟩)
theorem same_d (k n : Int) (b : Bool) (d d' : Bs) (u u' : Value) (w : World) (h : d ≠ d') : Calls Try.prog 11 #[.agg #[.int .i64 k, .int .i64 n, .bool b, .string ⟨d.toArray⟩, u], .agg #[.int .i64 k, .int .i64 n, .bool b, .string ⟨d'.toArray⟩, u']] w fun r w' => r = .returned (.bool false) ∧ Below w.heap.size w w' := by
  have t1 : (d != d') = true := by simpa using h
  have t2 : (d == d') = false := by simpa using h
  have hB := two_things k n k n b b d d' u u' w
  cases b <;> (go_enter Try.func11, Try.ntmps11; go_wp2; go_ret; exact ⟨rfl, hB⟩)
theorem same_len (k n : Int) (b : Bool) (d : Bs) (A A' : Option Addr) (m m' c c' : Nat) (w : World) (h : m ≠ m') : Calls Try.prog 11 #[.agg #[.int .i64 k, .int .i64 n, .bool b, .string ⟨d.toArray⟩, .slice A m c], .agg #[.int .i64 k, .int .i64 n, .bool b, .string ⟨d.toArray⟩, .slice A' m' c']] w fun r w' => r = .returned (.bool false) ∧ Below w.heap.size w w' := by
  have t1 : ((m : Int) != (m' : Int)) = true := by simp; omega
  have t2 : (m != m') = true := by simpa using h
  have hB := two_things k n k n b b d d (.slice A m c) (.slice A' m' c') w
  cases b <;> (go_enter Try.func11, Try.ntmps11; go_wp2; go_ret; exact ⟨rfl, hB⟩)

theorem same_l (k n : Int) (b : Bool) (d : Bs) (u u' : Value) (l l' : List Int) (w : World) (hu : RN w u l) (hu' : RN w u' l') (hl : l.length = l'.length) (h10 : l.length ≤ 1000000) : Calls Try.prog 11 #[.agg #[.int .i64 k, .int .i64 n, .bool b, .string ⟨d.toArray⟩, u], .agg #[.int .i64 k, .int .i64 n, .bool b, .string ⟨d.toArray⟩, u']] w fun r w' => r = .returned (.bool (decide (l = l'))) ∧ Below w.heap.size w w' := by
  obtain ⟨A, c, rfl⟩ := hu.form
  obtain ⟨A', c', rfl⟩ := hu'.form
  have hB := two_things k n k n b b d d (.slice A l.length c) (.slice A' l'.length c') w
  have hT1 := (thAt_new w ⟨k, n, b, d, []⟩ (.slice A l.length c)).2.2.2.2
  have hT2 := (thAt_new (w.alloc (.cells #[.int .i64 k, .int .i64 n, .bool b, .string ⟨d.toArray⟩, .slice A l.length c] 33)) ⟨k, n, b, d, []⟩ (.slice A' l'.length c')).2.2.2.2
  have c1 : ((w.alloc (.cells #[.int .i64 k, .int .i64 n, .bool b, .string ⟨d.toArray⟩, .slice A l.length c] 33)).alloc (.cells #[.int .i64 k, .int .i64 n, .bool b, .string ⟨d.toArray⟩, .slice A' l'.length c'] 33)).cell? ⟨w.heap.size, 4, none⟩ = some (.slice A l.length c) := cell_keep hT1 ((Below.refl _ _).alloc (Nat.le_refl _) (.cells #[.int .i64 k, .int .i64 n, .bool b, .string ⟨d.toArray⟩, .slice A' l'.length c'] 33))
  have c2 : ((w.alloc (.cells #[.int .i64 k, .int .i64 n, .bool b, .string ⟨d.toArray⟩, .slice A l.length c] 33)).alloc (.cells #[.int .i64 k, .int .i64 n, .bool b, .string ⟨d.toArray⟩, .slice A' l'.length c'] 33)).cell? ⟨w.heap.size + 1, 4, none⟩ = some (.slice A' l'.length c') := by rw [World.size_alloc] at hT2; exact hT2
  have g1 : ∀ w', Below w.heap.size w w' → ∀ (j : Nat) (z : Int), l[j]? = some z → ∃ ad, A = some ad ∧ w'.cell? (ad.add j) = some (.int .i64 z) := fun w' h j z hz => (hu.below h).at_ hz
  have g2 : ∀ w', Below w.heap.size w w' → ∀ (j : Nat) (z : Int), l'[j]? = some z → ∃ ad, A' = some ad ∧ w'.cell? (ad.add j) = some (.int .i64 z) := fun w' h j z hz => (hu'.below h).at_ hz
  have g1 := Lib.hid g1
  have g2 := Lib.hid g2
  clear hu hu' hT1 hT2
  rw [← hl] at hB c1 c2 ⊢
  have hlh := Lib.hid hl
  clear hl
  go_enter Try.func11, Try.ntmps11
  cases b
  · go_wp2_with fail
    generalize (w.alloc (.cells #[.int .i64 k, .int .i64 n, .bool false, .string ⟨d.toArray⟩, .slice A l.length c] 33)).alloc (.cells #[.int .i64 k, .int .i64 n, .bool false, .string ⟨d.toArray⟩, .slice A' l.length c'] 33) = W at hB c1 c2 ⊢
    have k1 : ∀ w', Below W.heap.size W w' → w'.cell? ⟨w.heap.size, 4, none⟩ = some (.slice A l.length c) := fun w' h => cell_keep c1 h
    have k2 : ∀ w', Below W.heap.size W w' → w'.cell? ⟨w.heap.size + 1, 4, none⟩ = some (.slice A' l.length c') := fun w' h => cell_keep c2 h
    have k1 := Lib.hid k1
    have k2 := Lib.hid k2
    clear c1 c2
    go_loopw [5] (fun i w' => ∃ k : Nat, i = .int .i64 (k : Int) ∧ k ≤ l.length ∧ l.take k = l'.take k ∧ Below W.heap.size W w') (fun i _ => l.length - (intOf i).toNat)
    case atStart => exact ⟨0, rfl, by omega, by simp, Below.refl _ _⟩
    case round =>
      obtain ⟨j, rfl, hj, heq, hB2⟩ := hrel
      have c1 := k1.out wr hB2
      have c2 := k2.out wr hB2
      by_cases hlt : j < l.length
      · obtain ⟨z, hz⟩ : ∃ z, l[j]? = some z := ⟨_, List.getElem?_eq_getElem hlt⟩
        obtain ⟨z', hz'⟩ : ∃ z', l'[j]? = some z' := ⟨_, List.getElem?_eq_getElem (by rw [← hlh.out]; exact hlt)⟩
        obtain ⟨ad, rfl, d1⟩ := g1.out wr (then_ hB hB2) j z hz
        obtain ⟨ad', rfl, d2⟩ := g2.out wr (then_ hB hB2) j z' hz'
        have e1 : (j : Int) < (l.length : Int) := by omega
        have e2 : (0 : Int) ≤ (j : Int) := by omega
        by_cases hzz : z = z'
        · subst hzz
          have hn : l.take (j + 1) = l'.take (j + 1) := by rw [List.take_add_one, List.take_add_one, heq, hz, hz']
          have hn := Lib.hid hn
          clear heq hz hz'
          go_wp2_with fail
          go_quiet (fail)
          go_wp2
          go_roundw
          case rel => exact ⟨j + 1, by go_num, by omega, hn.out, below_drewN hB2 _⟩
          case measure => simp [intOf]; omega
        · have t1 : (z != z') = true := by simpa using hzz
          have hne : l ≠ l' := by rintro rfl; rw [hz] at hz'; injection hz' with hz'; exact hzz hz'
          have hr := Lib.hid (decide_eq_false hne)
          clear heq hz hz' hne
          go_wp2_with fail
          go_quiet (fail)
          go_wp2
          go_ret
          exact ⟨ret_b hr.out.symm, hB.trans ((below_drewN hB2 _).mono hB.size)⟩
      · obtain rfl : j = l.length := by omega
        have hr : decide (l = l') = true := by
          have h2 := hlh.out
          rw [List.take_length, h2, List.take_length] at heq
          exact decide_eq_true heq
        have hr := Lib.hid hr
        clear heq
        go_wp2
        go_ret
        exact ⟨ret_b hr.out.symm, hB.trans (hB2.mono hB.size)⟩
  · go_wp2_with fail
    generalize (w.alloc (.cells #[.int .i64 k, .int .i64 n, .bool true, .string ⟨d.toArray⟩, .slice A l.length c] 33)).alloc (.cells #[.int .i64 k, .int .i64 n, .bool true, .string ⟨d.toArray⟩, .slice A' l.length c'] 33) = W at hB c1 c2 ⊢
    have k1 : ∀ w', Below W.heap.size W w' → w'.cell? ⟨w.heap.size, 4, none⟩ = some (.slice A l.length c) := fun w' h => cell_keep c1 h
    have k2 : ∀ w', Below W.heap.size W w' → w'.cell? ⟨w.heap.size + 1, 4, none⟩ = some (.slice A' l.length c') := fun w' h => cell_keep c2 h
    have k1 := Lib.hid k1
    have k2 := Lib.hid k2
    clear c1 c2
    go_loopw [5] (fun i w' => ∃ k : Nat, i = .int .i64 (k : Int) ∧ k ≤ l.length ∧ l.take k = l'.take k ∧ Below W.heap.size W w') (fun i _ => l.length - (intOf i).toNat)
    case atStart => exact ⟨0, rfl, by omega, by simp, Below.refl _ _⟩
    case round =>
      obtain ⟨j, rfl, hj, heq, hB2⟩ := hrel
      have c1 := k1.out wr hB2
      have c2 := k2.out wr hB2
      by_cases hlt : j < l.length
      · obtain ⟨z, hz⟩ : ∃ z, l[j]? = some z := ⟨_, List.getElem?_eq_getElem hlt⟩
        obtain ⟨z', hz'⟩ : ∃ z', l'[j]? = some z' := ⟨_, List.getElem?_eq_getElem (by rw [← hlh.out]; exact hlt)⟩
        obtain ⟨ad, rfl, d1⟩ := g1.out wr (then_ hB hB2) j z hz
        obtain ⟨ad', rfl, d2⟩ := g2.out wr (then_ hB hB2) j z' hz'
        have e1 : (j : Int) < (l.length : Int) := by omega
        have e2 : (0 : Int) ≤ (j : Int) := by omega
        by_cases hzz : z = z'
        · subst hzz
          have hn : l.take (j + 1) = l'.take (j + 1) := by rw [List.take_add_one, List.take_add_one, heq, hz, hz']
          have hn := Lib.hid hn
          clear heq hz hz'
          go_wp2_with fail
          go_quiet (fail)
          go_wp2
          go_roundw
          case rel => exact ⟨j + 1, by go_num, by omega, hn.out, below_drewN hB2 _⟩
          case measure => simp [intOf]; omega
        · have t1 : (z != z') = true := by simpa using hzz
          have hne : l ≠ l' := by rintro rfl; rw [hz] at hz'; injection hz' with hz'; exact hzz hz'
          have hr := Lib.hid (decide_eq_false hne)
          clear heq hz hz' hne
          go_wp2_with fail
          go_quiet (fail)
          go_wp2
          go_ret
          exact ⟨ret_b hr.out.symm, hB.trans ((below_drewN hB2 _).mono hB.size)⟩
      · obtain rfl : j = l.length := by omega
        have hr : decide (l = l') = true := by
          have h2 := hlh.out
          rw [List.take_length, h2, List.take_length] at heq
          exact decide_eq_true heq
        have hr := Lib.hid hr
        clear heq
        go_wp2
        go_ret
        exact ⟨ret_b hr.out.symm, hB.trans (hB2.mono hB.size)⟩

/-- Same. -/
theorem rsame_any (t t' : Th) (v v' : Value) (w : World) (h : ThV w v t) (h' : ThV w v' t') (h10 : t.l.length ≤ 1000000) : Calls Try.prog 11 #[v, v'] w fun r w' => r = .returned (.bool (decide (t = t'))) ∧ Below w.heap.size w w' := by
  obtain ⟨u, rfl, hu⟩ := h
  obtain ⟨u', rfl, hu'⟩ := h'
  obtain ⟨k, n, b, d, l⟩ := t
  obtain ⟨k', n', b', d', l'⟩ := t'
  simp only at hu hu' h10 ⊢
  by_cases e1 : k = k'
  · subst e1
    by_cases e2 : n = n'
    · subst e2
      by_cases e3 : b = b'
      · subst e3
        by_cases e4 : d = d'
        · subst e4
          by_cases e5 : l.length = l'.length
          · rw [show decide ((⟨k, n, b, d, l⟩ : Th) = ⟨k, n, b, d, l'⟩) = decide (l = l') from by simp]
            exact same_l k n b d u u' l l' w hu hu' e5 h10
          · rw [show decide ((⟨k, n, b, d, l⟩ : Th) = ⟨k, n, b, d, l'⟩) = false from by simp; rintro rfl; exact e5 rfl]
            obtain ⟨A, c, rfl⟩ := hu.form
            obtain ⟨A', c', rfl⟩ := hu'.form
            exact same_len k n b d A A' _ _ c c' w e5
        · rw [show decide ((⟨k, n, b, d, l⟩ : Th) = ⟨k, n, b, d', l'⟩) = false from by simp [e4]]
          exact same_d k n b d d' u u' w e4
      · rw [show decide ((⟨k, n, b, d, l⟩ : Th) = ⟨k, n, b', d', l'⟩) = false from by simp [e3]]
        exact same_b k n b b' d d' u u' w e3
    · rw [show decide ((⟨k, n, b, d, l⟩ : Th) = ⟨k, n', b', d', l'⟩) = false from by simp [e2]]
      exact same_n k n n' b b' d d' u u' w e2
  · rw [show decide ((⟨k, n, b, d, l⟩ : Th) = ⟨k', n', b', d', l'⟩) = false from by simp [e1]]
    exact same_k k n k' n' b b' d d' u u' w e1
end Go.Proofs.Ytmmfkepkdmmmkaa
