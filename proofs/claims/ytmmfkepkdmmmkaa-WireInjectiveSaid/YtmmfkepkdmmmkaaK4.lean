/- The code: length, Bool, Bytes, String, Finish. -/
import Derived.Test.YtmmfkepkdmmmkaaK3
set_option linter.unusedVariables false
set_option linter.unusedSimpArgs false
namespace Go.Proofs.Ytmmfkepkdmmmkaa
open Go.RowKit Go.Lib Wr

theorem rdInt_dead_zero {s : St} {x : Int} {e : Nat} (h : rdInt s = (x, .dead e)) : x = 0 := by
  cases s with
  | dead e' => simp only [rdInt] at h; injection h with h1 h2; exact h1.symm
  | live b =>
    simp only [rdInt] at h
    split at h
    · injection h with h1 h2; cases h2
    · injection h with h1 h2; exact h1.symm
theorem rdInt_i64 {s : St} {x : Int} {r : Bs} (h : rdInt s = (x, .live r)) : I64 x := by
  cases s with
  | dead e' => simp only [rdInt] at h; injection h with h1 h2; cases h2
  | live b => exact (rdInt_inv h).2

theorem length_any (g lo hi : Nat) (s : St) (w : World) (H : RdP w g lo hi s) (hf : s.Few 100000) : Calls Try.prog 41 #[.pointer (some ⟨g, 0, none⟩)] w fun r w' => r = .returned (.int .i64 ((rdMany s).1 : Nat)) ∧ RdP w' g lo hi (rdMany s).2 ∧ Chg (Iv lo hi) w w' := by
  obtain ⟨x, s1, hx⟩ : ∃ x s1, rdInt s = (x, s1) := ⟨_, _, rfl⟩
  have hf1 := rdInt_few hf
  rw [hx] at hf1
  simp only at hf1
  have hx' := Lib.hid hx
  clear hx
  go_enter Try.func41, Try.ntmps41
  go_wp2_with fail
  refine (cint_any g lo hi s w H hf).mono ?_
  rintro r w1 ⟨rfl, H1, k1⟩
  rw [hx'.out] at H1 ⊢
  simp only at H1 ⊢
  have H1' := Lib.hid H1
  cases s1 with
  | dead e =>
    obtain rfl := rdInt_dead_zero hx'.out
    have hmm := Lib.hid (show rdMany s = (0, .dead e) from by unfold rdMany; rw [hx'.out])
    obtain ⟨v, e', h1, _, _, _, rfl, h0, rfl⟩ := H1
    obtain ⟨c0, c1, f0, f1⟩ := two_cells h1
    clear h1
    go_wp2
    go_ret
    rw [hmm.out]
    exact ⟨rfl, H1'.out, k1⟩
  | live r =>
    have h64 := rdInt_i64 hx'.out
    obtain ⟨h641, h642⟩ := h64
    have hrl : r.length ≤ 100000 := hf1
    by_cases hn : x < 0
    · have hmm := Lib.hid (show rdMany s = (0, .dead 2) from by unfold rdMany; rw [hx'.out]; simp only; rw [if_pos hn])
      clear H1
      go_wp2_with fail
      refine (fail_live g lo hi r 2 w1 H1'.out (by decide) (by decide)).mono ?_
      rintro r2 w2 ⟨⟨u2, rfl⟩, H2, k2⟩
      have H2' := Lib.hid H2
      clear H2
      go_wp2
      go_ret
      rw [hmm.out]
      exact ⟨rfl, H2'.out, k1.trans k2 fun _ _ h => h⟩
    · obtain ⟨m, rfl⟩ : ∃ m : Nat, x = (m : Int) := ⟨x.toNat, by omega⟩
      obtain ⟨v, e', h1, _, _, _, rfl, hR, _⟩ := H1
      obtain ⟨c0, c1, f0, f1⟩ := two_cells h1
      obtain ⟨A, cap, rfl⟩ := hR.form
      clear h1 hR
      by_cases hl : (r.length : Int) < (m : Int)
      · have hmm := Lib.hid (show rdMany s = (0, .dead 11) from by unfold rdMany; rw [hx'.out]; simp only; rw [if_neg hn, if_pos hl])
        go_wp2_with fail
        refine (fail_live g lo hi r 11 w1 H1'.out (by decide) (by decide)).mono ?_
        rintro r2 w2 ⟨⟨u2, rfl⟩, H2, k2⟩
        have H2' := Lib.hid H2
        clear H2
        go_wp2
        go_ret
        rw [hmm.out]
        exact ⟨rfl, H2'.out, k1.trans k2 fun _ _ h => h⟩
      · have hmm := Lib.hid (show rdMany s = (m, .live r) from by unfold rdMany; rw [hx'.out]; simp only; rw [if_neg hn, if_neg hl]; simp)
        go_wp2
        go_ret
        rw [hmm.out]
        exact ⟨rfl, H1'.out, k1⟩

/-- A length that was read fits. -/
theorem rdMany_fits {s s1 : St} {n : Nat} (h : rdMany s = (n, s1)) : (∀ r, s1 = .live r → n ≤ r.length) ∧ (∀ e, s1 = .dead e → n = 0) := by
  unfold rdMany at h
  split at h
  · injection h with h1 h2; subst h1 h2; exact ⟨fun r h => (by cases h), fun _ _ => rfl⟩
  · split at h
    · injection h with h1 h2; subst h1 h2; exact ⟨fun r h => (by cases h), fun _ _ => rfl⟩
    · split at h
      · injection h with h1 h2; subst h1 h2; exact ⟨fun r h => (by cases h), fun _ _ => rfl⟩
      · injection h with h1 h2; subst h1 h2; exact ⟨fun r h => (by injection h with h; subst h; omega), fun e h => (by cases h)⟩

/-- take(length()). -/
theorem take_any (g lo hi : Nat) (s s1 : St) (n : Nat) (w : World) (hm : rdMany s = (n, s1)) (H : RdP w g lo hi s1) (hf : s1.Few 100000) : Calls Try.prog 39 #[.pointer (some ⟨g, 0, none⟩), .int .i64 (n : Int)] w fun r w' => ∃ v, r = .returned v ∧ RB w' v (rdBytes s).1 ∧ RdP w' g lo hi (rdBytes s).2 ∧ Chg (Iv lo hi) w w' := by
  obtain ⟨h1, h2⟩ := rdMany_fits hm
  cases s1 with
  | dead e =>
    obtain rfl := h2 e rfl
    have hb : rdBytes s = ([], .dead e) := by unfold rdBytes; rw [hm]
    rw [hb]
    refine (take_dead g lo hi e w H).mono ?_
    rintro r w' ⟨rfl, H1, k1⟩
    exact ⟨_, rfl, RB.nil _, H1, k1⟩
  | live r =>
    have hb : rdBytes s = (r.take n, .live (r.drop n)) := by unfold rdBytes; rw [hm]
    rw [hb]
    exact take_live g lo hi r n w H (h1 r rfl) hf

theorem cbytes_any (g lo hi : Nat) (s : St) (w : World) (H : RdP w g lo hi s) (hf : s.Few 100000) : Calls Try.prog 32 #[.pointer (some ⟨g, 0, none⟩)] w fun r w' => ∃ v, r = .returned v ∧ OwnB w' w.heap.size v (rdBytes s).1 ∧ RdP w' g lo hi (rdBytes s).2 ∧ Chg (Iv lo hi) w w' := by
  obtain ⟨n, s1, hm⟩ : ∃ n s1, rdMany s = (n, s1) := ⟨_, _, rfl⟩
  have hf1 := (rdMany_few hf).1
  rw [hm] at hf1
  have hfb := (rdBytes_few hf).2
  have hm' := Lib.hid hm
  clear hm
  go_enter Try.func32, Try.ntmps32
  go_wp2_with fail
  refine (length_any g lo hi s w H hf).mono ?_
  rintro r w1 ⟨rfl, H1, k1⟩
  rw [hm'.out] at H1 ⊢
  simp only at H1 ⊢
  go_wp2_with fail
  refine (take_any g lo hi s s1 n w1 hm'.out H1 hf1).mono ?_
  rintro r w2 ⟨v, rfl, R2, H2, k2⟩
  have H2' := Lib.hid H2
  have R2' := Lib.hid R2
  clear H2 R2 H1
  go_wp2_with fail
  refine (copyOf_any v _ w2 R2'.out (by omega)).mono ?_
  rintro r w3 ⟨v3, rfl, O3, b3⟩
  have O3' := Lib.hid O3
  clear O3
  go_wp2
  go_ret
  exact ⟨_, rfl, O3'.out.mono (Nat.le_trans k1.size k2.size), H2'.out.below b3, (k1.trans k2 fun _ _ h => h).then b3⟩

theorem cstring_any (g lo hi : Nat) (s : St) (w : World) (H : RdP w g lo hi s) (hf : s.Few 100000) : Calls Try.prog 29 #[.pointer (some ⟨g, 0, none⟩)] w fun r w' => r = .returned (.string ⟨(rdBytes s).1.toArray⟩) ∧ RdP w' g lo hi (rdBytes s).2 ∧ Chg (Iv lo hi) w w' := by
  obtain ⟨n, s1, hm⟩ : ∃ n s1, rdMany s = (n, s1) := ⟨_, _, rfl⟩
  have hf1 := (rdMany_few hf).1
  rw [hm] at hf1
  have hm' := Lib.hid hm
  clear hm
  obtain ⟨l, hl⟩ : ∃ l, (rdBytes s).1 = l := ⟨_, rfl⟩
  have hl' := Lib.hid hl
  rw [hl]
  clear hl
  go_enter Try.func29, Try.ntmps29
  go_wp2_with fail
  refine (length_any g lo hi s w H hf).mono ?_
  rintro r w1 ⟨rfl, H1, k1⟩
  rw [hm'.out] at H1 ⊢
  simp only at H1 ⊢
  go_wp2_with fail
  refine (take_any g lo hi s s1 n w1 hm'.out H1 hf1).mono ?_
  rintro r w2 ⟨v, rfl, R2, H2, k2⟩
  rw [hl'.out] at R2
  have H2' := Lib.hid H2
  have R2' := Lib.hid R2
  clear H2 R2 H1
  go_wp2_with (refine wpList_conv rfl _ rfl v l rfl R2'.out ?_)
  go_ret
  exact ⟨rfl, H2'.out, k1.trans k2 fun _ _ h => h⟩

theorem cbool_any (g lo hi : Nat) (s : St) (w : World) (H : RdP w g lo hi s) (hf : s.Few 100000) : Calls Try.prog 28 #[.pointer (some ⟨g, 0, none⟩)] w fun r w' => r = .returned (.bool (rdBool s).1) ∧ RdP w' g lo hi (rdBool s).2 ∧ Chg (Iv lo hi) w w' := by
  have H' := Lib.hid H
  cases s with
  | dead e =>
    obtain ⟨v, e', h1, _, _, _, rfl, h0, rfl⟩ := H
    obtain ⟨c0, c1, f0, f1⟩ := two_cells h1
    clear h1
    go_enter Try.func28, Try.ntmps28
    go_wp2_with fail
    refine (fail_dead g lo hi e 11 w H'.out).mono ?_
    rintro r w1 ⟨⟨u1, rfl⟩, H1, k1⟩
    have H1' := Lib.hid H1
    clear H1
    go_wp2
    go_ret
    exact ⟨rfl, H1'.out, k1⟩
  | live b =>
    obtain ⟨v, e', h1, _, _, _, rfl, hR, _⟩ := H
    obtain ⟨A, cap, rfl⟩ := hR.form
    obtain ⟨c0, c1, f0, f1⟩ := two_cells h1
    clear h1 hR
    cases b with
    | nil =>
      go_enter Try.func28, Try.ntmps28
      go_wp2_with fail
      refine (fail_live g lo hi [] 11 w H'.out (by decide) (by decide)).mono ?_
      rintro r w1 ⟨⟨u1, rfl⟩, H1, k1⟩
      have H1' := Lib.hid H1
      clear H1
      go_wp2
      go_ret
      exact ⟨rfl, H1'.out, k1⟩
    | cons c r =>
      have hlen : (c :: r).length ≤ 100000 := hf
      have ht := take_live g lo hi (c :: r) 1 w H'.out (by simp) hlen
      have ht := Lib.hid ht
      have t0 : (((c :: r).length : Int) == 0) = false := by simp; omega
      obtain ⟨L, hL⟩ : ∃ L, (c :: r).length = L := ⟨_, rfl⟩
      rw [hL] at c0 t0
      clear hL hlen
      go_enter Try.func28, Try.ntmps28
      go_wp2_with fail
      refine ht.out.mono ?_
      rintro r1 w1 ⟨v1, rfl, R1, H1, k1⟩
      have R1c : RB w1 v1 [c] := R1
      obtain ⟨A1, cap1, rfl⟩ := R1c.form
      obtain ⟨ad, rfl, d0⟩ := R1c.at_ (j := 0) (b := c) rfl
      rw [add_zero'] at d0
      have H1c : RdP w1 g lo hi (.live r) := H1
      have H1' := Lib.hid H1c
      clear H1 R1 R1c H1c ht
      have hcl := c.toNat_lt
      by_cases h1 : 1 < c.toNat
      · have t1 : (1 : Int) < (c.toNat : Int) := by omega
        have hx := Lib.hid (show rdBool (.live (c :: r)) = (false, .dead 2) from by simp only [rdBool]; rw [if_pos h1])
        go_wp2_with fail
        refine (fail_live g lo hi r 2 w1 H1'.out (by decide) (by decide)).mono ?_
        rintro r2 w2 ⟨⟨u2, rfl⟩, H2, k2⟩
        have H2' := Lib.hid H2
        clear H2
        go_wp2
        go_ret
        rw [hx.out]
        exact ⟨rfl, H2'.out, k1.trans k2 fun _ _ h => h⟩
      · have t1 : ¬ (1 : Int) < (c.toNat : Int) := by omega
        have hx := Lib.hid (show rdBool (.live (c :: r)) = (c.toNat == 1, .live r) from by simp only [rdBool]; rw [if_neg h1])
        by_cases he : c.toNat = 1
        · have t2 : ((c.toNat : Int) == 1) = true := by simp [he]
          have t3 := Lib.hid (show (c.toNat == 1) = true from by simp [he])
          clear he
          go_wp2
          go_ret
          rw [hx.out, t3.out]
          exact ⟨rfl, H1'.out, k1⟩
        · have t2 : ((c.toNat : Int) == 1) = false := by simp; omega
          have t3 := Lib.hid (show (c.toNat == 1) = false from by simp [he])
          clear he
          go_wp2
          go_ret
          rw [hx.out, t3.out]
          exact ⟨rfl, H1'.out, k1⟩

theorem cfinish_any (g lo hi : Nat) (s : St) (w : World) (H : RdP w g lo hi s) (hf : s.Few 100000) : Calls Try.prog 14 #[.pointer (some ⟨g, 0, none⟩)] w fun r w' => r = .returned (.int .i64 (s.end : Nat)) ∧ Below w.heap.size w w' := by
  have H' := Lib.hid H
  cases s with
  | dead e =>
    obtain ⟨v, e', h1, _, _, _, rfl, h0, rfl⟩ := H
    obtain ⟨c0, c1, f0, f1⟩ := two_cells h1
    have t1 : ((e : Int) == 0) = false := by simp; omega
    have t2 : ¬ e = 0 := h0
    clear h1
    go_enter Try.func14, Try.ntmps14
    go_wp2
    go_ret
    exact ⟨rfl, Below.refl _ _⟩
  | live b =>
    obtain ⟨v, e', h1, _, _, _, rfl, hR, _⟩ := H
    obtain ⟨A, cap, rfl⟩ := hR.form
    obtain ⟨c0, c1, f0, f1⟩ := two_cells h1
    clear h1 hR
    cases b with
    | nil =>
      go_enter Try.func14, Try.ntmps14
      go_wp2
      go_ret
      exact ⟨rfl, Below.refl _ _⟩
    | cons c r =>
      have t0 : (0 : Int) < ((c :: r).length : Int) := by rw [List.length_cons]; omega
      obtain ⟨L, hL⟩ : ∃ L, (c :: r).length = L := ⟨_, rfl⟩
      rw [hL] at c0 t0
      clear hL
      go_enter Try.func14, Try.ntmps14
      go_wp2
      go_ret
      exact ⟨rfl, Below.refl _ _⟩
end Go.Proofs.Ytmmfkepkdmmmkaa
