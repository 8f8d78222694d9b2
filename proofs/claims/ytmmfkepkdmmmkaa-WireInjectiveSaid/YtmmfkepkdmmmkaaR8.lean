/- The reference's reader: many, End. -/
import Derived.Test.YtmmfkepkdmmmkaaR7
set_option linter.unusedVariables false
namespace Go.Proofs.Ytmmfkepkdmmmkaa
open Go.RowKit Go.Lib Wr

theorem rdint_any (g : Nat) {N : Nat} (s : St) (w : World) (H : RefAt w g N s) (hf : s.Few 100000) : Calls Try.prog 33 #[.pointer (some ⟨g, 0, none⟩)] w fun r w' => r = .returned (.int .i64 (rdInt s).1) ∧ RefAt w' g N (rdInt s).2 ∧ Chg (· = g) w w' := by
  cases s with
  | dead e =>
    refine (rdint_dead g e w H).mono ?_
    rintro r w' ⟨rfl, rfl⟩
    exact ⟨rfl, H, Chg.refl _ _⟩
  | live b => exact rdint_live g b w H hf

theorem rdend_any (g : Nat) {N : Nat} (s : St) (w : World) (H : RefAt w g N s) : Calls Try.prog 15 #[.pointer (some ⟨g, 0, none⟩)] w fun r w' => r = .returned (.int .i64 (s.end : Nat)) ∧ w = w' := by
  cases s with
  | dead e =>
    obtain ⟨v, e', h1, _, rfl, h0⟩ := H
    obtain ⟨c0, c1, _, _⟩ := ref_cells h1
    have t1 : ((e : Int) == 0) = false := by simp; omega
    have t2 : ¬ e = 0 := h0
    have hx : St.end (.dead e) = e := rfl
    clear h1
    go_enter Try.func15, Try.ntmps15
    go_wp2
    go_ret
    exact ⟨rfl, rfl⟩
  | live b =>
    obtain ⟨v, e', h1, _, rfl, hR, _⟩ := H
    obtain ⟨A, cap, rfl⟩ := hR.form
    obtain ⟨c0, c1, _, _⟩ := ref_cells h1
    clear h1 hR
    cases b with
    | nil =>
      have hx : St.end (.live []) = 0 := rfl
      rw [List.length_nil] at c0
      go_enter Try.func15, Try.ntmps15
      go_wp2
      go_ret
      exact ⟨rfl, rfl⟩
    | cons c t =>
      have hx : St.end (.live (c :: t)) = 2 := rfl
      rw [List.length_cons] at c0
      have t1 : (0 : Int) < ((t.length + 1 : Nat) : Int) := by omega
      go_enter Try.func15, Try.ntmps15
      go_wp2
      go_ret
      exact ⟨rfl, rfl⟩

theorem rdmany_any (g : Nat) {N : Nat} (s : St) (w : World) (H : RefAt w g N s) (hf : s.Few 100000) : Calls Try.prog 34 #[.pointer (some ⟨g, 0, none⟩)] w fun r w' => r = .returned (.int .i64 ((rdMany s).1 : Nat)) ∧ RefAt w' g N (rdMany s).2 ∧ Chg (· = g) w w' := by
  obtain ⟨n, s1, hx⟩ : ∃ n s1, rdInt s = (n, s1) := ⟨_, _, rfl⟩
  have hH := Lib.hid H
  have hf' := Lib.hid hf
  have hf1 := rdInt_few hf
  rw [hx] at hf1
  clear H hf
  cases s1 with
  | dead e =>
    have hm : rdMany s = (0, .dead e) := by simp only [rdMany, hx]
    rw [hm]
    have hx' := Lib.hid hx
    clear hx hm
    go_enter Try.func34, Try.ntmps34
    go_wp2_with fail
    refine (rdint_any g s w hH.out hf'.out).mono ?_
    rintro r w1 ⟨rfl, H1, k1⟩
    rw [hx'.out] at H1
    have H1' := Lib.hid H1
    obtain ⟨v, e', h1, _, rfl, h0⟩ := H1
    obtain ⟨c0, c1, _, _⟩ := ref_cells h1
    have t1 : ((e : Int) != 0) = true := by simp; omega
    have t2 : ¬ e = 0 := h0
    clear h1
    go_wp2
    go_ret
    exact ⟨rfl, H1'.out, k1⟩
  | live r =>
    by_cases hn : n < 0
    · have hm : rdMany s = (0, .dead 2) := by simp only [rdMany, hx, if_pos hn]
      rw [hm]
      have hx' := Lib.hid hx
      clear hx hm
      go_enter Try.func34, Try.ntmps34
      go_wp2_with fail
      refine (rdint_any g s w hH.out hf'.out).mono ?_
      rintro r1 w1 ⟨rfl, H1, k1⟩
      rw [hx'.out] at H1 ⊢
      have H1' := Lib.hid H1
      obtain ⟨v, e', h1, _, rfl, hR, _⟩ := H1
      obtain ⟨c0, c1, f0, f1⟩ := ref_cells h1
      clear h1
      go_wp2
      go_ret
      exact ⟨rfl, H1'.out.die (x := 2) (by omega), k1.trans (Chg.one w1 g 1 _) fun _ _ h => h⟩
    · by_cases hl : (r.length : Int) < n
      · have hm : rdMany s = (0, .dead 11) := by simp only [rdMany, hx, if_neg hn, if_pos hl]
        rw [hm]
        have hx' := Lib.hid hx
        clear hx hm
        go_enter Try.func34, Try.ntmps34
        go_wp2_with fail
        refine (rdint_any g s w hH.out hf'.out).mono ?_
        rintro r1 w1 ⟨rfl, H1, k1⟩
        rw [hx'.out] at H1 ⊢
        have H1' := Lib.hid H1
        obtain ⟨v, e', h1, _, rfl, hR, _⟩ := H1
        obtain ⟨A, cap, rfl⟩ := hR.form
        obtain ⟨c0, c1, f0, f1⟩ := ref_cells h1
        clear h1 hR
        go_wp2
        go_ret
        exact ⟨rfl, H1'.out.die (x := 11) (by omega), k1.trans (Chg.one w1 g 1 _) fun _ _ h => h⟩
      · obtain ⟨m, rfl⟩ : ∃ m : Nat, n = (m : Int) := ⟨n.toNat, by omega⟩
        have hm : rdMany s = (m, .live r) := by simp only [rdMany, hx, if_neg hn, if_neg hl]; simp
        rw [hm]
        have hx' := Lib.hid hx
        clear hx hm
        go_enter Try.func34, Try.ntmps34
        go_wp2_with fail
        refine (rdint_any g s w hH.out hf'.out).mono ?_
        rintro r1 w1 ⟨rfl, H1, k1⟩
        rw [hx'.out] at H1 ⊢
        have H1' := Lib.hid H1
        obtain ⟨v, e', h1, _, rfl, hR, _⟩ := H1
        obtain ⟨A, cap, rfl⟩ := hR.form
        obtain ⟨c0, c1, f0, f1⟩ := ref_cells h1
        clear h1 hR
        go_wp2
        go_ret
        exact ⟨rfl, H1'.out, k1⟩
end Go.Proofs.Ytmmfkepkdmmmkaa
