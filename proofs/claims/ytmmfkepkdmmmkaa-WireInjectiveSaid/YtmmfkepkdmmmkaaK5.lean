/- The code: Reader.Ints, NewReader. -/
import Derived.Test.YtmmfkepkdmmmkaaK4
set_option linter.unusedVariables false
set_option linter.unusedSimpArgs false
namespace Go.Proofs.Ytmmfkepkdmmmkaa
open Go.RowKit Go.Lib Wr

theorem rd_grown {w wa w' : World} {g lo hi : Nat} {s : St} {row : Option Nat} (h : RdP w g lo hi s) (hb : Below w.heap.size w wa) (hg : wa.grownBy w' row) (hr : ∀ i, row = some i → hi ≤ i) : RdP w' g lo hi s :=
  h.kept (Nat.le_trans hb.size hg.size) fun k _ hk => by
    have := h.hi
    rw [hg.block k (by have := hb.size; omega) (fun e => by have := hr k e.symm; omega)]
    exact hb.block k (by omega)

theorem cints_any (g lo hi : Nat) (s : St) (w : World) (H : RdP w g lo hi s) (hf : s.Few 100000) : Calls Try.prog 30 #[.pointer (some ⟨g, 0, none⟩)] w fun r w' => ∃ v, r = .returned v ∧ OwnN w' w.heap.size v (rdInts s).1 ∧ RdP w' g lo hi (rdInts s).2 ∧ Chg (Iv lo hi) w w' := by
  have hhi := H.hi
  obtain ⟨n, s1, hx⟩ : ∃ n s1, rdMany s = (n, s1) := ⟨_, _, rfl⟩
  have hfm := rdMany_few hf
  rw [hx] at hfm
  obtain ⟨hf1, hn⟩ := hfm
  simp only at hf1 hn
  have hri : ∀ l s', rdL n s1 = (l, s') → rdInts s = (match s' with | .dead e => ([], .dead e) | .live r => (l, .live r)) := fun l s' h => by
    unfold rdInts
    rw [hx]
    simp only [h]
    cases s' <;> rfl
  have hri' := Lib.hid hri
  have hfit := Lib.hid (rdMany_fits hx)
  have hx' := Lib.hid hx
  clear hx hri
  go_enter Try.func30, Try.ntmps30
  go_wp2_with fail
  refine (length_any g lo hi s w H hf).mono ?_
  rintro r w1 ⟨rfl, H1, k1⟩
  rw [hx'.out] at H1 ⊢
  simp only at H1 ⊢
  have H1' := Lib.hid H1
  clear H1 H
  go_wp2_with fail
  go_loopw [3, 6] (fun l i w' => ∃ k : Nat, i = .int .i64 (k : Int) ∧ k ≤ n ∧ OwnN w' w.heap.size l (rdL k s1).1 ∧ RdP w' g lo hi (rdL k s1).2 ∧ (0 < k → ∃ b, (rdL k s1).2 = .live b) ∧ Chg (Iv lo hi) w w') (fun _ i _ => n - (intOf i).toNat)
  case atStart => exact ⟨0, rfl, by omega, OwnN.nil _ _, H1'.out, fun h => absurd h (by omega), k1⟩
  case round =>
    obtain ⟨k, rfl, hk, hO, H2, hlive, k2⟩ := hrel
    have hf2 := rdL_few k hf1
    obtain ⟨l, st, hl⟩ : ∃ l st, rdL k s1 = (l, st) := ⟨_, _, rfl⟩
    rw [hl] at hO H2 hf2 hlive
    simp only at hO H2 hf2 hlive
    have hl' := Lib.hid hl
    have hll : l.length = k := by have := rdL_length k s1; rw [hl] at this; exact this
    clear hl
    have H2' := Lib.hid H2
    have hO' := Lib.hid hO
    by_cases hlt : k < n
    · have e1 : (k : Int) < (n : Int) := by omega
      obtain ⟨b, rfl⟩ : ∃ b, st = .live b := by
        by_cases h0 : 0 < k
        · exact hlive h0
        · obtain rfl : k = 0 := by omega
          have h := hl'.out
          simp only [rdL] at h
          injection h with h1 h2
          cases s1 with
          | live b => exact ⟨b, h2.symm⟩
          | dead e => have := hfit.out.2 e rfl; omega
      have hrl := Lib.hid (show rdL (k + 1) s1 = (l ++ [(rdInt (.live b)).1], (rdInt (.live b)).2) from by rw [rdL_snoc, hl'.out])
      obtain ⟨A, cap, rfl⟩ := hO.form
      obtain ⟨x, s2, hxi⟩ : ∃ x s2, rdInt (.live b) = (x, s2) := ⟨_, _, rfl⟩
      have hxi' := Lib.hid hxi
      have h63 := Lib.hid (show l.length + [x].length ≤ 1000000 from by simp; omega)
      have hll' := Lib.hid hll
      have hk2 := k2.size
      clear hlive hO H2 hxi hll
      go_wp2_with fail
      refine (cint_any g lo hi (.live b) wr H2'.out hf2).mono ?_
      rintro r w2 ⟨rfl, H3, k3⟩
      rw [hxi'.out] at H3 ⊢
      simp only at H3 ⊢
      have H3' := Lib.hid H3
      have O3 := Lib.hid (hO'.out.chg k3 (fun i hi0 e => by obtain ⟨_, e2⟩ := e; omega))
      have hk3 := k3.size
      have hBa : Below w2.heap.size w2 (w2.alloc (.cells #[.int .i64 x] 3)) := (Below.refl _ _).alloc (Nat.le_refl _) _
      have hsz : w.heap.size ≤ (w2.alloc (.cells #[.int .i64 x] 3)).heap.size := by rw [World.size_alloc]; omega
      have hnew := Lib.hid (OwnN.one w2 (Nat.le_refl _) x).rn
      clear H3
      cases s2 with
      | dead e =>
        have hres := Lib.hid (show rdInts s = ([], .dead e) from by
          have hnd : rdL n s1 = ((rdL n s1).1, .dead e) := by
            have h := rdL_stays (s := s1) (k := k + 1) (e := e) (by rw [hrl.out, hxi'.out]) (n - (k + 1))
            rw [show k + 1 + (n - (k + 1)) = n from by omega] at h
            rw [← h]
          exact hri'.out _ _ hnd)
        go_wp2_with (at_builtin; refine wpList_append_ints rfl _ _ rfl w.heap.size _ l rfl (O3.out.alloc _) _ [x] rfl hnew.out h63.out hsz ?_; intro v4 w4 hO4 hg4 _; have hO4' := Lib.hid hO4; have H4 := rd_grown H3'.out hBa hg4 (fun i hi0 => by have := (World.ownsRow.lt O3.out i hi0).1; omega); have k4 : Chg (Iv lo hi) w w4 := ((k2.trans k3 (fun _ _ h => h)).alloc _).grown hg4 (fun i hi0 hlt => by have := (World.ownsRow.lt O3.out i hi0).1; omega); have H4' := Lib.hid H4; obtain ⟨v5, e5, h5, _, _, _, rfl, h0, rfl⟩ := H4; have t1 : ((e : Int) != 0) = true := (by simp; omega); have t2 : ¬ e = 0 := h0; obtain ⟨c0, c1, f0, f1⟩ := two_cells h5; clear h5 hg4 hO4)
        go_ret
        rw [hres.out]
        exact ⟨_, rfl, OwnN.nil _ _, H4'.out, k4⟩
      | live b2 =>
        go_wp2_with (at_builtin; refine wpList_append_ints rfl _ _ rfl w.heap.size _ l rfl (O3.out.alloc _) _ [x] rfl hnew.out h63.out hsz ?_; intro v4 w4 hO4 hg4 _; have hO4' := Lib.hid hO4; have H4 := rd_grown H3'.out hBa hg4 (fun i hi0 => by have := (World.ownsRow.lt O3.out i hi0).1; omega); have k4 : Chg (Iv lo hi) w w4 := ((k2.trans k3 (fun _ _ h => h)).alloc _).grown hg4 (fun i hi0 hlt => by have := (World.ownsRow.lt O3.out i hi0).1; omega); have H4' := Lib.hid H4; obtain ⟨v5, e5, h5, _, _, _, rfl, _⟩ := H4; obtain ⟨c0, c1, f0, f1⟩ := two_cells h5; clear h5 hg4 hO4)
        go_roundw
        case rel => exact ⟨k + 1, by go_num, by omega, by rw [hrl.out, hxi'.out]; exact hO4'.out, by rw [hrl.out, hxi'.out]; exact H4'.out, fun _ => ⟨b2, by rw [hrl.out, hxi'.out]⟩, k4⟩
        case measure => simp [intOf]; omega
    · obtain rfl : k = n := by omega
      go_wp2
      go_ret
      cases st with
      | live b => exact ⟨_, rfl, by rw [hri'.out _ _ hl'.out]; exact hO'.out, by rw [hri'.out _ _ hl'.out]; exact H2'.out, k2⟩
      | dead e =>
        have h0 : ¬ 0 < k := fun h => by obtain ⟨b, hb⟩ := hlive h; cases hb
        obtain rfl : k = 0 := by omega
        obtain rfl : l = [] := List.eq_nil_of_length_eq_zero hll
        exact ⟨_, rfl, by rw [hri'.out _ _ hl'.out]; exact hO'.out, by rw [hri'.out _ _ hl'.out]; exact H2'.out, k2⟩

theorem newReader_any (v : Value) (l : Bs) (base : Nat) (w : World) (H : OwnB w base v l) (hb : base ≤ w.heap.size) (hl : l.length ≤ 100000) : Calls Try.prog 10 #[v] w fun r w' => ∃ g, r = .returned (.pointer (some ⟨g, 0, none⟩)) ∧ RdP w' g base w'.heap.size (.live l) ∧ Below w.heap.size w w' := by
  have H' := Lib.hid H.rb
  clear H
  go_enter Try.func10, Try.ntmps10
  go_wp2_with fail
  refine (copyOf_any v l w H'.out (by omega)).mono ?_
  rintro r w1 ⟨v1, rfl, O1, b1⟩
  have O1' := Lib.hid O1
  obtain ⟨A, cap, rfl⟩ := O1.form
  clear O1
  go_wp2
  go_ret
  have hB : Below w1.heap.size w1 (w1.alloc (.cells #[.slice A l.length cap, .int .i64 0] 60)) := (Below.refl _ _).alloc (Nat.le_refl _) _
  refine ⟨_, rfl, ⟨.slice A l.length cap, 0, heap_alloc_new w1 _, by have := b1.size; omega, by rw [World.size_alloc]; omega, Nat.le_refl _, rfl, (O1'.out.below hB).rb, fun ad n c e h0 => ?_⟩, then_ b1 hB⟩
  injection e with e1 e2 e3
  subst e1
  have := World.ownsRow.lt O1'.out ad.block rfl
  have h1 := this.1
  have h2 := this.2
  rw [World.size_alloc]
  exact ⟨by omega, by omega⟩
end Go.Proofs.Ytmmfkepkdmmmkaa
