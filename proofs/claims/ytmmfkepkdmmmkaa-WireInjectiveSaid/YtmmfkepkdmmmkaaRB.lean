/- The reference's reader: Get of a list. -/
import Derived.Test.YtmmfkepkdmmmkaaRA
set_option linter.unusedVariables false
namespace Go.Proofs.Ytmmfkepkdmmmkaa
open Go.RowKit Go.Lib Wr

theorem OwnN.chg {S : Nat → Prop} {w w' : World} {base : Nat} {v : Value} {l : List Int} (h : OwnN w base v l) (k : Chg S w w') (hn : ∀ i, base ≤ i → ¬ S i) : OwnN w' base v l :=
  h.kept fun g hg => k.block g ((World.ownsRow.lt h g hg).2) (hn g (World.ownsRow.lt h g hg).1)

theorem tb_alloc {w : World} {G : Nat} {t : Th} {u : Value} (h : TB w G t u) (o : Obj) : TB (w.alloc o) G t u := by
  unfold TB; rw [Below.heap_alloc _ _ _ h.lt]; exact h
theorem tb_grown {w w' : World} {G : Nat} {t : Th} {u : Value} {row : Option Nat} (h : TB w G t u) (hg : w.grownBy w' row) (hn : row ≠ some G) : TB w' G t u := by
  unfold TB; rw [hg.block G h.lt (fun e => hn e.symm)]; exact h
theorem own_ne {w : World} {base G : Nat} {v : Value} {l : List Int} (h : OwnN w base v l) (hG : G < base) : v.ownBlock ≠ some G := fun e => by
  have := (World.ownsRow.lt h G e).1; omega

set_option maxHeartbeats 1000000 in
theorem rdget_ints (g : Nat) {N : Nat} (s0 s1 : St) (n : Nat) (w : World) (H : RefAt w g N s0) (hf : s0.Few 100000) (hx : rdMany s0 = (n, s1)) : Calls Try.prog 13 #[.pointer (some ⟨g, 0, none⟩), .int .i64 4] w fun r w' => ∃ v, r = .returned v ∧ ThV w' v ⟨4, 0, false, [], (rdInts s0).1⟩ ∧ RefAt w' g N (rdInts s0).2 ∧ Chg (· = g) w w' := by
  have hg := H.lt
  obtain ⟨hz, ht, hB⟩ := two_new w 4
  have hW := H.below hB
  have hfm := rdMany_few hf
  rw [hx] at hfm
  obtain ⟨hf1, hn⟩ := hfm
  simp only at hf1 hn
  have hri : ∀ l s, rdL n s1 = (l, s) → rdInts s0 = (match s with | .dead e => ([], .dead e) | .live r => (l, .live r)) := fun l s h => by
    unfold rdInts
    rw [hx]
    simp only [h]
    cases s <;> rfl
  have hri := Lib.hid hri
  have hx' := Lib.hid hx
  clear hx
  go_enter Try.func13, Try.ntmps13
  go_wp2_with fail
  generalize (w.alloc (.cells #[.int .i64 0, .int .i64 0, .bool false, .string ⟨#[]⟩, .slice none 0 0] 33)).alloc (.cells #[.int .i64 4, .int .i64 0, .bool false, .string ⟨#[]⟩, .slice none 0 0] 33) = W at hz ht hB hW ⊢
  refine (rdmany_any g s0 W hW hf).mono ?_
  rintro r w1 ⟨rfl, H1, k1⟩
  rw [hx'.out] at H1 ⊢
  have hz1 := hz.chg k1 (by omega)
  have ht1 := ht.chg k1 (by omega)
  have hk1 : Chg (· = g) w w1 := (Chg.of_below _ hB).trans k1 fun _ _ h => h
  clear k1 hz ht hB hW H hf
  go_wp2_with fail
  go_loopw [8] (fun i w' => ∃ (k : Nat) (u : Value), i = .int .i64 (k : Int) ∧ k ≤ n ∧ TB w' w.heap.size (zero 0) (.slice none 0 0) ∧ TB w' (w.heap.size + 1) (zero 4) u ∧ OwnN w' (w.heap.size + 2) u (rdL k s1).1 ∧ RefAt w' g N (rdL k s1).2 ∧ Chg (· = g) w w') (fun i _ => n - (intOf i).toNat)
  case atStart => exact ⟨0, _, rfl, by omega, hz1, ht1, OwnN.nil _ _, H1, hk1⟩
  case round =>
    obtain ⟨k, u, rfl, hk, hz2, ht2, hO, H2, k2⟩ := hrel
    clear hz1 ht1 H1 hk1
    have hf2 := rdL_few k hf1
    obtain ⟨l, s, hl⟩ : ∃ l s, rdL k s1 = (l, s) := ⟨_, _, rfl⟩
    rw [hl] at hO H2 hf2
    simp only at hO H2 hf2
    have hl' := Lib.hid hl
    clear hl
    have hH2 := Lib.hid H2
    have hO2 := Lib.hid hO
    have hT2 := Lib.hid ht2
    have hz2' := Lib.hid hz2
    by_cases hlt : k < n
    · have e1 : (k : Int) < (n : Int) := by omega
      cases s with
      | dead e =>
        have hnd : rdL n s1 = ((rdL n s1).1, .dead e) := by
          have h := rdL_stays (s := s1) (k := k) (e := e) (by rw [hl'.out]) (n - k)
          rw [show k + (n - k) = n from by omega] at h
          rw [← h]
        have hres := Lib.hid (hri.out _ _ hnd)
        obtain ⟨v, e', h1, _, rfl, h0⟩ := H2
        obtain ⟨c0, c1, _, _⟩ := ref_cells h1
        have t1 : ((e : Int) == 0) = false := by simp; omega
        have t2 : ¬ e = 0 := h0
        have t3 : ((e : Int) != 0) = true := by simp; omega
        have d4 := ht2.cells.2.2.2.2
        have f4 := ht2.frozen 4
        have c1' : (wr.setCell ⟨w.heap.size + 1, 4, none⟩ (.slice none 0 0)).cell? ⟨g, 1, none⟩ = some (.int .i64 (e : Int)) := (World.cell?_setCell_other _ ⟨w.heap.size + 1, 4, none⟩ ⟨g, 1, none⟩ _ (by intro h; injection h; omega)).trans c1
        have ht5 : TB (wr.setCell ⟨w.heap.size + 1, 4, none⟩ (.slice none 0 0)) (w.heap.size + 1) (zero 4) (.slice none 0 0) := by
          unfold TB; rw [heap_setCell_same wr (w.heap.size + 1) 4 _ _ _ ht2]; rfl
        have hz5 := hz2.store (g := w.heap.size + 1) (i := 4) (by omega) (.slice none 0 0)
        have H5 : RefAt (wr.setCell ⟨w.heap.size + 1, 4, none⟩ (.slice none 0 0)) g N (.dead e) := hH2.out.kept (by simp) (fun i hi => heap_setCell_other wr ⟨w.heap.size + 1, 4, none⟩ i _ (by intro e; have e' : i = w.heap.size + 1 := e; omega))
        have k5 : Chg (· = g) w (wr.setCell ⟨w.heap.size + 1, 4, none⟩ (.slice none 0 0)) := Chg.setCell (p := ⟨w.heap.size + 1, 4, none⟩) k2 (fun h => by have h' : w.heap.size + 1 < w.heap.size := h; omega) _
        have hf3 := Lib.hid (fin_facts (t := ⟨4, 0, false, [], []⟩) (u := .slice none 0 0) hz5 H5 k5 (Nat.le_refl _) hg (by simp))
        have hT := Lib.hid ht5.at_
        have hz' := Lib.hid hz5
        obtain ⟨A, cap, rfl⟩ := hO.form
        clear h1 hO ht2 hz2 ht5 hz5 H5 k5 k2 hnd
        go_wp2_with (first
          | (refine wpList_load_thing rfl _ rfl ⟨w.heap.size + 1, 0, none⟩ rfl ⟨4, 0, false, [], []⟩ (.slice none 0 0) hT.out ?_)
          | (refine wpList_store_thing rfl _ _ rfl w.heap.size rfl ⟨4, 0, false, [], []⟩ (.slice none 0 0) rfl rfl (zero 0) (.slice none 0 0) hz'.out ?_))
        obtain ⟨q0, q1, q2, q3, q4⟩ := hf3.out.1.cells
        exact bodyPost_ret (v := .agg #[.int .i64 4, .int .i64 0, .bool false, .string ⟨#[]⟩, .slice none 0 0]) (by simp [results, Try.results13, go_sem, q0, q1, q2, q3, q4]) rfl ⟨_, rfl, by rw [hres.out]; exact ⟨_, rfl, RN.nil _⟩, by rw [hres.out]; exact hf3.out.2.1, hf3.out.2.2⟩
      | live b =>
        have hrl : rdL (k + 1) s1 = (l ++ [(rdInt (.live b)).1], (rdInt (.live b)).2) := by rw [rdL_snoc, hl'.out]
        obtain ⟨v, e', h1, _, rfl, hR, _⟩ := H2
        obtain ⟨c0, c1, _, _⟩ := ref_cells h1
        obtain ⟨_, _, _, _, d4⟩ := ht2.cells
        have f4 := ht2.frozen 4
        obtain ⟨A, cap, rfl⟩ := hO.form
        have hll : l.length = k := by have := rdL_length k s1; rw [hl'.out] at this; exact this
        have hlen' : l.length + [(rdInt (.live b)).1].length ≤ 1000000 := by simp; omega
        have hlen := Lib.hid hlen'
        have hll' := Lib.hid hll
        clear hll hlen'
        have hb2 : ∀ w2, Chg (· = g) wr.drew w2 → ∀ o, w.heap.size + 2 ≤ (w2.alloc o).heap.size := fun w2 k o => by
          have h1 := hT2.out.lt; have h2 := k.size; rw [World.size_alloc]; simp only [World.size_drew] at h2; omega
        have hb2 := Lib.hid hb2
        have how : ∀ w2, Chg (· = g) wr.drew w2 → OwnN w2 (w.heap.size + 2) (.slice A l.length cap) l := fun w2 k => (hO2.out.chg (w' := wr.drew) ((Chg.refl (· = g) wr).drew) (fun i hi e => by have e' : i = g := e; omega)).chg k (fun i hi e => by have e' : i = g := e; omega)
        have how := Lib.hid how
        clear h1 hR hO ht2 hz2
        go_wp2_with fail
        go_region_law (first
          | (go_simp; go_at_call 33; refine (rdint_any g (.live b) _ (hH2.out.below ((Below.refl _ _).drew)) hf2).mono ?_; rintro r w2 ⟨rfl, H3, k3⟩; have ht3 := (hT2.out.chg (w' := wr.drew) ((Chg.refl (· = g) wr).drew) (by omega)).chg k3 (by omega); have d5 := ht3.cells.2.2.2.2; have f5 := ht3.frozen 4; have d7 := (tb_alloc ht3 (.cells #[.int .i64 (rdInt (.live b)).1] 3)).cells.2.2.2.2)
          | (refine step_append_ints rfl _ _ rfl (w.heap.size + 2) (.slice A l.length cap) l rfl ((how.out w2 k3).alloc _) _ [(rdInt (.live b)).1] rfl (OwnN.one w2 (Nat.le_refl _) _).rn hlen.out (hb2.out w2 k3 _) ?_; intro v3 w3 hO3 hg3 hp3; have ht4 := tb_grown (tb_alloc ht3 _) hg3 (own_ne (how.out w2 k3) (by omega)); obtain ⟨A3, cap3, rfl⟩ := hO3.form; have d6 := ht4.cells.2.2.2.2; have f6 := ht4.frozen 4))
        all_goals (
          have hz4 : TB w3 w.heap.size (zero 0) (.slice none 0 0) := tb_grown (tb_alloc ((hz2'.out.chg (w' := wr.drew) ((Chg.refl (· = g) wr).drew) (by omega)).chg k3 (by omega)) _) hg3 (own_ne (how.out w2 k3) (by omega))
          have hz5 := hz4.store (g := w.heap.size + 1) (i := 4) (by omega) (.slice A3 (l.length + 1) cap3)
          have ht5 : TB (w3.setCell ⟨w.heap.size + 1, 4, none⟩ (.slice A3 (l.length + 1) cap3)) (w.heap.size + 1) (zero 4) (.slice A3 (l.length + 1) cap3) := by
            unfold TB; rw [heap_setCell_same w3 (w.heap.size + 1) 4 _ _ _ ht4]; rfl
          have hO5 : OwnN (w3.setCell ⟨w.heap.size + 1, 4, none⟩ (.slice A3 (l.length + 1) cap3)) (w.heap.size + 2) (.slice A3 (l.length + 1) cap3) (l ++ [(rdInt (.live b)).1]) := by
            have h := hO3.kept (w' := w3.setCell ⟨w.heap.size + 1, 4, none⟩ (.slice A3 (l.length + 1) cap3)) (fun i hi => heap_setCell_other w3 ⟨w.heap.size + 1, 4, none⟩ i _ (by have := (World.ownsRow.lt hO3 i hi).1; intro e; have e' : i = w.heap.size + 1 := e; omega))
            rw [List.length_append] at h; exact h
          have H5 : RefAt (w3.setCell ⟨w.heap.size + 1, 4, none⟩ (.slice A3 (l.length + 1) cap3)) g N (rdInt (.live b)).2 := H3.kept (by have := hg3.size; rw [World.size_alloc] at this; simp; omega) (fun i hi => by
            have hi2 : i < w2.heap.size := by have := H3.lt; omega
            rw [heap_setCell_other w3 ⟨w.heap.size + 1, 4, none⟩ i _ (by intro e; have e' : i = w.heap.size + 1 := e; omega), hg3.block i (by rw [World.size_alloc]; omega) (fun e => by have := (World.ownsRow.lt (how.out w2 k3) i e.symm).1; omega), Below.heap_alloc _ _ _ hi2])
          have k5 : Chg (· = g) w (w3.setCell ⟨w.heap.size + 1, 4, none⟩ (.slice A3 (l.length + 1) cap3)) :=
            Chg.setCell (p := ⟨w.heap.size + 1, 4, none⟩) ((((k2.drew).trans k3 (fun _ _ h => h)).alloc _).grown hg3 (fun i hi hlt => by have := (World.ownsRow.lt (how.out w2 k3) i hi).1; omega)) (fun h => by have h' : w.heap.size + 1 < w.heap.size := h; omega) _
          clear d4 d5 d6 d7 f4 f5 f6 hg3 hp3 hO3 ht4 ht3 H3 k3 hz4
          go_wp2
          go_roundw
          case rel => exact ⟨k + 1, _, by go_num, by omega, hz5, ht5, by rw [hrl]; exact hO5, by rw [hrl]; exact H5, k5⟩
          case measure => simp [intOf]; omega)
    · obtain rfl : k = n := by omega
      cases s with
      | dead e =>
        have hnd : rdL k s1 = ((rdL k s1).1, .dead e) := by
          have h := rdL_stays (s := s1) (k := k) (e := e) (by rw [hl'.out]) (k - k)
          rw [show k + (k - k) = k from by omega] at h
          rw [← h]
        have hres := Lib.hid (hri.out _ _ hnd)
        obtain ⟨v, e', h1, _, rfl, h0⟩ := H2
        obtain ⟨c0, c1, _, _⟩ := ref_cells h1
        have t1 : ((e : Int) == 0) = false := by simp; omega
        have t2 : ¬ e = 0 := h0
        have t3 : ((e : Int) != 0) = true := by simp; omega
        have d4 := ht2.cells.2.2.2.2
        have f4 := ht2.frozen 4
        have c1' : (wr.setCell ⟨w.heap.size + 1, 4, none⟩ (.slice none 0 0)).cell? ⟨g, 1, none⟩ = some (.int .i64 (e : Int)) := (World.cell?_setCell_other _ ⟨w.heap.size + 1, 4, none⟩ ⟨g, 1, none⟩ _ (by intro h; injection h; omega)).trans c1
        have ht5 : TB (wr.setCell ⟨w.heap.size + 1, 4, none⟩ (.slice none 0 0)) (w.heap.size + 1) (zero 4) (.slice none 0 0) := by
          unfold TB; rw [heap_setCell_same wr (w.heap.size + 1) 4 _ _ _ ht2]; rfl
        have hz5 := hz2.store (g := w.heap.size + 1) (i := 4) (by omega) (.slice none 0 0)
        have H5 : RefAt (wr.setCell ⟨w.heap.size + 1, 4, none⟩ (.slice none 0 0)) g N (.dead e) := hH2.out.kept (by simp) (fun i hi => heap_setCell_other wr ⟨w.heap.size + 1, 4, none⟩ i _ (by intro e; have e' : i = w.heap.size + 1 := e; omega))
        have k5 : Chg (· = g) w (wr.setCell ⟨w.heap.size + 1, 4, none⟩ (.slice none 0 0)) := Chg.setCell (p := ⟨w.heap.size + 1, 4, none⟩) k2 (fun h => by have h' : w.heap.size + 1 < w.heap.size := h; omega) _
        have hf3 := Lib.hid (fin_facts (t := ⟨4, 0, false, [], []⟩) (u := .slice none 0 0) hz5 H5 k5 (Nat.le_refl _) hg (by simp))
        have hT := Lib.hid ht5.at_
        have hz' := Lib.hid hz5
        obtain ⟨A, cap, rfl⟩ := hO.form
        clear h1 hO ht2 hz2 ht5 hz5 H5 k5 k2 hnd
        go_wp2_with (first
          | (refine wpList_load_thing rfl _ rfl ⟨w.heap.size + 1, 0, none⟩ rfl ⟨4, 0, false, [], []⟩ (.slice none 0 0) hT.out ?_)
          | (refine wpList_store_thing rfl _ _ rfl w.heap.size rfl ⟨4, 0, false, [], []⟩ (.slice none 0 0) rfl rfl (zero 0) (.slice none 0 0) hz'.out ?_))
        obtain ⟨q0, q1, q2, q3, q4⟩ := hf3.out.1.cells
        exact bodyPost_ret (v := .agg #[.int .i64 4, .int .i64 0, .bool false, .string ⟨#[]⟩, .slice none 0 0]) (by simp [results, Try.results13, go_sem, q0, q1, q2, q3, q4]) rfl ⟨_, rfl, by rw [hres.out]; exact ⟨_, rfl, RN.nil _⟩, by rw [hres.out]; exact hf3.out.2.1, hf3.out.2.2⟩
      | live b =>
        have hres := Lib.hid (hri.out _ _ hl'.out)
        have hf3 := Lib.hid (fin_facts (t := ⟨4, 0, false, [], []⟩) (u := u) hz2 H2 k2 (Nat.le_refl _) hg (by simp))
        have hO5 : OwnN (wr.setRow w.heap.size #[.int .i64 4, .int .i64 0, .bool false, .string ⟨#[]⟩, u]) (w.heap.size + 2) u l := hO.kept (fun i hi => setRow_other wr w.heap.size i _ (by have := (World.ownsRow.lt hO i hi).1; omega))
        have hO5 := Lib.hid hO5.rn
        obtain ⟨v, e', h1, _, rfl, hR, _⟩ := H2
        obtain ⟨c0, c1, _, _⟩ := ref_cells h1
        obtain ⟨A, cap, rfl⟩ := hO.form
        have hT := Lib.hid ht2.at_
        clear h1 hO ht2 hz2 k2
        go_wp2_with (first
          | (refine wpList_load_thing rfl _ rfl ⟨w.heap.size + 1, 0, none⟩ rfl ⟨4, 0, false, [], []⟩ (.slice A l.length cap) hT.out ?_)
          | (refine wpList_store_thing rfl _ _ rfl w.heap.size rfl ⟨4, 0, false, [], []⟩ (.slice A l.length cap) rfl rfl (zero 0) (.slice none 0 0) hz2'.out ?_))
        obtain ⟨q0, q1, q2, q3, q4⟩ := hf3.out.1.cells
        exact bodyPost_ret (v := .agg #[.int .i64 4, .int .i64 0, .bool false, .string ⟨#[]⟩, .slice A l.length cap]) (by simp [results, Try.results13, go_sem, q0, q1, q2, q3, q4]) rfl ⟨_, rfl, by rw [hres.out]; exact ⟨_, rfl, hO5.out⟩, by rw [hres.out]; exact hf3.out.2.1, hf3.out.2.2⟩

/-- Get. -/
theorem rdget_any (g : Nat) {N : Nat} (k : Int) (s : St) (w : World) (H : RefAt w g N s) (hf : s.Few 100000) (hk : 0 ≤ k ∧ k ≤ 4) : Calls Try.prog 13 #[.pointer (some ⟨g, 0, none⟩), .int .i64 k] w fun r w' => ∃ v, r = .returned v ∧ ThV w' v (Wr.get k s).1 ∧ RefAt w' g N (Wr.get k s).2 ∧ Chg (· = g) w w' := by
  unfold Wr.get
  by_cases h0 : k = 0
  · subst h0; rw [if_pos rfl]; exact rdget_int g s w H hf
  by_cases h1 : k = 1
  · subst h1; rw [if_neg h0, if_pos rfl]; exact rdget_bool g s w H
  have hm : ∀ kk : Int, (kk = 2 ∨ kk = 3) → Calls Try.prog 13 #[.pointer (some ⟨g, 0, none⟩), .int .i64 kk] w fun r w' => ∃ v, r = .returned v ∧ ThV w' v ⟨kk, 0, false, (rdBytes s).1, []⟩ ∧ RefAt w' g N (rdBytes s).2 ∧ Chg (· = g) w w' := by
    intro kk hkk
    obtain ⟨n, s1, hx⟩ : ∃ n s1, rdMany s = (n, s1) := ⟨_, _, rfl⟩
    have hfm := rdMany_few hf
    rw [hx] at hfm
    cases s1 with
    | dead e =>
      have hb : rdBytes s = ([], .dead e) := by unfold rdBytes; rw [hx]
      have hn : n = 0 := by
        unfold rdMany at hx
        split at hx
        · injection hx with h1 _; exact h1.symm
        · split at hx
          · injection hx with h1 _; exact h1.symm
          · split at hx
            · injection hx with h1 _; exact h1.symm
            · injection hx with _ h2; cases h2
      subst hn
      rw [hb]
      rcases hkk with rfl | rfl
      · exact rdget_text2_dead g s e w H hf hx
      · exact rdget_text3_dead g s e w H hf hx
    | live r =>
      have hb : rdBytes s = (r.take n, .live (r.drop n)) := by unfold rdBytes; rw [hx]
      have hn : n ≤ r.length := by
        cases s with
        | dead e => simp [rdMany, rdInt] at hx
        | live b => exact (rdMany_inv hx).2
      have hr : r.length ≤ 100000 := hfm.1
      rw [hb]
      rcases hkk with rfl | rfl
      · exact rdget_text2_live g s n r w H hf hx hn hr
      · exact rdget_text3_live g s n r w H hf hx hn hr
  by_cases h2 : k = 2 ∨ k = 3
  · rw [if_neg h0, if_neg h1, if_pos h2]; exact hm k h2
  · obtain rfl : k = 4 := by omega
    rw [if_neg h0, if_neg h1, if_neg h2, if_pos rfl]
    exact rdget_ints g s _ _ w H hf rfl
end Go.Proofs.Ytmmfkepkdmmmkaa
