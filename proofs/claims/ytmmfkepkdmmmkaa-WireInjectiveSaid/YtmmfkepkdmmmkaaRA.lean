/- The reference's reader: Get of bytes. -/
import Derived.Test.YtmmfkepkdmmmkaaR9
set_option linter.unusedVariables false
namespace Go.Proofs.Ytmmfkepkdmmmkaa
open Go.RowKit Go.Lib Wr

theorem RB.take' {w : World} {A : Option Addr} {c : Nat} {l : Bs} (h : RB w (.slice A l.length c) l) {k : Nat} (hk : k ≤ l.length) : RB w (.slice A k c) (l.take k) := by
  rcases h with ⟨e, hl⟩ | ⟨ad, c', e, h1, h2, h3⟩
  · subst hl
    obtain rfl : k = 0 := by simpa using hk
    rw [List.take_nil]; exact .inl ⟨e, rfl⟩
  · have h : RB w (.slice (some ad) l.length c') l := .inr ⟨ad, c', rfl, h1, h2, h3⟩
    injection e with e1 e2 e3
    subst e1 e3
    exact h.take hk
theorem RB.drop' {w : World} {A : Option Addr} {c : Nat} {l : Bs} (h : RB w (.slice A l.length c) l) {k : Nat} (hk : k ≤ l.length) :
    (c = k → RB w (.slice A (l.length - k) 0) (l.drop k)) ∧ (c ≠ k → ∃ ad, A = some ad ∧ RB w (.slice (some (ad.add k)) (l.length - k) (c - k)) (l.drop k)) := by
  rcases h with ⟨e, hl⟩ | ⟨ad, c', e, h1, h2, h3⟩
  · subst hl
    obtain rfl : k = 0 := by simpa using hk
    injection e with e1 e2 e3
    subst e1 e3
    exact ⟨fun _ => .inl ⟨rfl, rfl⟩, fun h => absurd rfl h⟩
  · injection e with e1 e2 e3
    subst e1 e3
    have h : RB w (.slice (some ad) l.length c) l := .inr ⟨ad, c, rfl, h1, h2, h3⟩
    refine ⟨fun e => ?_, fun _ => ⟨ad, rfl, h.drop hk⟩⟩
    have hl : l.length = k := by omega
    rw [List.drop_of_length_le (by omega)]
    exact .inr ⟨ad, 0, by rw [hl]; simp, by simp, (fun h => absurd h (by omega)), fun j b hj => by simp at hj⟩

theorem rdget_text2_dead (g : Nat) {N : Nat} (s : St) (e : Nat) (w : World) (H : RefAt w g N s) (hf : s.Few 100000) (hx : rdMany s = (0, .dead e)) : Calls Try.prog 13 #[.pointer (some ⟨g, 0, none⟩), .int .i64 2] w fun r w' => ∃ v, r = .returned v ∧ ThV w' v (zero 2) ∧ RefAt w' g N (.dead e) ∧ Chg (· = g) w w' := by
  have hg := H.lt
  obtain ⟨hz, ht, hB⟩ := two_new w 2
  have hW := H.below hB
  have hx' := Lib.hid hx
  clear hx
  go_enter Try.func13, Try.ntmps13
  go_wp2_with fail
  generalize (w.alloc (.cells #[.int .i64 0, .int .i64 0, .bool false, .string ⟨#[]⟩, .slice none 0 0] 33)).alloc (.cells #[.int .i64 2, .int .i64 0, .bool false, .string ⟨#[]⟩, .slice none 0 0] 33) = W at hz ht hB hW ⊢
  refine (rdmany_any g s W hW hf).mono ?_
  rintro r w1 ⟨rfl, H1, k1⟩
  rw [hx'.out] at H1 ⊢
  have hz1 := hz.chg k1 (by omega)
  have ht1 := ht.chg k1 (by omega)
  have hk1 : Chg (· = g) w w1 := (Chg.of_below _ hB).trans k1 fun _ _ h => h
  have hf3 := Lib.hid (fin_facts (t := ⟨2, 0, false, [], []⟩) (u := .slice none 0 0) hz1 H1 hk1 (Nat.le_refl _) hg (by simp))
  have hT := Lib.hid ht1.at_
  have hz' := Lib.hid hz1
  obtain ⟨v, e', h1, _, rfl, h0⟩ := H1
  obtain ⟨c0, c1, _, _⟩ := ref_cells h1
  have t1 : ((e : Int) == 0) = false := by simp; omega
  have t2 : ¬ e = 0 := h0
  have t3 : ((e : Int) != 0) = true := by simp; omega
  clear h1 hz1 ht1 hk1 k1 hz ht hB hW H hf
  go_wp2_with (first
    | (refine wpList_load_thing rfl _ rfl ⟨w.heap.size + 1, 0, none⟩ rfl ⟨2, 0, false, [], []⟩ (.slice none 0 0) hT.out ?_)
    | (refine wpList_store_thing rfl _ _ rfl w.heap.size rfl ⟨2, 0, false, [], []⟩ (.slice none 0 0) rfl rfl (zero 0) (.slice none 0 0) hz'.out ?_))
  obtain ⟨q0, q1, q2, q3, q4⟩ := hf3.out.1.cells
  exact bodyPost_ret (v := .agg #[.int .i64 2, .int .i64 0, .bool false, .string ⟨#[]⟩, .slice none 0 0]) (by simp [results, Try.results13, go_sem, q0, q1, q2, q3, q4]) rfl ⟨_, rfl, ⟨_, rfl, RN.nil _⟩, hf3.out.2.1, hf3.out.2.2⟩

set_option maxHeartbeats 1000000 in
theorem rdget_text2_live (g : Nat) {N : Nat} (s : St) (n : Nat) (r : Bs) (w : World) (H : RefAt w g N s) (hf : s.Few 100000) (hx : rdMany s = (n, .live r)) (hn : n ≤ r.length) (hr : r.length ≤ 100000) : Calls Try.prog 13 #[.pointer (some ⟨g, 0, none⟩), .int .i64 2] w fun r' w' => ∃ v, r' = .returned v ∧ ThV w' v ⟨2, 0, false, r.take n, []⟩ ∧ RefAt w' g N (.live (r.drop n)) ∧ Chg (· = g) w w' := by
  have hg := H.lt
  obtain ⟨hz, ht, hB⟩ := two_new w 2
  have hW := H.below hB
  have hx' := Lib.hid hx
  clear hx
  go_enter Try.func13, Try.ntmps13
  go_wp2_with fail
  generalize (w.alloc (.cells #[.int .i64 0, .int .i64 0, .bool false, .string ⟨#[]⟩, .slice none 0 0] 33)).alloc (.cells #[.int .i64 2, .int .i64 0, .bool false, .string ⟨#[]⟩, .slice none 0 0] 33) = W at hz ht hB hW ⊢
  refine (rdmany_any g s W hW hf).mono ?_
  rintro r1 w1 ⟨rfl, H1, k1⟩
  rw [hx'.out] at H1 ⊢
  have hz1 := hz.chg k1 (by omega)
  have ht1 := ht.chg k1 (by omega)
  have hk1 : Chg (· = g) w w1 := (Chg.of_below _ hB).trans k1 fun _ _ h => h
  have H1' := Lib.hid H1
  obtain ⟨v, e', h1, _, rfl, hR, hlow⟩ := H1
  obtain ⟨A, cap, rfl⟩ := hR.form
  obtain ⟨c0, c1, f0, f1⟩ := ref_cells h1
  obtain ⟨_, _, _, y3, _⟩ := ht1.cells
  have z3 := ht1.frozen 3
  have hRt := Lib.hid (hR.take' hn)
  have n1 : (n : Int) ≤ (r.length : Int) := by omega
  have n2 : (0 : Int) ≤ (n : Int) := by omega
  have c0' : (w1.setCell ⟨w.heap.size + 1, 3, none⟩ (.string ⟨(r.take n).toArray⟩)).cell? ⟨g, 0, none⟩ = some (.slice A r.length cap) := by
    exact (World.cell?_setCell_other _ ⟨w.heap.size + 1, 3, none⟩ ⟨g, 0, none⟩ _ (by intro h; injection h; omega)).trans c0
  clear h1
  have hcn : n ≤ cap := Nat.le_trans hn hR.cap
  obtain ⟨r1, r2⟩ := hR.drop' hn
  have r1 := Lib.hid r1
  have r2 := Lib.hid r2
  by_cases hcap : cap = n
  · have hR3 := r1.out hcap
    subst hcap
    have hH2 : RefAt (w1.setCell ⟨w.heap.size + 1, 3, none⟩ (.string ⟨(r.take cap).toArray⟩)) g N (.live r) := refAt_store H1'.out ht1 (by simp) (by omega)
    have hR4 : RB (w1.setCell ⟨w.heap.size + 1, 3, none⟩ (.string ⟨(r.take cap).toArray⟩)) (.slice A (r.length - cap) 0) (r.drop cap) := hR3.apart ht1 (no_u8 _ _ (by simp)) (by simp) (fun k hk hne => heap_setCell_other w1 ⟨w.heap.size + 1, 3, none⟩ k _ hne)
    have hH3 := hH2.go hR4 (fun _ _ h => absurd h (by omega))
    have hT2 : TB (w1.setCell ⟨w.heap.size + 1, 3, none⟩ (.string ⟨(r.take cap).toArray⟩)) (w.heap.size + 1) ⟨2, 0, false, r.take cap, []⟩ (.slice none 0 0) := by
      unfold TB; rw [heap_setCell_same w1 (w.heap.size + 1) 3 _ _ _ ht1]; rfl
    have hT3 := hT2.store (g := g) (i := 0) (by omega) (.slice A (r.length - cap) 0)
    have hz3 := (hz1.store (g := w.heap.size + 1) (i := 3) (by omega) (.string ⟨(r.take cap).toArray⟩)).store (g := g) (i := 0) (by omega) (.slice A (r.length - cap) 0)
    have hk3 := (hk1.setCell (p := ⟨w.heap.size + 1, 3, none⟩) (fun h => by have h' : w.heap.size + 1 < w.heap.size := h; omega) (.string ⟨(r.take cap).toArray⟩)).setCell (p := ⟨g, 0, none⟩) (fun _ => rfl) (.slice A (r.length - cap) 0)
    have hf3 := Lib.hid (fin_facts (t := ⟨2, 0, false, r.take cap, []⟩) (u := .slice none 0 0) hz3 hH3 hk3 (Nat.le_refl _) hg (by simp))
    have hT := Lib.hid hT3.at_
    have hz' := Lib.hid hz3
    clear hH2 hR4 hH3 hT2 hT3 hz3 hk3 hR3 hR hz1 ht1 hk1 k1 hz ht hB hW H hf H1'
    go_wp2_with (first
      | (refine wpList_conv rfl _ rfl (.slice A cap cap) (r.take cap) rfl hRt.out ?_)
      | (refine wpList_load_thing rfl _ rfl ⟨w.heap.size + 1, 0, none⟩ rfl ⟨2, 0, false, r.take cap, []⟩ (.slice none 0 0) hT.out ?_)
      | (refine wpList_store_thing rfl _ _ rfl w.heap.size rfl ⟨2, 0, false, r.take cap, []⟩ (.slice none 0 0) rfl rfl (zero 0) (.slice none 0 0) hz'.out ?_))
    obtain ⟨q0, q1, q2, q3, q4⟩ := hf3.out.1.cells
    exact bodyPost_ret (v := .agg #[.int .i64 2, .int .i64 0, .bool false, .string ⟨(r.take cap).toArray⟩, .slice none 0 0]) (by simp [results, Try.results13, go_sem, q0, q1, q2, q3, q4]) rfl ⟨_, rfl, ⟨_, rfl, RN.nil _⟩, hf3.out.2.1, hf3.out.2.2⟩
  · obtain ⟨ad, rfl, hR3⟩ := r2.out hcap
    have hH2 : RefAt (w1.setCell ⟨w.heap.size + 1, 3, none⟩ (.string ⟨(r.take n).toArray⟩)) g N (.live r) := refAt_store H1'.out ht1 (by simp) (by omega)
    have hR4 : RB (w1.setCell ⟨w.heap.size + 1, 3, none⟩ (.string ⟨(r.take n).toArray⟩)) (.slice (some (ad.add n)) (r.length - n) (cap - n)) (r.drop n) := hR3.apart ht1 (no_u8 _ _ (by simp)) (by simp) (fun k hk hne => heap_setCell_other w1 ⟨w.heap.size + 1, 3, none⟩ k _ hne)
    have hH3 := hH2.go hR4 (fun ad' h h0 => by injection h with h; subst h; rw [block_add']; exact hlow _ _ _ rfl (by omega))
    have hT2 : TB (w1.setCell ⟨w.heap.size + 1, 3, none⟩ (.string ⟨(r.take n).toArray⟩)) (w.heap.size + 1) ⟨2, 0, false, r.take n, []⟩ (.slice none 0 0) := by
      unfold TB; rw [heap_setCell_same w1 (w.heap.size + 1) 3 _ _ _ ht1]; rfl
    have hT3 := hT2.store (g := g) (i := 0) (by omega) (.slice (some (ad.add n)) (r.length - n) (cap - n))
    have hz3 := (hz1.store (g := w.heap.size + 1) (i := 3) (by omega) (.string ⟨(r.take n).toArray⟩)).store (g := g) (i := 0) (by omega) (.slice (some (ad.add n)) (r.length - n) (cap - n))
    have hk3 := (hk1.setCell (p := ⟨w.heap.size + 1, 3, none⟩) (fun h => by have h' : w.heap.size + 1 < w.heap.size := h; omega) (.string ⟨(r.take n).toArray⟩)).setCell (p := ⟨g, 0, none⟩) (fun _ => rfl) (.slice (some (ad.add n)) (r.length - n) (cap - n))
    have hf3 := Lib.hid (fin_facts (t := ⟨2, 0, false, r.take n, []⟩) (u := .slice none 0 0) hz3 hH3 hk3 (Nat.le_refl _) hg (by simp))
    have hT := Lib.hid hT3.at_
    have hz' := Lib.hid hz3
    clear hH2 hR4 hH3 hT2 hT3 hz3 hk3 hR3 hR hz1 ht1 hk1 k1 hz ht hB hW H hf H1'
    go_wp2_with (first
      | (refine wpList_conv rfl _ rfl (.slice (some ad) n cap) (r.take n) rfl hRt.out ?_)
      | (refine wpList_load_thing rfl _ rfl ⟨w.heap.size + 1, 0, none⟩ rfl ⟨2, 0, false, r.take n, []⟩ (.slice none 0 0) hT.out ?_)
      | (refine wpList_store_thing rfl _ _ rfl w.heap.size rfl ⟨2, 0, false, r.take n, []⟩ (.slice none 0 0) rfl rfl (zero 0) (.slice none 0 0) hz'.out ?_))
    obtain ⟨q0, q1, q2, q3, q4⟩ := hf3.out.1.cells
    exact bodyPost_ret (v := .agg #[.int .i64 2, .int .i64 0, .bool false, .string ⟨(r.take n).toArray⟩, .slice none 0 0]) (by simp [results, Try.results13, go_sem, q0, q1, q2, q3, q4]) rfl ⟨_, rfl, ⟨_, rfl, RN.nil _⟩, hf3.out.2.1, hf3.out.2.2⟩

theorem rdget_text3_dead (g : Nat) {N : Nat} (s : St) (e : Nat) (w : World) (H : RefAt w g N s) (hf : s.Few 100000) (hx : rdMany s = (0, .dead e)) : Calls Try.prog 13 #[.pointer (some ⟨g, 0, none⟩), .int .i64 3] w fun r w' => ∃ v, r = .returned v ∧ ThV w' v (zero 3) ∧ RefAt w' g N (.dead e) ∧ Chg (· = g) w w' := by
  have hg := H.lt
  obtain ⟨hz, ht, hB⟩ := two_new w 3
  have hW := H.below hB
  have hx' := Lib.hid hx
  clear hx
  go_enter Try.func13, Try.ntmps13
  go_wp2_with fail
  generalize (w.alloc (.cells #[.int .i64 0, .int .i64 0, .bool false, .string ⟨#[]⟩, .slice none 0 0] 33)).alloc (.cells #[.int .i64 3, .int .i64 0, .bool false, .string ⟨#[]⟩, .slice none 0 0] 33) = W at hz ht hB hW ⊢
  refine (rdmany_any g s W hW hf).mono ?_
  rintro r w1 ⟨rfl, H1, k1⟩
  rw [hx'.out] at H1 ⊢
  have hz1 := hz.chg k1 (by omega)
  have ht1 := ht.chg k1 (by omega)
  have hk1 : Chg (· = g) w w1 := (Chg.of_below _ hB).trans k1 fun _ _ h => h
  have hf3 := Lib.hid (fin_facts (t := ⟨3, 0, false, [], []⟩) (u := .slice none 0 0) hz1 H1 hk1 (Nat.le_refl _) hg (by simp))
  have hT := Lib.hid ht1.at_
  have hz' := Lib.hid hz1
  obtain ⟨v, e', h1, _, rfl, h0⟩ := H1
  obtain ⟨c0, c1, _, _⟩ := ref_cells h1
  have t1 : ((e : Int) == 0) = false := by simp; omega
  have t2 : ¬ e = 0 := h0
  have t3 : ((e : Int) != 0) = true := by simp; omega
  clear h1 hz1 ht1 hk1 k1 hz ht hB hW H hf
  go_wp2_with (first
    | (refine wpList_load_thing rfl _ rfl ⟨w.heap.size + 1, 0, none⟩ rfl ⟨3, 0, false, [], []⟩ (.slice none 0 0) hT.out ?_)
    | (refine wpList_store_thing rfl _ _ rfl w.heap.size rfl ⟨3, 0, false, [], []⟩ (.slice none 0 0) rfl rfl (zero 0) (.slice none 0 0) hz'.out ?_))
  obtain ⟨q0, q1, q2, q3, q4⟩ := hf3.out.1.cells
  exact bodyPost_ret (v := .agg #[.int .i64 3, .int .i64 0, .bool false, .string ⟨#[]⟩, .slice none 0 0]) (by simp [results, Try.results13, go_sem, q0, q1, q2, q3, q4]) rfl ⟨_, rfl, ⟨_, rfl, RN.nil _⟩, hf3.out.2.1, hf3.out.2.2⟩

set_option maxHeartbeats 1000000 in
theorem rdget_text3_live (g : Nat) {N : Nat} (s : St) (n : Nat) (r : Bs) (w : World) (H : RefAt w g N s) (hf : s.Few 100000) (hx : rdMany s = (n, .live r)) (hn : n ≤ r.length) (hr : r.length ≤ 100000) : Calls Try.prog 13 #[.pointer (some ⟨g, 0, none⟩), .int .i64 3] w fun r' w' => ∃ v, r' = .returned v ∧ ThV w' v ⟨3, 0, false, r.take n, []⟩ ∧ RefAt w' g N (.live (r.drop n)) ∧ Chg (· = g) w w' := by
  have hg := H.lt
  obtain ⟨hz, ht, hB⟩ := two_new w 3
  have hW := H.below hB
  have hx' := Lib.hid hx
  clear hx
  go_enter Try.func13, Try.ntmps13
  go_wp2_with fail
  generalize (w.alloc (.cells #[.int .i64 0, .int .i64 0, .bool false, .string ⟨#[]⟩, .slice none 0 0] 33)).alloc (.cells #[.int .i64 3, .int .i64 0, .bool false, .string ⟨#[]⟩, .slice none 0 0] 33) = W at hz ht hB hW ⊢
  refine (rdmany_any g s W hW hf).mono ?_
  rintro r1 w1 ⟨rfl, H1, k1⟩
  rw [hx'.out] at H1 ⊢
  have hz1 := hz.chg k1 (by omega)
  have ht1 := ht.chg k1 (by omega)
  have hk1 : Chg (· = g) w w1 := (Chg.of_below _ hB).trans k1 fun _ _ h => h
  have H1' := Lib.hid H1
  obtain ⟨v, e', h1, _, rfl, hR, hlow⟩ := H1
  obtain ⟨A, cap, rfl⟩ := hR.form
  obtain ⟨c0, c1, f0, f1⟩ := ref_cells h1
  obtain ⟨_, _, _, y3, _⟩ := ht1.cells
  have z3 := ht1.frozen 3
  have hRt := Lib.hid (hR.take' hn)
  have n1 : (n : Int) ≤ (r.length : Int) := by omega
  have n2 : (0 : Int) ≤ (n : Int) := by omega
  have c0' : (w1.setCell ⟨w.heap.size + 1, 3, none⟩ (.string ⟨(r.take n).toArray⟩)).cell? ⟨g, 0, none⟩ = some (.slice A r.length cap) := by
    exact (World.cell?_setCell_other _ ⟨w.heap.size + 1, 3, none⟩ ⟨g, 0, none⟩ _ (by intro h; injection h; omega)).trans c0
  clear h1
  have hcn : n ≤ cap := Nat.le_trans hn hR.cap
  obtain ⟨r1, r2⟩ := hR.drop' hn
  have r1 := Lib.hid r1
  have r2 := Lib.hid r2
  by_cases hcap : cap = n
  · have hR3 := r1.out hcap
    subst hcap
    have hH2 : RefAt (w1.setCell ⟨w.heap.size + 1, 3, none⟩ (.string ⟨(r.take cap).toArray⟩)) g N (.live r) := refAt_store H1'.out ht1 (by simp) (by omega)
    have hR4 : RB (w1.setCell ⟨w.heap.size + 1, 3, none⟩ (.string ⟨(r.take cap).toArray⟩)) (.slice A (r.length - cap) 0) (r.drop cap) := hR3.apart ht1 (no_u8 _ _ (by simp)) (by simp) (fun k hk hne => heap_setCell_other w1 ⟨w.heap.size + 1, 3, none⟩ k _ hne)
    have hH3 := hH2.go hR4 (fun _ _ h => absurd h (by omega))
    have hT2 : TB (w1.setCell ⟨w.heap.size + 1, 3, none⟩ (.string ⟨(r.take cap).toArray⟩)) (w.heap.size + 1) ⟨3, 0, false, r.take cap, []⟩ (.slice none 0 0) := by
      unfold TB; rw [heap_setCell_same w1 (w.heap.size + 1) 3 _ _ _ ht1]; rfl
    have hT3 := hT2.store (g := g) (i := 0) (by omega) (.slice A (r.length - cap) 0)
    have hz3 := (hz1.store (g := w.heap.size + 1) (i := 3) (by omega) (.string ⟨(r.take cap).toArray⟩)).store (g := g) (i := 0) (by omega) (.slice A (r.length - cap) 0)
    have hk3 := (hk1.setCell (p := ⟨w.heap.size + 1, 3, none⟩) (fun h => by have h' : w.heap.size + 1 < w.heap.size := h; omega) (.string ⟨(r.take cap).toArray⟩)).setCell (p := ⟨g, 0, none⟩) (fun _ => rfl) (.slice A (r.length - cap) 0)
    have hf3 := Lib.hid (fin_facts (t := ⟨3, 0, false, r.take cap, []⟩) (u := .slice none 0 0) hz3 hH3 hk3 (Nat.le_refl _) hg (by simp))
    have hT := Lib.hid hT3.at_
    have hz' := Lib.hid hz3
    clear hH2 hR4 hH3 hT2 hT3 hz3 hk3 hR3 hR hz1 ht1 hk1 k1 hz ht hB hW H hf H1'
    go_wp2_with (first
      | (refine wpList_conv rfl _ rfl (.slice A cap cap) (r.take cap) rfl hRt.out ?_)
      | (refine wpList_load_thing rfl _ rfl ⟨w.heap.size + 1, 0, none⟩ rfl ⟨3, 0, false, r.take cap, []⟩ (.slice none 0 0) hT.out ?_)
      | (refine wpList_store_thing rfl _ _ rfl w.heap.size rfl ⟨3, 0, false, r.take cap, []⟩ (.slice none 0 0) rfl rfl (zero 0) (.slice none 0 0) hz'.out ?_))
    obtain ⟨q0, q1, q2, q3, q4⟩ := hf3.out.1.cells
    exact bodyPost_ret (v := .agg #[.int .i64 3, .int .i64 0, .bool false, .string ⟨(r.take cap).toArray⟩, .slice none 0 0]) (by simp [results, Try.results13, go_sem, q0, q1, q2, q3, q4]) rfl ⟨_, rfl, ⟨_, rfl, RN.nil _⟩, hf3.out.2.1, hf3.out.2.2⟩
  · obtain ⟨ad, rfl, hR3⟩ := r2.out hcap
    have hH2 : RefAt (w1.setCell ⟨w.heap.size + 1, 3, none⟩ (.string ⟨(r.take n).toArray⟩)) g N (.live r) := refAt_store H1'.out ht1 (by simp) (by omega)
    have hR4 : RB (w1.setCell ⟨w.heap.size + 1, 3, none⟩ (.string ⟨(r.take n).toArray⟩)) (.slice (some (ad.add n)) (r.length - n) (cap - n)) (r.drop n) := hR3.apart ht1 (no_u8 _ _ (by simp)) (by simp) (fun k hk hne => heap_setCell_other w1 ⟨w.heap.size + 1, 3, none⟩ k _ hne)
    have hH3 := hH2.go hR4 (fun ad' h h0 => by injection h with h; subst h; rw [block_add']; exact hlow _ _ _ rfl (by omega))
    have hT2 : TB (w1.setCell ⟨w.heap.size + 1, 3, none⟩ (.string ⟨(r.take n).toArray⟩)) (w.heap.size + 1) ⟨3, 0, false, r.take n, []⟩ (.slice none 0 0) := by
      unfold TB; rw [heap_setCell_same w1 (w.heap.size + 1) 3 _ _ _ ht1]; rfl
    have hT3 := hT2.store (g := g) (i := 0) (by omega) (.slice (some (ad.add n)) (r.length - n) (cap - n))
    have hz3 := (hz1.store (g := w.heap.size + 1) (i := 3) (by omega) (.string ⟨(r.take n).toArray⟩)).store (g := g) (i := 0) (by omega) (.slice (some (ad.add n)) (r.length - n) (cap - n))
    have hk3 := (hk1.setCell (p := ⟨w.heap.size + 1, 3, none⟩) (fun h => by have h' : w.heap.size + 1 < w.heap.size := h; omega) (.string ⟨(r.take n).toArray⟩)).setCell (p := ⟨g, 0, none⟩) (fun _ => rfl) (.slice (some (ad.add n)) (r.length - n) (cap - n))
    have hf3 := Lib.hid (fin_facts (t := ⟨3, 0, false, r.take n, []⟩) (u := .slice none 0 0) hz3 hH3 hk3 (Nat.le_refl _) hg (by simp))
    have hT := Lib.hid hT3.at_
    have hz' := Lib.hid hz3
    clear hH2 hR4 hH3 hT2 hT3 hz3 hk3 hR3 hR hz1 ht1 hk1 k1 hz ht hB hW H hf H1'
    go_wp2_with (first
      | (refine wpList_conv rfl _ rfl (.slice (some ad) n cap) (r.take n) rfl hRt.out ?_)
      | (refine wpList_load_thing rfl _ rfl ⟨w.heap.size + 1, 0, none⟩ rfl ⟨3, 0, false, r.take n, []⟩ (.slice none 0 0) hT.out ?_)
      | (refine wpList_store_thing rfl _ _ rfl w.heap.size rfl ⟨3, 0, false, r.take n, []⟩ (.slice none 0 0) rfl rfl (zero 0) (.slice none 0 0) hz'.out ?_))
    obtain ⟨q0, q1, q2, q3, q4⟩ := hf3.out.1.cells
    exact bodyPost_ret (v := .agg #[.int .i64 3, .int .i64 0, .bool false, .string ⟨(r.take n).toArray⟩, .slice none 0 0]) (by simp [results, Try.results13, go_sem, q0, q1, q2, q3, q4]) rfl ⟨_, rfl, ⟨_, rfl, RN.nil _⟩, hf3.out.2.1, hf3.out.2.2⟩
end Go.Proofs.Ytmmfkepkdmmmkaa
