/- The laws' small functions: read. -/
import Derived.Test.YtmmfkepkdmmmkaaV1
set_option linter.unusedVariables false
set_option linter.unusedSimpArgs false
namespace Go.Proofs.Ytmmfkepkdmmmkaa
open Go.RowKit Go.Lib Wr

/-- The value of a thing whose list is new. -/
def ThO (w : World) (base : Nat) (v : Value) (t : Th) : Prop := ∃ u, v = .agg #[.int .i64 t.k, .int .i64 t.n, .bool t.b, .string ⟨t.d.toArray⟩, u] ∧ OwnN w base u t.l
theorem ThO.v {w : World} {base : Nat} {v : Value} {t : Th} (h : ThO w base v t) : ThV w v t := by
  obtain ⟨u, e, h⟩ := h
  exact ⟨u, e, h.rn⟩
theorem ThO.below {w w' : World} {base : Nat} {v : Value} {t : Th} (h : ThO w base v t) (hb : Below w.heap.size w w') : ThO w' base v t := by
  obtain ⟨u, e, h⟩ := h
  exact ⟨u, e, h.below hb⟩
theorem ThO.far {w w' : World} {base lo hi : Nat} {v : Value} {t : Th} (h : ThO w base v t) (k : Chg (Iv lo hi) w w') (hh : hi ≤ base) : ThO w' base v t := by
  obtain ⟨u, e, h⟩ := h
  exact ⟨u, e, h.chg k (fun i hi e => by obtain ⟨_, e2⟩ := e; omega)⟩

/-- What lies where behind the last steps of read. -/
theorem fin_read {w Wa : World} {g G lo hi : Nat} {s1 : St} {t t0 : Th} {u u0 : Value} (hz : TB Wa G t0 u0) (H : RdP Wa g lo hi s1) (k : Chg (Iv lo hi) w Wa) (hG : w.heap.size ≤ G) (hhi : hi ≤ w.heap.size) :
    TB (Wa.setRow G #[.int .i64 t.k, .int .i64 t.n, .bool t.b, .string ⟨t.d.toArray⟩, u]) G t u ∧ RdP (Wa.setRow G #[.int .i64 t.k, .int .i64 t.n, .bool t.b, .string ⟨t.d.toArray⟩, u]) g lo hi s1 ∧ Chg (Iv lo hi) w (Wa.setRow G #[.int .i64 t.k, .int .i64 t.n, .bool t.b, .string ⟨t.d.toArray⟩, u]) :=
  ⟨hz.set t u, H.kept (by rw [size_setRow]; exact Nat.le_refl _) (fun i _ hi => setRow_other _ G i _ (by omega)), k.setRow _ (G := G) (fun h => by omega)⟩
theorem rd_store {w : World} {g G i lo hi : Nat} {s : St} (h : RdP w g lo hi s) (v : Value) (hn : hi ≤ G) : RdP (w.setCell ⟨G, i, none⟩ v) g lo hi s :=
  h.kept (by simp) (fun k _ hk => heap_setCell_other w ⟨G, i, none⟩ k _ (by intro e; have e' : k = G := e; omega))
theorem chg_store {w w1 : World} {G i lo hi : Nat} (h : Chg (Iv lo hi) w w1) (v : Value) (hG : w.heap.size ≤ G) : Chg (Iv lo hi) w (w1.setCell ⟨G, i, none⟩ v) :=
  Chg.setCell (p := ⟨G, i, none⟩) h (fun h => by have h' : G < w.heap.size := h; omega) v

set_option maxHeartbeats 1000000 in
theorem read_0 (g lo hi : Nat) (s : St) (w : World) (H : RdP w g lo hi s) (hf : s.Few 100000) : Calls Try.prog 12 #[.pointer (some ⟨g, 0, none⟩), .int .i64 0] w fun r w' => ∃ v, r = .returned v ∧ ThO w' w.heap.size v ⟨0, (rdInt s).1, false, [], []⟩ ∧ RdP w' g lo hi (rdInt s).2 ∧ Chg (Iv lo hi) w w' := by
  have hg := H.hi
  obtain ⟨hz, ht, hB⟩ := two_new w 0
  have hW := H.below hB
  have hW2 : ((w.alloc (.cells #[.int .i64 0, .int .i64 0, .bool false, .string ⟨#[]⟩, .slice none 0 0] 33)).alloc (.cells #[.int .i64 0, .int .i64 0, .bool false, .string ⟨#[]⟩, .slice none 0 0] 33)).heap.size = w.heap.size + 2 := by simp
  obtain ⟨x, s1, hx⟩ : ∃ (x : Int) (s1 : St), rdInt s = (x, s1) := ⟨_, _, rfl⟩
  have hx' := Lib.hid hx
  rw [hx]
  clear hx
  go_enter Try.func12, Try.ntmps12
  go_wp2_with fail
  generalize (w.alloc (.cells #[.int .i64 0, .int .i64 0, .bool false, .string ⟨#[]⟩, .slice none 0 0] 33)).alloc (.cells #[.int .i64 0, .int .i64 0, .bool false, .string ⟨#[]⟩, .slice none 0 0] 33) = W at hz ht hB hW hW2 ⊢
  refine (cint_any g lo hi s W hW hf).mono ?_
  rintro r w1 ⟨rfl, H1, k1⟩
  rw [hx'.out] at H1 ⊢
  simp only at H1 ⊢
  have hz1 := hz.chg k1 (fun e => by obtain ⟨_, e2⟩ := e; omega)
  have ht1 := ht.chg k1 (fun e => by obtain ⟨_, e2⟩ := e; omega)
  have hk1 : Chg (Iv lo hi) w w1 := (Chg.of_below _ hB).trans k1 fun _ _ h => h
  obtain ⟨c0, c1, c2, c3, c4⟩ := ht1.cells
  have f1 := ht1.frozen 1
  have ht2 : TB (w1.setCell ⟨w.heap.size + 1, 1, none⟩ (.int .i64 x)) (w.heap.size + 1) ⟨0, x, false, [], []⟩ (.slice none 0 0) := by
    unfold TB; rw [heap_setCell_same w1 (w.heap.size + 1) 1 _ _ _ ht1]; rfl
  have hz2 := hz1.store (g := w.heap.size + 1) (i := 1) (by omega) (.int .i64 x)
  have hf3 := Lib.hid (fin_read (t := ⟨0, x, false, [], []⟩) (u := .slice none 0 0) hz2 (rd_store (G := w.heap.size + 1) (i := 1) H1 (.int .i64 x) (by omega)) (chg_store (G := w.heap.size + 1) (i := 1) hk1 (.int .i64 x) (by omega)) (Nat.le_refl _) hg)
  have hT := Lib.hid ht2.at_
  have hz' := Lib.hid hz2
  clear hz1 ht1 ht2 hz2 hk1 k1 H1 hz ht hB hW hW2
  go_wp2_with (first
    | (refine wpList_load_thing rfl _ rfl ⟨w.heap.size + 1, 0, none⟩ rfl ⟨0, x, false, [], []⟩ (.slice none 0 0) hT.out ?_)
    | (refine wpList_store_thing rfl _ _ rfl w.heap.size rfl ⟨0, x, false, [], []⟩ (.slice none 0 0) rfl rfl (zero 0) (.slice none 0 0) hz'.out ?_))
  obtain ⟨q0, q1, q2, q3, q4⟩ := hf3.out.1.cells
  exact bodyPost_ret (v := .agg #[.int .i64 0, .int .i64 x, .bool false, .string ⟨#[]⟩, .slice none 0 0]) (by simp [results, Try.results12, go_sem, q0, q1, q2, q3, q4]) rfl ⟨_, rfl, ⟨_, rfl, OwnN.nil _ _⟩, hf3.out.2.1, hf3.out.2.2⟩

set_option maxHeartbeats 1000000 in
theorem read_1 (g lo hi : Nat) (s : St) (w : World) (H : RdP w g lo hi s) (hf : s.Few 100000) : Calls Try.prog 12 #[.pointer (some ⟨g, 0, none⟩), .int .i64 1] w fun r w' => ∃ v, r = .returned v ∧ ThO w' w.heap.size v ⟨1, 0, (rdBool s).1, [], []⟩ ∧ RdP w' g lo hi (rdBool s).2 ∧ Chg (Iv lo hi) w w' := by
  have hg := H.hi
  obtain ⟨hz, ht, hB⟩ := two_new w 1
  have hW := H.below hB
  have hW2 : ((w.alloc (.cells #[.int .i64 0, .int .i64 0, .bool false, .string ⟨#[]⟩, .slice none 0 0] 33)).alloc (.cells #[.int .i64 1, .int .i64 0, .bool false, .string ⟨#[]⟩, .slice none 0 0] 33)).heap.size = w.heap.size + 2 := by simp
  obtain ⟨x, s1, hx⟩ : ∃ (x : Bool) (s1 : St), rdBool s = (x, s1) := ⟨_, _, rfl⟩
  have hx' := Lib.hid hx
  rw [hx]
  clear hx
  go_enter Try.func12, Try.ntmps12
  go_wp2_with fail
  generalize (w.alloc (.cells #[.int .i64 0, .int .i64 0, .bool false, .string ⟨#[]⟩, .slice none 0 0] 33)).alloc (.cells #[.int .i64 1, .int .i64 0, .bool false, .string ⟨#[]⟩, .slice none 0 0] 33) = W at hz ht hB hW hW2 ⊢
  refine (cbool_any g lo hi s W hW hf).mono ?_
  rintro r w1 ⟨rfl, H1, k1⟩
  rw [hx'.out] at H1 ⊢
  simp only at H1 ⊢
  have hz1 := hz.chg k1 (fun e => by obtain ⟨_, e2⟩ := e; omega)
  have ht1 := ht.chg k1 (fun e => by obtain ⟨_, e2⟩ := e; omega)
  have hk1 : Chg (Iv lo hi) w w1 := (Chg.of_below _ hB).trans k1 fun _ _ h => h
  obtain ⟨c0, c1, c2, c3, c4⟩ := ht1.cells
  have f1 := ht1.frozen 2
  have ht2 : TB (w1.setCell ⟨w.heap.size + 1, 2, none⟩ (.bool x)) (w.heap.size + 1) ⟨1, 0, x, [], []⟩ (.slice none 0 0) := by
    unfold TB; rw [heap_setCell_same w1 (w.heap.size + 1) 2 _ _ _ ht1]; rfl
  have hz2 := hz1.store (g := w.heap.size + 1) (i := 2) (by omega) (.bool x)
  have hf3 := Lib.hid (fin_read (t := ⟨1, 0, x, [], []⟩) (u := .slice none 0 0) hz2 (rd_store (G := w.heap.size + 1) (i := 2) H1 (.bool x) (by omega)) (chg_store (G := w.heap.size + 1) (i := 2) hk1 (.bool x) (by omega)) (Nat.le_refl _) hg)
  have hT := Lib.hid ht2.at_
  have hz' := Lib.hid hz2
  clear hz1 ht1 ht2 hz2 hk1 k1 H1 hz ht hB hW hW2
  go_wp2_with (first
    | (refine wpList_load_thing rfl _ rfl ⟨w.heap.size + 1, 0, none⟩ rfl ⟨1, 0, x, [], []⟩ (.slice none 0 0) hT.out ?_)
    | (refine wpList_store_thing rfl _ _ rfl w.heap.size rfl ⟨1, 0, x, [], []⟩ (.slice none 0 0) rfl rfl (zero 0) (.slice none 0 0) hz'.out ?_))
  obtain ⟨q0, q1, q2, q3, q4⟩ := hf3.out.1.cells
  exact bodyPost_ret (v := .agg #[.int .i64 1, .int .i64 0, .bool x, .string ⟨#[]⟩, .slice none 0 0]) (by simp [results, Try.results12, go_sem, q0, q1, q2, q3, q4]) rfl ⟨_, rfl, ⟨_, rfl, OwnN.nil _ _⟩, hf3.out.2.1, hf3.out.2.2⟩

set_option maxHeartbeats 1000000 in
theorem read_2 (g lo hi : Nat) (s : St) (w : World) (H : RdP w g lo hi s) (hf : s.Few 100000) : Calls Try.prog 12 #[.pointer (some ⟨g, 0, none⟩), .int .i64 2] w fun r w' => ∃ v, r = .returned v ∧ ThO w' w.heap.size v ⟨2, 0, false, (rdBytes s).1, []⟩ ∧ RdP w' g lo hi (rdBytes s).2 ∧ Chg (Iv lo hi) w w' := by
  have hg := H.hi
  obtain ⟨hz, ht, hB⟩ := two_new w 2
  have hW := H.below hB
  have hW2 : ((w.alloc (.cells #[.int .i64 0, .int .i64 0, .bool false, .string ⟨#[]⟩, .slice none 0 0] 33)).alloc (.cells #[.int .i64 2, .int .i64 0, .bool false, .string ⟨#[]⟩, .slice none 0 0] 33)).heap.size = w.heap.size + 2 := by simp
  obtain ⟨x, s1, hx⟩ : ∃ (x : Bs) (s1 : St), rdBytes s = (x, s1) := ⟨_, _, rfl⟩
  have hx' := Lib.hid hx
  rw [hx]
  clear hx
  go_enter Try.func12, Try.ntmps12
  go_wp2_with fail
  generalize (w.alloc (.cells #[.int .i64 0, .int .i64 0, .bool false, .string ⟨#[]⟩, .slice none 0 0] 33)).alloc (.cells #[.int .i64 2, .int .i64 0, .bool false, .string ⟨#[]⟩, .slice none 0 0] 33) = W at hz ht hB hW hW2 ⊢
  refine (cbytes_any g lo hi s W hW hf).mono ?_
  rintro r w1 ⟨v1, rfl, O1, H1, k1⟩
  rw [hx'.out] at H1 O1
  simp only at H1 O1 ⊢
  have hz1 := hz.chg k1 (fun e => by obtain ⟨_, e2⟩ := e; omega)
  have ht1 := ht.chg k1 (fun e => by obtain ⟨_, e2⟩ := e; omega)
  have hk1 : Chg (Iv lo hi) w w1 := (Chg.of_below _ hB).trans k1 fun _ _ h => h
  have hR1 := Lib.hid O1.rb
  obtain ⟨c0, c1, c2, c3, c4⟩ := ht1.cells
  have f1 := ht1.frozen 3
  have ht2 : TB (w1.setCell ⟨w.heap.size + 1, 3, none⟩ (.string ⟨x.toArray⟩)) (w.heap.size + 1) ⟨2, 0, false, x, []⟩ (.slice none 0 0) := by
    unfold TB; rw [heap_setCell_same w1 (w.heap.size + 1) 3 _ _ _ ht1]; rfl
  have hz2 := hz1.store (g := w.heap.size + 1) (i := 3) (by omega) (.string ⟨x.toArray⟩)
  have hf3 := Lib.hid (fin_read (t := ⟨2, 0, false, x, []⟩) (u := .slice none 0 0) hz2 (rd_store (G := w.heap.size + 1) (i := 3) H1 (.string ⟨x.toArray⟩) (by omega)) (chg_store (G := w.heap.size + 1) (i := 3) hk1 (.string ⟨x.toArray⟩) (by omega)) (Nat.le_refl _) hg)
  have hT := Lib.hid ht2.at_
  have hz' := Lib.hid hz2
  clear hz1 ht1 ht2 hz2 hk1 k1 H1 hz ht hB hW hW2 O1
  go_wp2_with (first
    | (refine wpList_conv rfl _ rfl v1 x rfl hR1.out ?_)
    | (refine wpList_load_thing rfl _ rfl ⟨w.heap.size + 1, 0, none⟩ rfl ⟨2, 0, false, x, []⟩ (.slice none 0 0) hT.out ?_)
    | (refine wpList_store_thing rfl _ _ rfl w.heap.size rfl ⟨2, 0, false, x, []⟩ (.slice none 0 0) rfl rfl (zero 0) (.slice none 0 0) hz'.out ?_))
  obtain ⟨q0, q1, q2, q3, q4⟩ := hf3.out.1.cells
  exact bodyPost_ret (v := .agg #[.int .i64 2, .int .i64 0, .bool false, .string ⟨x.toArray⟩, .slice none 0 0]) (by simp [results, Try.results12, go_sem, q0, q1, q2, q3, q4]) rfl ⟨_, rfl, ⟨_, rfl, OwnN.nil _ _⟩, hf3.out.2.1, hf3.out.2.2⟩

set_option maxHeartbeats 1000000 in
theorem read_3 (g lo hi : Nat) (s : St) (w : World) (H : RdP w g lo hi s) (hf : s.Few 100000) : Calls Try.prog 12 #[.pointer (some ⟨g, 0, none⟩), .int .i64 3] w fun r w' => ∃ v, r = .returned v ∧ ThO w' w.heap.size v ⟨3, 0, false, (rdBytes s).1, []⟩ ∧ RdP w' g lo hi (rdBytes s).2 ∧ Chg (Iv lo hi) w w' := by
  have hg := H.hi
  obtain ⟨hz, ht, hB⟩ := two_new w 3
  have hW := H.below hB
  have hW2 : ((w.alloc (.cells #[.int .i64 0, .int .i64 0, .bool false, .string ⟨#[]⟩, .slice none 0 0] 33)).alloc (.cells #[.int .i64 3, .int .i64 0, .bool false, .string ⟨#[]⟩, .slice none 0 0] 33)).heap.size = w.heap.size + 2 := by simp
  obtain ⟨x, s1, hx⟩ : ∃ (x : Bs) (s1 : St), rdBytes s = (x, s1) := ⟨_, _, rfl⟩
  have hx' := Lib.hid hx
  rw [hx]
  clear hx
  go_enter Try.func12, Try.ntmps12
  go_wp2_with fail
  generalize (w.alloc (.cells #[.int .i64 0, .int .i64 0, .bool false, .string ⟨#[]⟩, .slice none 0 0] 33)).alloc (.cells #[.int .i64 3, .int .i64 0, .bool false, .string ⟨#[]⟩, .slice none 0 0] 33) = W at hz ht hB hW hW2 ⊢
  refine (cstring_any g lo hi s W hW hf).mono ?_
  rintro r w1 ⟨rfl, H1, k1⟩
  rw [hx'.out] at H1 ⊢
  simp only at H1 ⊢
  have hz1 := hz.chg k1 (fun e => by obtain ⟨_, e2⟩ := e; omega)
  have ht1 := ht.chg k1 (fun e => by obtain ⟨_, e2⟩ := e; omega)
  have hk1 : Chg (Iv lo hi) w w1 := (Chg.of_below _ hB).trans k1 fun _ _ h => h
  obtain ⟨c0, c1, c2, c3, c4⟩ := ht1.cells
  have f1 := ht1.frozen 3
  have ht2 : TB (w1.setCell ⟨w.heap.size + 1, 3, none⟩ (.string ⟨x.toArray⟩)) (w.heap.size + 1) ⟨3, 0, false, x, []⟩ (.slice none 0 0) := by
    unfold TB; rw [heap_setCell_same w1 (w.heap.size + 1) 3 _ _ _ ht1]; rfl
  have hz2 := hz1.store (g := w.heap.size + 1) (i := 3) (by omega) (.string ⟨x.toArray⟩)
  have hf3 := Lib.hid (fin_read (t := ⟨3, 0, false, x, []⟩) (u := .slice none 0 0) hz2 (rd_store (G := w.heap.size + 1) (i := 3) H1 (.string ⟨x.toArray⟩) (by omega)) (chg_store (G := w.heap.size + 1) (i := 3) hk1 (.string ⟨x.toArray⟩) (by omega)) (Nat.le_refl _) hg)
  have hT := Lib.hid ht2.at_
  have hz' := Lib.hid hz2
  clear hz1 ht1 ht2 hz2 hk1 k1 H1 hz ht hB hW hW2
  go_wp2_with (first
    | (refine wpList_load_thing rfl _ rfl ⟨w.heap.size + 1, 0, none⟩ rfl ⟨3, 0, false, x, []⟩ (.slice none 0 0) hT.out ?_)
    | (refine wpList_store_thing rfl _ _ rfl w.heap.size rfl ⟨3, 0, false, x, []⟩ (.slice none 0 0) rfl rfl (zero 0) (.slice none 0 0) hz'.out ?_))
  obtain ⟨q0, q1, q2, q3, q4⟩ := hf3.out.1.cells
  exact bodyPost_ret (v := .agg #[.int .i64 3, .int .i64 0, .bool false, .string ⟨x.toArray⟩, .slice none 0 0]) (by simp [results, Try.results12, go_sem, q0, q1, q2, q3, q4]) rfl ⟨_, rfl, ⟨_, rfl, OwnN.nil _ _⟩, hf3.out.2.1, hf3.out.2.2⟩

set_option maxHeartbeats 1000000 in
theorem read_4 (g lo hi : Nat) (s : St) (w : World) (H : RdP w g lo hi s) (hf : s.Few 100000) : Calls Try.prog 12 #[.pointer (some ⟨g, 0, none⟩), .int .i64 4] w fun r w' => ∃ v, r = .returned v ∧ ThO w' w.heap.size v ⟨4, 0, false, [], (rdInts s).1⟩ ∧ RdP w' g lo hi (rdInts s).2 ∧ Chg (Iv lo hi) w w' := by
  have hg := H.hi
  obtain ⟨hz, ht, hB⟩ := two_new w 4
  have hW := H.below hB
  have hW2 : ((w.alloc (.cells #[.int .i64 0, .int .i64 0, .bool false, .string ⟨#[]⟩, .slice none 0 0] 33)).alloc (.cells #[.int .i64 4, .int .i64 0, .bool false, .string ⟨#[]⟩, .slice none 0 0] 33)).heap.size = w.heap.size + 2 := by simp
  obtain ⟨x, s1, hx⟩ : ∃ (x : List Int) (s1 : St), rdInts s = (x, s1) := ⟨_, _, rfl⟩
  have hx' := Lib.hid hx
  rw [hx]
  clear hx
  go_enter Try.func12, Try.ntmps12
  go_wp2_with fail
  generalize (w.alloc (.cells #[.int .i64 0, .int .i64 0, .bool false, .string ⟨#[]⟩, .slice none 0 0] 33)).alloc (.cells #[.int .i64 4, .int .i64 0, .bool false, .string ⟨#[]⟩, .slice none 0 0] 33) = W at hz ht hB hW hW2 ⊢
  refine (cints_any g lo hi s W hW hf).mono ?_
  rintro r w1 ⟨v1, rfl, O1, H1, k1⟩
  rw [hx'.out] at H1 O1
  simp only at H1 O1 ⊢
  have hz1 := hz.chg k1 (fun e => by obtain ⟨_, e2⟩ := e; omega)
  have ht1 := ht.chg k1 (fun e => by obtain ⟨_, e2⟩ := e; omega)
  have hk1 : Chg (Iv lo hi) w w1 := (Chg.of_below _ hB).trans k1 fun _ _ h => h
  obtain ⟨A, cap, rfl⟩ := O1.form
  have hWs : W.heap.size = w.heap.size + 2 := hW2
  obtain ⟨c0, c1, c2, c3, c4⟩ := ht1.cells
  have f1 := ht1.frozen 4
  have ht2 : TB (w1.setCell ⟨w.heap.size + 1, 4, none⟩ (.slice A x.length cap)) (w.heap.size + 1) ⟨4, 0, false, [], []⟩ (.slice A x.length cap) := by
    unfold TB; rw [heap_setCell_same w1 (w.heap.size + 1) 4 _ _ _ ht1]; rfl
  have hz2 := hz1.store (g := w.heap.size + 1) (i := 4) (by omega) (.slice A x.length cap)
  have hf3 := Lib.hid (fin_read (t := ⟨4, 0, false, [], []⟩) (u := .slice A x.length cap) hz2 (rd_store (G := w.heap.size + 1) (i := 4) H1 (.slice A x.length cap) (by omega)) (chg_store (G := w.heap.size + 1) (i := 4) hk1 (.slice A x.length cap) (by omega)) (Nat.le_refl _) hg)
  have hT := Lib.hid ht2.at_
  have hz' := Lib.hid hz2
  have O3 : OwnN ((w1.setCell ⟨w.heap.size + 1, 4, none⟩ (.slice A x.length cap)).setRow w.heap.size #[.int .i64 4, .int .i64 0, .bool false, .string ⟨#[]⟩, .slice A x.length cap]) w.heap.size (.slice A x.length cap) x := by
    refine OwnN.mono (base := W.heap.size) ?_ (by omega)
    exact O1.kept fun i hi => by
      have hb := (World.ownsRow.lt O1 i hi).1
      rw [setRow_other _ _ _ _ (by omega), heap_setCell_other w1 ⟨w.heap.size + 1, 4, none⟩ i _ (by intro e; have e' : i = w.heap.size + 1 := e; omega)]
  have O3 := Lib.hid O3
  clear hz1 ht1 ht2 hz2 hk1 k1 H1 hz ht hB hW O1 hWs hW2
  go_wp2_with (first
    | (refine wpList_load_thing rfl _ rfl ⟨w.heap.size + 1, 0, none⟩ rfl ⟨4, 0, false, [], []⟩ (.slice A x.length cap) hT.out ?_)
    | (refine wpList_store_thing rfl _ _ rfl w.heap.size rfl ⟨4, 0, false, [], []⟩ (.slice A x.length cap) rfl rfl (zero 0) (.slice none 0 0) hz'.out ?_))
  obtain ⟨q0, q1, q2, q3, q4⟩ := hf3.out.1.cells
  exact bodyPost_ret (v := .agg #[.int .i64 4, .int .i64 0, .bool false, .string ⟨#[]⟩, .slice A x.length cap]) (by simp [results, Try.results12, go_sem, q0, q1, q2, q3, q4]) rfl ⟨_, rfl, ⟨_, rfl, O3.out⟩, hf3.out.2.1, hf3.out.2.2⟩

/-- read. -/
theorem read_any (g lo hi : Nat) (k : Int) (s : St) (w : World) (H : RdP w g lo hi s) (hf : s.Few 100000) (hk : 0 ≤ k ∧ k ≤ 4) : Calls Try.prog 12 #[.pointer (some ⟨g, 0, none⟩), .int .i64 k] w fun r w' => ∃ v, r = .returned v ∧ ThO w' w.heap.size v (Wr.get k s).1 ∧ RdP w' g lo hi (Wr.get k s).2 ∧ Chg (Iv lo hi) w w' := by
  unfold Wr.get
  by_cases h0 : k = 0
  · subst h0; rw [if_pos rfl]; exact read_0 g lo hi s w H hf
  by_cases h1 : k = 1
  · subst h1; rw [if_neg h0, if_pos rfl]; exact read_1 g lo hi s w H hf
  by_cases h2 : k = 2 ∨ k = 3
  · rw [if_neg h0, if_neg h1, if_pos h2]
    rcases h2 with rfl | rfl
    · exact read_2 g lo hi s w H hf
    · exact read_3 g lo hi s w H hf
  · obtain rfl : k = 4 := by omega
    rw [if_neg h0, if_neg h1, if_neg h2, if_pos rfl]
    exact read_4 g lo hi s w H hf
end Go.Proofs.Ytmmfkepkdmmmkaa
