/- The reference's reader: Get. -/
import Derived.Test.YtmmfkepkdmmmkaaR8
set_option linter.unusedVariables false
namespace Go.Proofs.Ytmmfkepkdmmmkaa
open Go.RowKit Go.Lib Wr

/-- A thing in a block of its own. -/
def TB (w : World) (G : Nat) (t : Th) (u : Value) : Prop := w.heap[G]? = some (.cells #[.int .i64 t.k, .int .i64 t.n, .bool t.b, .string ⟨t.d.toArray⟩, u] 33 (0, 0))
theorem TB.at_ {w : World} {G : Nat} {t : Th} {u : Value} (h : TB w G t u) : ThAt w ⟨G, 0, none⟩ t u := by
  refine ⟨?_, ?_, ?_, ?_, ?_⟩
  · rw [cell_of_row _ _ 0 _ _ _ h]; rfl
  · show World.cell? _ ⟨G, 1, none⟩ = _; rw [cell_of_row _ _ 1 _ _ _ h]; rfl
  · show World.cell? _ ⟨G, 2, none⟩ = _; rw [cell_of_row _ _ 2 _ _ _ h]; rfl
  · show World.cell? _ ⟨G, 3, none⟩ = _; rw [cell_of_row _ _ 3 _ _ _ h]; rfl
  · show World.cell? _ ⟨G, 4, none⟩ = _; rw [cell_of_row _ _ 4 _ _ _ h]; rfl
theorem TB.cells {w : World} {G : Nat} {t : Th} {u : Value} (h : TB w G t u) : w.cell? ⟨G, 0, none⟩ = some (.int .i64 t.k) ∧ w.cell? ⟨G, 1, none⟩ = some (.int .i64 t.n) ∧ w.cell? ⟨G, 2, none⟩ = some (.bool t.b) ∧ w.cell? ⟨G, 3, none⟩ = some (.string ⟨t.d.toArray⟩) ∧ w.cell? ⟨G, 4, none⟩ = some u :=
  ⟨by rw [cell_of_row _ _ 0 _ _ _ h]; rfl, by rw [cell_of_row _ _ 1 _ _ _ h]; rfl, by rw [cell_of_row _ _ 2 _ _ _ h]; rfl, by rw [cell_of_row _ _ 3 _ _ _ h]; rfl, by rw [cell_of_row _ _ 4 _ _ _ h]; rfl⟩
theorem TB.lt {w : World} {G : Nat} {t : Th} {u : Value} (h : TB w G t u) : G < w.heap.size := (Array.getElem?_eq_some_iff.1 h).1
theorem TB.frozen {w : World} {G : Nat} {t : Th} {u : Value} (h : TB w G t u) (i : Nat) : w.frozen? ⟨G, i, none⟩ = false := by
  unfold World.frozen?; rw [h]; simp
theorem TB.chg {S : Nat → Prop} {w w' : World} {G : Nat} {t : Th} {u : Value} (h : TB w G t u) (k : Chg S w w') (hn : ¬ S G) : TB w' G t u := k.at h hn
theorem info_thing (c : Array Value) (h : c.size = 5) : (Try.prog.info? 33).map (·.size) = some c.size := by rw [h]; kernel_rfl
/-- The whole thing stored. -/
theorem wpList_store_thing {ops : Array Oper} {rest : List Oper} {o : Oper} {a : Act} {w : World} {Q : Exit → Act → World → Prop} (hgd : o.guard = none) (x y : Operand) (ho : o.op = .store 33 x y) (G : Nat) (hx : a.eval x = .pointer (some ⟨G, 0, none⟩)) (t : Th) (u : Value) (hy : a.eval y = .agg #[.int .i64 t.k, .int .i64 t.n, .bool t.b, .string ⟨t.d.toArray⟩, u]) (hu : u.oneCell' = true) (t0 : Th) (u0 : Value) (hs : TB w G t0 u0)
    (h : wpList Try.prog ops Q rest (a.put o.dst undef) (w.setRow G #[.int .i64 t.k, .int .i64 t.n, .bool t.b, .string ⟨t.d.toArray⟩, u])) : wpList Try.prog ops Q (o :: rest) a w :=
  wpList_store_row hgd _ x y ho G _ hx hy 33 _ hs (info_thing _ rfl) rfl (by have h1 := hu; simp [Value.oneCell'] at h1 ⊢; exact h1) h
theorem setRow_other (w : World) (g k : Nat) (cs : Array Value) (h : k ≠ g) : (w.setRow g cs).heap[k]? = w.heap[k]? := by
  unfold World.setRow
  simp [Array.getElem?_modify, Ne.symm h]
theorem TB.set {w : World} {G : Nat} {t0 : Th} {u0 : Value} (hs : TB w G t0 u0) (t : Th) (u : Value) : TB (w.setRow G #[.int .i64 t.k, .int .i64 t.n, .bool t.b, .string ⟨t.d.toArray⟩, u]) G t u := setRow_heap _ _ _ _ _ _ hs
theorem Chg.setRow {S : Nat → Prop} {w a : World} (h : Chg S w a) {G : Nat} (cs : Array Value) (hG : G < w.heap.size → S G) : Chg S w (a.setRow G cs) :=
  ⟨h.os, h.tape, h.output, by unfold World.setRow; simpa using h.size, fun k hk hn => (setRow_other a G k cs (fun e => hn (e ▸ hG (e ▸ hk)))).trans (h.block k hk hn)⟩
theorem size_setRow (w : World) (G : Nat) (cs : Array Value) : (w.setRow G cs).heap.size = w.heap.size := by unfold World.setRow; simp

/-- Bytes do not lie in a block that holds none. -/
theorem RB.apart {w w' : World} {v : Value} {l : Bs} (h : RB w v l) {g : Nat} {cs : Array Value} {t : TypeId} {fr : Nat × Nat} (hg : w.heap[g]? = some (.cells cs t fr)) (hno : ∀ (i : Nat) (z : Int), cs[i]? ≠ some (.int .u8 z)) (hs : w.heap.size ≤ w'.heap.size) (hk : ∀ k, k < w.heap.size → k ≠ g → w'.heap[k]? = w.heap[k]?) : RB w' v l := by
  rcases h with h | ⟨ad, c, e1, hl0, hl, hc⟩
  · exact .inl h
  · refine .inr ⟨ad, c, e1, hl0, fun h => Nat.lt_of_lt_of_le (hl h) hs, fun j z hj => ?_⟩
    have hc0 : 0 < c := by have := (List.getElem?_eq_some_iff.1 hj).1; omega
    have h2 := hc j z hj
    by_cases hb : ad.block = g
    · exfalso
      unfold World.cell? at h2
      rw [block_add', hb, hg] at h2
      simp only at h2
      split at h2
      · cases h2
      · exact hno _ _ h2
    · unfold World.cell? at h2 ⊢
      rw [block_add'] at h2 ⊢
      rw [hk _ (hl hc0) hb]; exact h2
theorem no_u8 (t : Th) (u : Value) (hu : ∀ z, u ≠ .int .u8 z) : ∀ (i : Nat) (z : Int), (#[Value.int .i64 t.k, .int .i64 t.n, .bool t.b, .string ⟨t.d.toArray⟩, u] : Array Value)[i]? ≠ some (.int .u8 z) := by
  intro i z h
  match i, h with
  | 0, h => simp at h
  | 1, h => simp at h
  | 2, h => simp at h
  | 3, h => simp at h
  | 4, h => simp at h; exact hu z h
  | i + 5, h => simp at h
theorem RefAt.apart {w w' : World} {g N : Nat} {s : St} (h : RefAt w g N s) {G : Nat} {t : Th} {u : Value} (hT : TB w G t u) (hu : ∀ z, u ≠ .int .u8 z) (hn : g ≠ G) (hs : w.heap.size ≤ w'.heap.size) (hk : ∀ k, k < w.heap.size → k ≠ G → w'.heap[k]? = w.heap[k]?) : RefAt w' g N s := by
  have hl := h.lt
  obtain ⟨v, e, h1, h2, h3⟩ := h
  refine ⟨v, e, (hk g hl hn).trans h1, h2, ?_⟩
  cases s with
  | live b => exact ⟨h3.1, h3.2.1.apart hT (no_u8 t u hu) hs hk, h3.2.2⟩
  | dead x => exact h3

theorem two_new (w : World) (k : Int) : TB ((w.alloc (.cells #[.int .i64 0, .int .i64 0, .bool false, .string ⟨#[]⟩, .slice none 0 0] 33)).alloc (.cells #[.int .i64 k, .int .i64 0, .bool false, .string ⟨#[]⟩, .slice none 0 0] 33)) w.heap.size (zero 0) (.slice none 0 0) ∧
    TB ((w.alloc (.cells #[.int .i64 0, .int .i64 0, .bool false, .string ⟨#[]⟩, .slice none 0 0] 33)).alloc (.cells #[.int .i64 k, .int .i64 0, .bool false, .string ⟨#[]⟩, .slice none 0 0] 33)) (w.heap.size + 1) (zero k) (.slice none 0 0) ∧
    Below w.heap.size w ((w.alloc (.cells #[.int .i64 0, .int .i64 0, .bool false, .string ⟨#[]⟩, .slice none 0 0] 33)).alloc (.cells #[.int .i64 k, .int .i64 0, .bool false, .string ⟨#[]⟩, .slice none 0 0] 33)) := by
  refine ⟨?_, ?_, ((Below.refl _ _).alloc (Nat.le_refl _) _).alloc (by simp) _⟩
  · unfold TB; rw [Below.heap_alloc _ _ _ (by simp)]; exact heap_alloc_new w _
  · have := heap_alloc_new (w.alloc (.cells #[.int .i64 0, .int .i64 0, .bool false, .string ⟨#[]⟩, .slice none 0 0] 33)) (.cells #[.int .i64 k, .int .i64 0, .bool false, .string ⟨#[]⟩, .slice none 0 0] 33)
    rw [World.size_alloc] at this; exact this

theorem rdget_int (g : Nat) {N : Nat} (s : St) (w : World) (H : RefAt w g N s) (hf : s.Few 100000) : Calls Try.prog 13 #[.pointer (some ⟨g, 0, none⟩), .int .i64 0] w fun r w' => ∃ v, r = .returned v ∧ ThV w' v ⟨0, (rdInt s).1, false, [], []⟩ ∧ RefAt w' g N (rdInt s).2 ∧ Chg (· = g) w w' := by
  have hg := H.lt
  obtain ⟨hz, ht, hB⟩ := two_new w 0
  have hW := H.below hB
  obtain ⟨n, s1, hx⟩ : ∃ n s1, rdInt s = (n, s1) := ⟨_, _, rfl⟩
  have hx' := Lib.hid hx
  rw [hx]
  clear hx
  go_enter Try.func13, Try.ntmps13
  go_wp2_with fail
  generalize (w.alloc (.cells #[.int .i64 0, .int .i64 0, .bool false, .string ⟨#[]⟩, .slice none 0 0] 33)).alloc (.cells #[.int .i64 0, .int .i64 0, .bool false, .string ⟨#[]⟩, .slice none 0 0] 33) = W at hz ht hB hW ⊢
  refine (rdint_any g s W hW hf).mono ?_
  rintro r w1 ⟨rfl, H1, k1⟩
  rw [hx'.out] at H1 ⊢
  have hz1 := hz.chg k1 (by omega)
  have ht1 := ht.chg k1 (by omega)
  obtain ⟨c0, c1, c2, c3, c4⟩ := ht1.cells
  have f1 := ht1.frozen 1
  have ht2 : TB (w1.setCell ⟨w.heap.size + 1, 1, none⟩ (.int .i64 n)) (w.heap.size + 1) ⟨0, n, false, [], []⟩ (.slice none 0 0) := by
    unfold TB; rw [heap_setCell_same w1 (w.heap.size + 1) 1 _ _ _ ht1]; rfl
  have hz2 : TB (w1.setCell ⟨w.heap.size + 1, 1, none⟩ (.int .i64 n)) w.heap.size (zero 0) (.slice none 0 0) := by
    unfold TB; rw [heap_setCell_other w1 ⟨w.heap.size + 1, 1, none⟩ _ _ (by simp)]; exact hz1
  have hT2 := Lib.hid ht2.at_
  have hf3 := Lib.hid (hz2.set ⟨0, n, false, [], []⟩ (.slice none 0 0))
  have hz2' := Lib.hid hz2
  have hH2 : RefAt (w1.setCell ⟨w.heap.size + 1, 1, none⟩ (.int .i64 n)) g N s1 := H1.apart ht1 (by simp) (by omega) (by simp) (fun k hk hn => heap_setCell_other w1 ⟨w.heap.size + 1, 1, none⟩ k _ hn)
  have hH3 := Lib.hid (hH2.apart hz2 (by simp) (by omega) (by rw [size_setRow]; exact Nat.le_refl _) (fun k hk hn => setRow_other _ w.heap.size k #[.int .i64 0, .int .i64 n, .bool false, .string ⟨#[]⟩, .slice none 0 0] hn))
  have hk1 : Chg (· = g) w w1 := (Chg.of_below _ hB).trans k1 fun _ _ h => h
  have hk3 := Lib.hid ((hk1.setCell (p := ⟨w.heap.size + 1, 1, none⟩) (fun h => by have h' : w.heap.size + 1 < w.heap.size := h; omega) (.int .i64 n)).setRow #[.int .i64 0, .int .i64 n, .bool false, .string ⟨#[]⟩, .slice none 0 0] (G := w.heap.size) (fun h => by omega))
  clear hz1 ht1 ht2 hz2 hH2 hk1 k1 H1 hz ht hB hW
  go_wp2_with (first
    | (refine wpList_load_thing rfl _ rfl ⟨w.heap.size + 1, 0, none⟩ rfl ⟨0, n, false, [], []⟩ (.slice none 0 0) hT2.out ?_)
    | (refine wpList_store_thing rfl _ _ rfl w.heap.size rfl ⟨0, n, false, [], []⟩ (.slice none 0 0) rfl rfl (zero 0) (.slice none 0 0) hz2'.out ?_))
  obtain ⟨q0, q1, q2, q3, q4⟩ := hf3.out.cells
  exact bodyPost_ret (v := .agg #[.int .i64 0, .int .i64 n, .bool false, .string ⟨#[]⟩, .slice none 0 0]) (by simp [results, Try.results13, go_sem, q0, q1, q2, q3, q4]) rfl ⟨_, rfl, ⟨_, rfl, RN.nil _⟩, hH3.out, hk3.out⟩

/-- The last steps: what lies where. -/
theorem fin_facts {w Wa : World} {g G N : Nat} {s1 : St} {t t0 : Th} {u u0 : Value} (hz : TB Wa G t0 u0) (H : RefAt Wa g N s1) (k : Chg (· = g) w Wa) (hG : w.heap.size ≤ G) (hg : g < w.heap.size) (hu0 : ∀ z, u0 ≠ .int .u8 z) :
    TB (Wa.setRow G #[.int .i64 t.k, .int .i64 t.n, .bool t.b, .string ⟨t.d.toArray⟩, u]) G t u ∧ RefAt (Wa.setRow G #[.int .i64 t.k, .int .i64 t.n, .bool t.b, .string ⟨t.d.toArray⟩, u]) g N s1 ∧ Chg (· = g) w (Wa.setRow G #[.int .i64 t.k, .int .i64 t.n, .bool t.b, .string ⟨t.d.toArray⟩, u]) :=
  ⟨hz.set t u, H.apart hz hu0 (by omega) (by rw [size_setRow]; exact Nat.le_refl _) (fun k hk hn => setRow_other _ G k _ hn), k.setRow _ (G := G) (fun h => by omega)⟩
/-- A reader's cell is stored: the things stay. -/
theorem TB.store {w : World} {G : Nat} {t : Th} {u : Value} (h : TB w G t u) {g i : Nat} (hn : G ≠ g) (v : Value) : TB (w.setCell ⟨g, i, none⟩ v) G t u := by
  unfold TB; rw [heap_setCell_other w ⟨g, i, none⟩ _ _ hn]; exact h
theorem refAt_store {w : World} {g G i N : Nat} {s : St} {t : Th} {u v : Value} (h : RefAt w g N s) (hT : TB w G t u) (hu : ∀ z, u ≠ .int .u8 z) (hn : g ≠ G) : RefAt (w.setCell ⟨G, i, none⟩ v) g N s :=
  h.apart hT hu hn (by simp) (fun k hk hne => heap_setCell_other w ⟨G, i, none⟩ k _ hne)

theorem two_below (w0 : World) (o1 o2 : Obj) : Below w0.heap.size w0 ((w0.alloc o1).alloc o2) := ((Below.refl _ _).alloc (Nat.le_refl _) o1).alloc (by simp) o2
set_option maxHeartbeats 1000000 in
theorem rdget_bool (g : Nat) {N : Nat} (s : St) (w : World) (H : RefAt w g N s) : Calls Try.prog 13 #[.pointer (some ⟨g, 0, none⟩), .int .i64 1] w fun r w' => ∃ v, r = .returned v ∧ ThV w' v ⟨1, 0, (rdBool s).1, [], []⟩ ∧ RefAt w' g N (rdBool s).2 ∧ Chg (· = g) w w' := by
  have hg := H.lt
  have hB := Lib.hid two_below
  have hH := Lib.hid H
  cases s with
  | dead e =>
    have hx : rdBool (.dead e) = (false, .dead e) := rfl
    rw [hx]
    clear hx
    obtain ⟨v, e', h1, _, rfl, h0⟩ := H
    obtain ⟨c0, c1, _, _⟩ := ref_cells h1
    have t1 : ((e : Int) != 0) = true := by simp; omega
    have t2 : ¬ e = 0 := h0
    clear h1
    go_enter Try.func13, Try.ntmps13
    go_wp2
    exact bodyPost_ret (v := .agg #[.int .i64 1, .int .i64 0, .bool false, .string ⟨#[]⟩, .slice none 0 0]) (by simp [results, Try.results13, go_sem]) rfl ⟨_, rfl, ⟨_, rfl, RN.nil _⟩, hH.out.below (hB.out _ _ _), Chg.of_below _ (hB.out _ _ _)⟩
  | live b =>
    obtain ⟨v, e', h1, _, rfl, hR, hlow⟩ := H
    obtain ⟨c0, c1, f0, f1⟩ := ref_cells h1
    clear h1
    cases b with
    | nil =>
      obtain ⟨A, cap, rfl⟩ := hR.form
      have hx : rdBool (.live []) = (false, .dead 11) := rfl
      rw [hx]
      rw [List.length_nil] at c0
      clear hx hR
      go_enter Try.func13, Try.ntmps13
      go_wp2
      exact bodyPost_ret (v := .agg #[.int .i64 1, .int .i64 0, .bool false, .string ⟨#[]⟩, .slice none 0 0]) (by simp [results, Try.results13, go_sem]) rfl ⟨_, rfl, ⟨_, rfl, RN.nil _⟩, (hH.out.die (x := 11) (by omega)).below (hB.out _ _ _), (Chg.one w g 1 _).then (hB.out _ _ _)⟩
    | cons c t =>
      obtain ⟨A, cap, rfl⟩ := hR.form
      obtain ⟨ad, rfl, d0⟩ := hR.at_ (j := 0) (b := c) rfl
      rw [add_zero'] at d0
      have had := World.block_lt_of_cell? w ad d0
      have hl0 := hlow _ _ _ rfl (Nat.lt_of_lt_of_le (by simp : 0 < (c :: t).length) hR.cap)
      have hl1 : ∀ (c' : Nat) ad', some ad = some ad' → 0 < c' → (ad'.block < N ∧ N ≤ g) := fun c' ad' h _ => by injection h with h; subst h; exact hl0
      have hl2 : ∀ (o c' : Nat) ad', some (⟨ad.block, o, none⟩ : Addr) = some ad' → 0 < c' → (ad'.block < N ∧ N ≤ g) := fun o c' ad' h _ => by injection h with h; subst h; exact hl0
      have hl1' := Lib.hid hl1
      have hl2' := Lib.hid hl2
      clear hl0 hl1 hl2 hlow
      obtain ⟨r1, r2⟩ := hR.dropc (k := 0) (by simp)
      rw [List.drop_one, List.tail_cons] at r1 r2
      have r1 := Lib.hid r1
      have r2 := Lib.hid r2
      rw [List.length_cons] at c0 r1 r2
      have e1 : (0 : Int) < ((t.length + 1 : Nat) : Int) := by omega
      clear hR
      by_cases hc : 1 < c.toNat
      · have hx : rdBool (.live (c :: t)) = (false, .dead 2) := by simp only [rdBool, if_pos hc]
        rw [hx]
        have e2 : (1 : Int) < (c.toNat : Int) := by omega
        clear hx
        go_enter Try.func13, Try.ntmps13
        go_wp2
        exact bodyPost_ret (v := .agg #[.int .i64 1, .int .i64 0, .bool false, .string ⟨#[]⟩, .slice none 0 0]) (by simp [results, Try.results13, go_sem]) rfl ⟨_, rfl, ⟨_, rfl, RN.nil _⟩, (hH.out.die (x := 2) (by omega)).below (hB.out _ _ _), (Chg.one w g 1 _).then (hB.out _ _ _)⟩
      · have e2 : ¬ (1 : Int) < (c.toNat : Int) := by omega
        by_cases hc1 : c.toNat = 1
        · have hx : rdBool (.live (c :: t)) = (true, .live t) := by simp only [rdBool, if_neg hc, hc1]; rfl
          rw [hx]
          have e3 : ((c.toNat : Int) == 1) = true := by simp [hc1]
          clear hx hc hc1
          by_cases hcap : cap = 1
          · have r3 := Lib.hid (r1.out hcap)
            go_enter Try.func13, Try.ntmps13
            go_wp2
            exact bodyPost_ret (v := .agg #[.int .i64 1, .int .i64 0, .bool true, .string ⟨#[]⟩, .slice none 0 0]) (by simp [results, Try.results13, go_sem]) rfl ⟨_, rfl, ⟨_, rfl, RN.nil _⟩, (hH.out.go r3.out (hl1'.out _)).below (hB.out _ _ _), (Chg.one w g 0 _).then (hB.out _ _ _)⟩
          · go_enter Try.func13, Try.ntmps13
            go_wp2
            exact bodyPost_ret (v := .agg #[.int .i64 1, .int .i64 0, .bool true, .string ⟨#[]⟩, .slice none 0 0]) (by simp [results, Try.results13, go_sem]) rfl ⟨_, rfl, ⟨_, rfl, RN.nil _⟩, (hH.out.go r2.out (hl2'.out _ _)).below (hB.out _ _ _), (Chg.one w g 0 _).then (hB.out _ _ _)⟩
        · have hx : rdBool (.live (c :: t)) = (false, .live t) := by simp only [rdBool, if_neg hc]; simp [hc1]
          rw [hx]
          have e3 : ((c.toNat : Int) == 1) = false := by simp; omega
          clear hx hc hc1
          by_cases hcap : cap = 1
          · have r3 := Lib.hid (r1.out hcap)
            go_enter Try.func13, Try.ntmps13
            go_wp2
            exact bodyPost_ret (v := .agg #[.int .i64 1, .int .i64 0, .bool false, .string ⟨#[]⟩, .slice none 0 0]) (by simp [results, Try.results13, go_sem]) rfl ⟨_, rfl, ⟨_, rfl, RN.nil _⟩, (hH.out.go r3.out (hl1'.out _)).below (hB.out _ _ _), (Chg.one w g 0 _).then (hB.out _ _ _)⟩
          · go_enter Try.func13, Try.ntmps13
            go_wp2
            exact bodyPost_ret (v := .agg #[.int .i64 1, .int .i64 0, .bool false, .string ⟨#[]⟩, .slice none 0 0]) (by simp [results, Try.results13, go_sem]) rfl ⟨_, rfl, ⟨_, rfl, RN.nil _⟩, (hH.out.go r2.out (hl2'.out _ _)).below (hB.out _ _ _), (Chg.one w g 0 _).then (hB.out _ _ _)⟩
end Go.Proofs.Ytmmfkepkdmmmkaa
