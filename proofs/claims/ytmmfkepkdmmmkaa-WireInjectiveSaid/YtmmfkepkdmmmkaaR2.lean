/- The reference: Put. -/
import Derived.Test.YtmmfkepkdmmmkaaR1
set_option linter.unusedVariables false
namespace Go.Proofs.Ytmmfkepkdmmmkaa
open Go.RowKit Go.Lib Wr

theorem ints_take {l : List Int} {k : Nat} {z : Int} (h : l[k]? = some z) : Wr.ints (l.take (k + 1)) = Wr.ints (l.take k) ++ Wr.int z := by
  unfold Wr.ints
  rw [List.take_add_one, h]
  simp
theorem ints_len (l : List Int) (h : ∀ x ∈ l, I64 x) : (Wr.ints l).length ≤ 10 * l.length := by
  induction l with
  | nil => simp [Wr.ints]
  | cons a l ih =>
    rw [Wr.ints_cons, List.length_append, List.length_cons]
    have := Wr.int_len10 (h a (by simp))
    have := ih fun x hx => h x (by simp [hx])
    omega

theorem rput_int (n : Int) (b : Bool) (d : Bs) (u : Value) (w : World) (hn : I64 n) : Calls Try.prog 19 #[.agg #[.int .i64 0, .int .i64 n, .bool b, .string ⟨d.toArray⟩, u]] w fun r w' => ∃ v, r = .returned v ∧ OwnB w' w.heap.size v (Wr.int n) ∧ Below w.heap.size w w' := by
  have hB : Below w.heap.size w (w.alloc (.cells #[.int .i64 0, .int .i64 n, .bool b, .string ⟨d.toArray⟩, u] 33)) := (Below.refl _ _).alloc (Nat.le_refl _) _
  go_enter Try.func19, Try.ntmps19
  go_wp2_with fail
  refine (rint_any n hn _).mono ?_
  rintro r w1 ⟨v, rfl, O, b1⟩
  have O1 := Lib.hid (O.mono (b := w.heap.size) (by simp))
  go_wp2
  go_ret
  exact ⟨_, rfl, O1.out, then_ hB b1⟩

theorem rput_bool (n : Int) (b : Bool) (d : Bs) (u : Value) (w : World) : Calls Try.prog 19 #[.agg #[.int .i64 1, .int .i64 n, .bool b, .string ⟨d.toArray⟩, u]] w fun r w' => ∃ v, r = .returned v ∧ OwnB w' w.heap.size v [if b then 1 else 0] ∧ Below w.heap.size w w' := by
  have hB : Below w.heap.size w (w.alloc (.cells #[.int .i64 1, .int .i64 n, .bool b, .string ⟨d.toArray⟩, u] 33)) := (Below.refl _ _).alloc (Nat.le_refl _) _
  cases b with
  | true =>
    go_enter Try.func19, Try.ntmps19
    go_wp2
    go_ret
    have O := OwnB.one _ hB.size 1
    rw [World.size_alloc] at O
    exact ⟨_, rfl, O, hB.alloc hB.size _⟩
  | false =>
    go_enter Try.func19, Try.ntmps19
    go_wp2
    go_ret
    have O := OwnB.one _ hB.size 0
    rw [World.size_alloc] at O
    exact ⟨_, rfl, O, hB.alloc hB.size _⟩

theorem rput_text (k n : Int) (b : Bool) (d : Bs) (u : Value) (w : World) (hk : k = 2 ∨ k = 3) (hd : d.length ≤ 10000) : Calls Try.prog 19 #[.agg #[.int .i64 k, .int .i64 n, .bool b, .string ⟨d.toArray⟩, u]] w fun r w' => ∃ v, r = .returned v ∧ OwnB w' w.heap.size v (Wr.int d.length ++ d) ∧ Below w.heap.size w w' := by
  have hB : Below w.heap.size w (w.alloc (.cells #[.int .i64 k, .int .i64 n, .bool b, .string ⟨d.toArray⟩, u] 33)) := (Below.refl _ _).alloc (Nat.le_refl _) _
  have hT := thAt_new w ⟨k, n, b, d, []⟩ u
  have hc := hT.2.2.2.1
  have hi : I64 (d.length : Int) := i64_len (by omega)
  have h63 : (Wr.int (d.length : Int)).length + d.length ≤ 100000000 := by have := int_len10 hi; omega
  clear hT
  rcases hk with rfl | rfl
  · go_enter Try.func19, Try.ntmps19
    go_wp2_with fail
    generalize w.alloc (.cells #[.int .i64 2, .int .i64 n, .bool b, .string ⟨d.toArray⟩, u] 33) = W at hB hc ⊢
    have hWs := hB.size
    have hc' : W.cell? ⟨w.heap.size, 3, none⟩ = some (.string ⟨d.toArray⟩) := hc
    have hWlt : w.heap.size < W.heap.size := World.block_lt_of_cell? W ⟨w.heap.size, 3, none⟩ hc'
    go_region_held3 (fun w' => w'.cell? ⟨w.heap.size, 3, none⟩ = some (.string ⟨d.toArray⟩)) (first | exact hc' | exact cell_keep (w := W.drew) hc' (by assumption) | exact (World.grownBy.cell_far hg2 ⟨w.heap.size, 3, none⟩ (Nat.lt_of_lt_of_le hWlt b1.size) (fun e => by have := (World.ownsRow.lt O1 _ e.symm).1; simp only [World.size_drew] at this; omega)).trans (cell_keep (w := W.drew) hc' b1)) (first | (go_at_call 35; refine (rint_any (d.length : Int) hi _).mono ?_; rintro r w1 ⟨v1, rfl, O1, b1⟩) | (refine step_append_str rfl _ _ rfl w.heap.size v1 _ rfl (O1.mono hWs) d rfl h63 (Nat.le_trans hWs b1.size) ?_; intro v2 w2 O2 hg2))
    have B1 : Below w.heap.size w w1 := then_ hB.drew b1
    have B2 : Below w.heap.size w w2 := grown_below B1 (O1.mono hWs) B1.size hg2
    have O2' := Lib.hid O2
    clear O2 hg2 O1
    go_wp2
    go_ret
    exact ⟨_, rfl, O2'.out, B2⟩
  · go_enter Try.func19, Try.ntmps19
    go_wp2_with fail
    generalize w.alloc (.cells #[.int .i64 3, .int .i64 n, .bool b, .string ⟨d.toArray⟩, u] 33) = W at hB hc ⊢
    have hWs := hB.size
    have hc' : W.cell? ⟨w.heap.size, 3, none⟩ = some (.string ⟨d.toArray⟩) := hc
    have hWlt : w.heap.size < W.heap.size := World.block_lt_of_cell? W ⟨w.heap.size, 3, none⟩ hc'
    go_region_held3 (fun w' => w'.cell? ⟨w.heap.size, 3, none⟩ = some (.string ⟨d.toArray⟩)) (first | exact hc' | exact cell_keep (w := W.drew) hc' (by assumption) | exact (World.grownBy.cell_far hg2 ⟨w.heap.size, 3, none⟩ (Nat.lt_of_lt_of_le hWlt b1.size) (fun e => by have := (World.ownsRow.lt O1 _ e.symm).1; simp only [World.size_drew] at this; omega)).trans (cell_keep (w := W.drew) hc' b1)) (first | (go_at_call 35; refine (rint_any (d.length : Int) hi _).mono ?_; rintro r w1 ⟨v1, rfl, O1, b1⟩) | (refine step_append_str rfl _ _ rfl w.heap.size v1 _ rfl (O1.mono hWs) d rfl h63 (Nat.le_trans hWs b1.size) ?_; intro v2 w2 O2 hg2))
    have B1 : Below w.heap.size w w1 := then_ hB.drew b1
    have B2 : Below w.heap.size w w2 := grown_below B1 (O1.mono hWs) B1.size hg2
    have O2' := Lib.hid O2
    clear O2 hg2 O1
    go_wp2
    go_ret
    exact ⟨_, rfl, O2'.out, B2⟩

theorem rput_ints (n : Int) (b : Bool) (d : Bs) (u : Value) (l : List Int) (w : World) (hu : RN w u l) (hl : l.length ≤ 10000) (h64 : ∀ x ∈ l, I64 x) : Calls Try.prog 19 #[.agg #[.int .i64 4, .int .i64 n, .bool b, .string ⟨d.toArray⟩, u]] w fun r w' => ∃ v, r = .returned v ∧ OwnB w' w.heap.size v (Wr.int l.length ++ Wr.ints l) ∧ Below w.heap.size w w' := by
  have hB : Below w.heap.size w (w.alloc (.cells #[.int .i64 4, .int .i64 n, .bool b, .string ⟨d.toArray⟩, u] 33)) := (Below.refl _ _).alloc (Nat.le_refl _) _
  have hT := thAt_new w ⟨4, n, b, d, []⟩ u
  have hc : (w.alloc (.cells #[.int .i64 4, .int .i64 n, .bool b, .string ⟨d.toArray⟩, u] 33)).cell? ⟨w.heap.size, 4, none⟩ = some u := hT.2.2.2.2
  have hi : I64 (l.length : Int) := i64_len (by omega)
  clear hT
  have hu' := Lib.hid hu
  obtain ⟨A, cap, rfl⟩ := hu.form
  clear hu
  have h10 := int_len10 hi
  obtain ⟨H, hH⟩ : ∃ H, Wr.int (l.length : Int) = H := ⟨_, rfl⟩
  rw [hH] at h10
  go_enter Try.func19, Try.ntmps19
  go_wp2_with fail
  generalize w.alloc (.cells #[.int .i64 4, .int .i64 n, .bool b, .string ⟨d.toArray⟩, .slice A l.length cap] 33) = W at hB hc ⊢
  have hWs := hB.size
  have hWlt : w.heap.size < W.heap.size := World.block_lt_of_cell? W ⟨w.heap.size, 4, none⟩ hc
  go_wp2_with fail
  refine (rint_any (l.length : Int) hi _).mono ?_
  rintro r w1 ⟨v1, rfl, O1, b1⟩
  rw [hH] at O1
  have O1' := Lib.hid O1
  clear O1
  have hcc : ∀ w', Below W.heap.size W w' → w'.cell? ⟨w.heap.size, 4, none⟩ = some (.slice A l.length cap) := fun w' h => cell_keep hc h
  have huu : ∀ w', Below W.heap.size W w' → RN w' (.slice A l.length cap) l := fun w' h => (hu'.out.below hB).below h
  have hcc := Lib.hid hcc
  have huu := Lib.hid huu
  have c1 := hcc.out w1 b1
  go_wp2_with fail
  go_loopw [3, 4] (fun v i w' => ∃ k : Nat, i = .int .i64 (k : Int) ∧ k ≤ l.length ∧ OwnB w' W.heap.size v (H ++ Wr.ints (l.take k)) ∧ Below W.heap.size W w') (fun _ i _ => l.length - (intOf i).toNat)
  case atStart => exact ⟨0, rfl, by omega, by simpa [Wr.ints] using O1'.out, b1⟩
  case round =>
    obtain ⟨k, rfl, hk, hO, hB2⟩ := hrel
    have c2 := hcc.out wr hB2
    by_cases hlt : k < l.length
    · obtain ⟨z, hz⟩ : ∃ z, l[k]? = some z := ⟨_, List.getElem?_eq_getElem hlt⟩
      obtain ⟨ad, rfl, c0⟩ := (huu.out wr hB2).at_ hz
      have e1 : (k : Int) < (l.length : Int) := by omega
      have e2 : (0 : Int) ≤ (k : Int) := by omega
      have hst := Lib.hid (ints_take hz)
      have hzi := h64 z (List.mem_of_getElem? hz)
      have hil := ints_len (l.take k) (fun x hx => h64 x (List.mem_of_mem_take hx))
      have hzl := int_len10 hzi
      have hO' := Lib.hid hO
      clear hO hz c1
      go_wp2_with fail
      refine (rint_any z hzi wr).mono ?_
      rintro r w2 ⟨v2, rfl, O2, b2⟩
      have B2 : Below W.heap.size W w2 := then_ hB2 b2
      have hR2 := O2.rb
      have O2b := Lib.hid (hO'.out.below b2)
      have h63 : (H ++ Wr.ints (l.take k)).length + (Wr.int z).length ≤ 100000000 := by
        rw [List.length_append]
        have : (l.take k).length ≤ k := by rw [List.length_take]; omega
        omega
      have hbs := B2.size
      clear c0 c2
      go_wp2_with (at_builtin; refine wpList_append_bytes rfl _ _ rfl W.heap.size _ (H ++ Wr.ints (l.take k)) rfl O2b.out v2 (Wr.int z) rfl hR2 h63 hbs ?_; intro v3 w3 hO3 hg3 _)
      have hB3 := grown_below B2 O2b.out hbs hg3
      rw [List.append_assoc, ← hst.out] at hO3
      go_roundw
      case rel => exact ⟨k + 1, by go_num, by omega, hO3, hB3⟩
      case measure => simp [intOf]; omega
    · obtain rfl : k = l.length := by omega
      rw [List.take_length] at hO
      have hO' := Lib.hid hO
      clear hO c1
      go_wp2
      go_ret
      exact ⟨_, rfl, hH ▸ hO'.out.mono hWs, hB.trans (hB2.mono hWs)⟩

/-- Put. -/
theorem rput_any (t : Th) (u : Value) (w : World) (hw : WfT t) (hu : RN w u t.l) (hd : t.d.length ≤ 10000) (hl : t.l.length ≤ 10000) : Calls Try.prog 19 #[.agg #[.int .i64 t.k, .int .i64 t.n, .bool t.b, .string ⟨t.d.toArray⟩, u]] w fun r w' => ∃ v, r = .returned v ∧ OwnB w' w.heap.size v (Wr.put t) ∧ Below w.heap.size w w' := by
  obtain ⟨k, n, b, d, l⟩ := t
  have hk := hw.k
  have hwn := hw.n
  have hwl := hw.l
  simp only at hk hwn hwl hu hd hl
  unfold Wr.put
  simp only
  by_cases h0 : k = 0
  · subst h0; simp only [if_true]; exact rput_int n b d u w hwn
  by_cases h1 : k = 1
  · subst h1; rw [if_neg (by decide), if_pos rfl]; exact rput_bool n b d u w
  by_cases h2 : k = 2 ∨ k = 3
  · rw [if_neg h0, if_neg h1, if_pos h2]; exact rput_text k n b d u w h2 hd
  · obtain rfl : k = 4 := by omega
    rw [if_neg h0, if_neg h1, if_neg h2, if_pos rfl]
    exact rput_ints n b d u l w hu hl hwl.2
end Go.Proofs.Ytmmfkepkdmmmkaa
