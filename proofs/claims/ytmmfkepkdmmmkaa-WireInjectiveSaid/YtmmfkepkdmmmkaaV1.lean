/- The laws' small functions: write, read. -/
import Derived.Test.YtmmfkepkdmmmkaaC1
set_option linter.unusedVariables false
set_option linter.unusedSimpArgs false
namespace Go.Proofs.Ytmmfkepkdmmmkaa
open Go.RowKit Go.Lib Wr

theorem rb_of_string (w : World) (d : Bs) : ∃ v w', (convert 9 22 (.string ⟨d.toArray⟩)).run Try.prog w = .ok v w' ∧ RB w' v d ∧ Below w.heap.size w w' ∧ ∀ ad n c, v = .slice (some ad) n c → 0 < c → w.heap.size ≤ ad.block := by
  have hs : (⟨d.toArray⟩ : ByteArray).size = d.length := by simp [ByteArray.size]
  refine ⟨_, _, run_bytes_of_string w 9 22 5 ⟨d.toArray⟩ Try.underlying9 Try.underlying22 Try.underlying5, ?_, ((Below.refl _ w).drew).alloc (Nat.le_refl _) _, fun ad n c e _ => by injection e with e1; injection e1 with e1; subst e1; exact Nat.le_refl _⟩
  rw [hs]
  refine .inr ⟨⟨w.heap.size, 0, none⟩, _, rfl, grownCap_ge _ _ _ _, (fun _ => by rw [World.size_alloc]; simp), fun j b hj => ?_⟩
  have hb := heap_alloc_new w.drew (.cells (bytesRow ⟨d.toArray⟩ (grownCap w d.length 0 5)) 5 ((bytesRow ⟨d.toArray⟩ (grownCap w d.length 0 5)).size, (bytesRow ⟨d.toArray⟩ (grownCap w d.length 0 5)).size + 1))
  rw [World.size_drew] at hb
  have hjl := (List.getElem?_eq_some_iff.1 hj).1
  have hadd : (⟨w.heap.size, 0, none⟩ : Addr).add j = ⟨w.heap.size, j, none⟩ := by unfold Addr.add; split <;> simp_all
  rw [hadd, cell_of_row _ _ j _ _ _ hb, bytesRow_at _ _ j (by simpa using hjl)]
  have := (List.getElem?_eq_some_iff.1 hj).2
  simp [this]
theorem wpList_bytes {ops : Array Oper} {rest : List Oper} {o : Oper} {a : Act} {w : World} {Q : Exit → Act → World → Prop} (hgd : o.guard = none) (x : Operand) (ho : o.op = .convert 9 22 x) (d : Bs) (hx : a.eval x = .string ⟨d.toArray⟩)
    (h : ∀ v w', RB w' v d → Below w.heap.size w w' → (∀ ad n c, v = .slice (some ad) n c → 0 < c → w.heap.size ≤ ad.block) → wpList Try.prog ops Q rest (a.put o.dst v) w') : wpList Try.prog ops Q (o :: rest) a w :=
  wpList_plain hgd fun _ hK => by
    obtain ⟨v, w', hr, h1, h2, h3⟩ := rb_of_string w d
    unfold Oper.wp execOp
    simp only [ho, hx, Sem.run_bind, Sem.run_pure, Result.andThen_ok, hr]
    exact hK _ _ (h v w' h1 h2 h3)

theorem write_int (g B : Nat) (l : Bs) (n : Int) (b : Bool) (d : Bs) (u : Value) (w : World) (H : WrP w g B l) (hBw : B ≤ w.heap.size) (hn : I64 n) (hl : l.length ≤ 100000) : Calls Try.prog 20 #[.pointer (some ⟨g, 0, none⟩), .agg #[.int .i64 0, .int .i64 n, .bool b, .string ⟨d.toArray⟩, u]] w fun r w' => (∃ u, r = .returned u) ∧ WrP w' g B (l ++ Wr.int n) ∧ Below B w w' := by
  have hB : Below w.heap.size w (w.alloc (.cells #[.int .i64 0, .int .i64 n, .bool b, .string ⟨d.toArray⟩, u] 33)) := (Below.refl _ _).alloc (Nat.le_refl _) _
  have H' := Lib.hid (H.below hB)
  go_enter Try.func20, Try.ntmps20
  go_wp2_with fail
  refine (pint_any g B l n _ H'.out hn hl).mono ?_
  rintro r w1 ⟨⟨u1, rfl⟩, H1, b1⟩
  have H1' := Lib.hid H1
  clear H1
  go_wp2
  go_end0
  exact ⟨⟨_, rfl⟩, H1'.out, (hB.mono hBw).trans b1⟩

theorem write_bool (g B : Nat) (l : Bs) (n : Int) (b : Bool) (d : Bs) (u : Value) (w : World) (H : WrP w g B l) (hBw : B ≤ w.heap.size) (hl : l.length ≤ 100000) : Calls Try.prog 20 #[.pointer (some ⟨g, 0, none⟩), .agg #[.int .i64 1, .int .i64 n, .bool b, .string ⟨d.toArray⟩, u]] w fun r w' => (∃ u, r = .returned u) ∧ WrP w' g B (l ++ [if b then 1 else 0]) ∧ Below B w w' := by
  have hB : Below w.heap.size w (w.alloc (.cells #[.int .i64 1, .int .i64 n, .bool b, .string ⟨d.toArray⟩, u] 33)) := (Below.refl _ _).alloc (Nat.le_refl _) _
  have H' := Lib.hid (H.below hB)
  cases b with
  | true =>
    go_enter Try.func20, Try.ntmps20
    go_wp2_with fail
    refine (pbool_any g B l true _ H'.out hl).mono ?_
    rintro r w1 ⟨⟨u1, rfl⟩, H1, b1⟩
    have H1' := Lib.hid H1
    clear H1
    go_wp2
    go_end0
    exact ⟨⟨_, rfl⟩, H1'.out, (hB.mono hBw).trans b1⟩
  | false =>
    go_enter Try.func20, Try.ntmps20
    go_wp2_with fail
    refine (pbool_any g B l false _ H'.out hl).mono ?_
    rintro r w1 ⟨⟨u1, rfl⟩, H1, b1⟩
    have H1' := Lib.hid H1
    clear H1
    go_wp2
    go_end0
    exact ⟨⟨_, rfl⟩, H1'.out, (hB.mono hBw).trans b1⟩

theorem write_bytes (g B : Nat) (l : Bs) (n : Int) (b : Bool) (d : Bs) (u : Value) (w : World) (H : WrP w g B l) (hBw : B ≤ w.heap.size) (hd : d.length ≤ 100000) (hl : l.length ≤ 100000) : Calls Try.prog 20 #[.pointer (some ⟨g, 0, none⟩), .agg #[.int .i64 2, .int .i64 n, .bool b, .string ⟨d.toArray⟩, u]] w fun r w' => (∃ u, r = .returned u) ∧ WrP w' g B (l ++ (Wr.int d.length ++ d)) ∧ Below B w w' := by
  have hB : Below w.heap.size w (w.alloc (.cells #[.int .i64 2, .int .i64 n, .bool b, .string ⟨d.toArray⟩, u] 33)) := (Below.refl _ _).alloc (Nat.le_refl _) _
  have H' := Lib.hid (H.below hB)
  go_enter Try.func20, Try.ntmps20
  go_wp2_with (refine wpList_bytes rfl _ rfl d rfl ?_; intro v2 w2 hv2 hb2 hn2)
  refine (pbytes_any g B l v2 d _ _ H'.out hb2 hv2 hn2 hd hl).mono ?_
  rintro r w1 ⟨⟨u1, rfl⟩, H1, b1⟩
  have H1' := Lib.hid H1
  clear H1
  go_wp2
  go_end0
  exact ⟨⟨_, rfl⟩, H1'.out, ((hB.mono hBw).trans (hb2.mono (Nat.le_trans hBw hB.size))).trans b1⟩

theorem write_str (g B : Nat) (l : Bs) (n : Int) (b : Bool) (d : Bs) (u : Value) (w : World) (H : WrP w g B l) (hBw : B ≤ w.heap.size) (hd : d.length ≤ 100000) (hl : l.length ≤ 100000) : Calls Try.prog 20 #[.pointer (some ⟨g, 0, none⟩), .agg #[.int .i64 3, .int .i64 n, .bool b, .string ⟨d.toArray⟩, u]] w fun r w' => (∃ u, r = .returned u) ∧ WrP w' g B (l ++ (Wr.int d.length ++ d)) ∧ Below B w w' := by
  have hB : Below w.heap.size w (w.alloc (.cells #[.int .i64 3, .int .i64 n, .bool b, .string ⟨d.toArray⟩, u] 33)) := (Below.refl _ _).alloc (Nat.le_refl _) _
  have H' := Lib.hid (H.below hB)
  go_enter Try.func20, Try.ntmps20
  go_wp2_with fail
  refine (pstring_any g B l d _ H'.out hd hl).mono ?_
  rintro r w1 ⟨⟨u1, rfl⟩, H1, b1⟩
  have H1' := Lib.hid H1
  clear H1
  go_wp2
  go_end0
  exact ⟨⟨_, rfl⟩, H1'.out, (hB.mono hBw).trans b1⟩

theorem write_ints (g B : Nat) (l : Bs) (n : Int) (b : Bool) (d : Bs) (u : Value) (m : List Int) (w : World) (H : WrP w g B l) (hBw : B ≤ w.heap.size) (hu : RN w u m) (hm : m.length ≤ 10000) (h64 : ∀ x ∈ m, I64 x) (hl : l.length ≤ 100000) : Calls Try.prog 20 #[.pointer (some ⟨g, 0, none⟩), .agg #[.int .i64 4, .int .i64 n, .bool b, .string ⟨d.toArray⟩, u]] w fun r w' => (∃ u, r = .returned u) ∧ WrP w' g B (l ++ (Wr.int m.length ++ Wr.ints m)) ∧ Below B w w' := by
  have hB : Below w.heap.size w (w.alloc (.cells #[.int .i64 4, .int .i64 n, .bool b, .string ⟨d.toArray⟩, u] 33)) := (Below.refl _ _).alloc (Nat.le_refl _) _
  have hB2 : Below w.heap.size w ((w.alloc (.cells #[.int .i64 4, .int .i64 n, .bool b, .string ⟨d.toArray⟩, u] 33)).alloc (.cells #[] 3)) := hB.alloc hB.size _
  have H' := Lib.hid (H.below hB)
  have hE := OwnN.empty (w.alloc (.cells #[.int .i64 4, .int .i64 n, .bool b, .string ⟨d.toArray⟩, u] 33)) (Nat.le_refl _)
  rw [World.size_alloc] at hE
  have hsz : w.heap.size + 1 ≤ ((w.alloc (.cells #[.int .i64 4, .int .i64 n, .bool b, .string ⟨d.toArray⟩, u] 33)).alloc (.cells #[] 3)).heap.size := by simp
  have h63 : ([] : List Int).length + m.length ≤ 1000000 := by simp; omega
  have hB3 : Below (w.heap.size + 1) (w.alloc (.cells #[.int .i64 4, .int .i64 n, .bool b, .string ⟨d.toArray⟩, u] 33)) ((w.alloc (.cells #[.int .i64 4, .int .i64 n, .bool b, .string ⟨d.toArray⟩, u] 33)).alloc (.cells #[] 3)) := by
    have := (Below.refl _ (w.alloc (.cells #[.int .i64 4, .int .i64 n, .bool b, .string ⟨d.toArray⟩, u] 33))).alloc (Nat.le_refl _) (.cells #[] 3)
    rw [World.size_alloc] at this; exact this
  have hu' := Lib.hid (hu.below hB2)
  obtain ⟨A, c, rfl⟩ := hu.form
  clear hu
  go_enter Try.func20, Try.ntmps20
  go_wp2_with (at_builtin; refine wpList_append_ints rfl _ _ rfl (w.heap.size + 1) _ [] rfl hE _ m rfl hu'.out h63 hsz ?_; intro v2 w2 hO2 hg2 _)
  have b2 : Below w.heap.size w w2 := hB2.grown hg2 hB2.size (fun k hk => by have := (World.ownsRow.lt hE k hk).1; omega)
  have H3 : Below (w.alloc (.cells #[.int .i64 4, .int .i64 n, .bool b, .string ⟨d.toArray⟩, .slice A m.length c] 33)).heap.size (w.alloc (.cells #[.int .i64 4, .int .i64 n, .bool b, .string ⟨d.toArray⟩, .slice A m.length c] 33)) w2 := by
    rw [World.size_alloc]
    exact hB3.grown hg2 hsz (fun k hk => (World.ownsRow.lt hE k hk).1)
  rw [List.nil_append] at hO2
  refine (pints_any g B l v2 m _ _ (w.heap.size + 1) H'.out H3 hO2 (by rw [World.size_alloc]; exact Nat.le_refl _) hm h64 hl).mono ?_
  rintro r w1 ⟨⟨u1, rfl⟩, H1, b1⟩
  have H1' := Lib.hid H1
  clear H1
  go_wp2
  go_end0
  exact ⟨⟨_, rfl⟩, H1'.out, (b2.mono hBw).trans b1⟩

/-- write. -/
theorem write_any (g B : Nat) (l : Bs) (t : Th) (u : Value) (w : World) (H : WrP w g B l) (hBw : B ≤ w.heap.size) (hw : WfT t) (hu : RN w u t.l) (hd : t.d.length ≤ 10000) (ht : t.l.length ≤ 10000) (hl : l.length ≤ 100000) : Calls Try.prog 20 #[.pointer (some ⟨g, 0, none⟩), .agg #[.int .i64 t.k, .int .i64 t.n, .bool t.b, .string ⟨t.d.toArray⟩, u]] w fun r w' => (∃ u, r = .returned u) ∧ WrP w' g B (l ++ Wr.put t) ∧ Below B w w' := by
  obtain ⟨k, n, b, d, m⟩ := t
  have hk := hw.k
  have hwn := hw.n
  have hwl := hw.l
  simp only at hk hwn hwl hu hd ht
  unfold Wr.put
  simp only
  by_cases h0 : k = 0
  · subst h0; simp only [if_true]; exact write_int g B l n b d u w H hBw hwn hl
  by_cases h1 : k = 1
  · subst h1; rw [if_neg (by decide), if_pos rfl]; exact write_bool g B l n b d u w H hBw hl
  by_cases h2 : k = 2 ∨ k = 3
  · rw [if_neg h0, if_neg h1, if_pos h2]
    rcases h2 with rfl | rfl
    · exact write_bytes g B l n b d u w H hBw (by omega) hl
    · exact write_str g B l n b d u w H hBw (by omega) hl
  · obtain rfl : k = 4 := by omega
    rw [if_neg h0, if_neg h1, if_neg h2, if_pos rfl]
    exact write_ints g B l n b d u m w H hBw hu ht hwl.2 hl
end Go.Proofs.Ytmmfkepkdmmmkaa
