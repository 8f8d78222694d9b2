/- Bytes that a call owns; append; the reference: Bytes, Link, Words. -/
import Derived.Test.YtopgdglcfmikiaaDoorW2
namespace Go.Proofs.YtopgdglcfmikiaaDoor
open Go.RowKit Go.Lib Cs

def bcs (l : List Nat) : List Value := l.map fun (b : Nat) => Value.int .u8 (b : Int)
def OwnB (w : World) (base : Nat) (v : Value) (l : List Nat) : Prop := w.ownsRow base 5 1 v l.length (bcs l)
theorem infoU8 : (Tryd.prog.info? 5).map (fun i => (i.zero, i.size, i.bytes)) = some (some (.int .u8 0), 1, 1) := by kernel_rfl
theorem one_bcs (l : List Nat) : ∀ u ∈ bcs l, u.oneCell' = true := by
  intro u hu
  simp [bcs] at hu
  obtain ⟨a, _, rfl⟩ := hu
  rfl
theorem OwnB.nil (w : World) (base : Nat) : OwnB w base (.slice none 0 0) [] := World.ownsRow_nil _ _ _ _
theorem OwnB.form {w : World} {base : Nat} {v : Value} {l : List Nat} (h : OwnB w base v l) : ∃ A c, v = .slice A l.length c := by
  rcases h.2 with ⟨h1, h2⟩ | ⟨g, cap, _, h1, _⟩
  · exact ⟨none, 0, by rw [h1, h2]⟩
  · exact ⟨_, _, h1⟩
theorem OwnB.rb {w : World} {base : Nat} {v : Value} {l : List Nat} (h : OwnB w base v l) (hl : Bytes l) : RB w v l := by
  refine ⟨hl, ?_⟩
  rcases h.2 with ⟨h1, h2⟩ | ⟨g, cap, cur, e, h1, hb, h2, h3, h4, h5⟩
  · exact .inl ⟨h1, List.eq_nil_of_length_eq_zero h2⟩
  · refine .inr ⟨⟨g, 0, none⟩, cap, e, fun j b hj => ?_⟩
    refine World.ownsRow.cells h (g := g) (by rw [e]; rfl) j _ ?_
    simp [bcs, hj]
theorem OwnB.below {w w' : World} {base : Nat} {v : Value} {l : List Nat} (h : OwnB w base v l) (hb : Below w.heap.size w w') : OwnB w' base v l := by
  refine ⟨h.1, ?_⟩
  rcases h.2 with h2 | ⟨g, cap, cur, hv, hg, hh, r⟩
  · exact .inl h2
  · exact .inr ⟨g, cap, cur, hv, hg, by rw [hb.block g (Array.getElem?_eq_some_iff.1 hh).1]; exact hh, r⟩
theorem OwnB.alloc {w : World} {base : Nat} {v : Value} {l : List Nat} (h : OwnB w base v l) (o : Obj) : OwnB (w.alloc o) base v l := World.ownsRow.alloc h o

theorem run_append_bytes (w : World) (ty : TypeId) (base : Nat) (v : Value) (l : List Nat) (hown : OwnB w base v l) (y : Value) (m : List Nat) (hy : RB w y m) (h63 : l.length + m.length ≤ 1000000) (hbase : base ≤ w.heap.size) :
    ∃ v' w', (Builtin.append_ #[23, 23] ty #[v, y]).run Tryd.prog w = .ok v' w' ∧ OwnB w' base v' (l ++ m) ∧ w.grownBy w' v.ownBlock := by
  obtain ⟨i0, hi, hz0, hz1, hz2⟩ := info_parts infoU8
  have e : bcs (l ++ m) = bcs l ++ bcs m := by simp [bcs]
  rcases hy.2 with ⟨rfl, rfl⟩ | ⟨ad, c, rfl, hnews⟩
  · exact ⟨v, w, run_append_owned_none w base 23 ty 5 i0 1 Tryd.underlying23 hi v l.length (bcs l) hown, by simpa using hown, World.grownBy.refl _ _⟩
  · obtain ⟨v', w', h1, h2, h3, _⟩ := run_append_own_at (P := Tryd.prog) w base 23 ty 5 i0 _ 1 1 Tryd.underlying23 hi hz0 hz1 hz2 rfl (by decide) v l.length (bcs l) hown ad m.length c (bcs m) (by simp [bcs]) (fun j u hu => by
      simp only [bcs, List.getElem?_map, Option.map_eq_some_iff] at hu
      obtain ⟨b, hb, rfl⟩ := hu
      exact hnews j b hb) (one_bcs m) (by unfold maxLen; omega) (by omega) hbase
    refine ⟨v', w', h1, ?_, h3⟩
    unfold OwnB
    rw [e, List.length_append]
    exact h2

theorem wpList_append_bytes {ops : Array Oper} {rest : List Oper} {o : Oper} {a : Act} {w : World} {Q : Exit → Act → World → Prop} (hgd : o.guard = none) (s x : Operand) (ho : o.op = .call { callee := .builtin .append, args := #[s, x], argTypes := #[23, 23] }) (base : Nat) (v : Value) (l : List Nat) (hs : a.eval s = v) (hown : OwnB w base v l)
    (y : Value) (m : List Nat) (hx : a.eval x = y) (hy : RB w y m) (h63 : l.length + m.length ≤ 1000000) (hbase : base ≤ w.heap.size)
    (h : ∀ v' w', OwnB w' base v' (l ++ m) → w.grownBy w' v.ownBlock → wpList Tryd.prog ops Q rest (a.put o.dst v') w') : wpList Tryd.prog ops Q (o :: rest) a w :=
  wpList_plain hgd fun _ hK => by
    obtain ⟨v', w', hr, h2, h3⟩ := run_append_bytes w o.type base v l hown y m hy h63 hbase
    unfold Oper.wp execOp
    simp only [ho, resolve, invoke, builtin, Sem.run_bind, Sem.run_pure, Result.andThen_ok, List.map_toArray, List.map_cons, List.map_nil, hs, hx, hr]
    exact hK _ _ (h v' w' h2 h3)

/-- A byte in a block of its own. -/
theorem rb_one (w : World) (b : Nat) (hb : b < 256) : RB (w.alloc (.cells #[.int .u8 (b : Int)] 5)) (.slice (some ⟨w.heap.size, 0, none⟩) 1 1) [b] :=
  ⟨fun x hx => by simp at hx; subst hx; exact hb, .inr ⟨⟨w.heap.size, 0, none⟩, 1, rfl, fun j c hj => by
    have := cell_one_new w (.int .u8 (b : Int)) 5 j (.int .u8 (c : Int)) (by
      cases j with
      | zero => simp at hj ⊢; rw [hj]
      | succ j => simp at hj)
    exact this⟩⟩
theorem grown_below {w0 w w' : World} {base : Nat} {v : Value} {l : List Nat} (hb : Below base w0 w) (ho : OwnB w base v l) (hB : base ≤ w.heap.size) (hg : w.grownBy w' v.ownBlock) : Below base w0 w' :=
  hb.grown hg hB fun k hk => (World.ownsRow.lt ho k hk).1

theorem rbytes_any (n : Nat) (hn : W64 n) (w : World) : Calls Tryd.prog 25 #[.int .u64 (n : Int)] w fun r w' => ∃ v, r = .returned v ∧ OwnB w' w.heap.size v (le 8 n) ∧ Below w.heap.size w w' := by
  go_enter Tryd.func25, Tryd.ntmps25
  go_wp2
  go_loopw [0, 3, 4] (fun z v i w' => ∃ k y : Nat, i = .int .i64 (k : Int) ∧ k ≤ 8 ∧ n / 256 ^ k = y ∧ z = .int .u64 (y : Int) ∧ OwnB w' w.heap.size v (le k n) ∧ Below w.heap.size w w') (fun _ _ i _ => 8 - (intOf i).toNat)
  case atStart => exact ⟨0, n, rfl, by omega, by simp, rfl, OwnB.nil _ _, Below.refl _ _⟩
  case round =>
    obtain ⟨k, y, rfl, hk, hy, rfl, hO, hb⟩ := hrel
    have hyl : y ≤ n := by rw [← hy]; exact Nat.div_le_self _ _
    by_cases hlt : k < 8
    · have e1 : (k : Int) < 8 := by omega
      have hR : RB (wr.alloc (.cells #[.int .u8 ((y : Int) % 256)] 5)) (.slice (some ⟨wr.heap.size, 0, none⟩) 1 1) [y % 256] := rb_one wr (y % 256) (Nat.mod_lt _ (by decide))
      have h63 : (le k n).length + [y % 256].length ≤ 1000000 := by rw [le_length]; simp; omega
      have hbs : w.heap.size ≤ (wr.alloc (.cells #[.int .u8 ((y : Int) % 256)] 5)).heap.size := by rw [World.size_alloc]; have := hb.size; omega
      have hb' : Below w.heap.size w (wr.alloc (.cells #[.int .u8 ((y : Int) % 256)] 5)) := hb.alloc hb.size _
      have hsn : le k n ++ [y % 256] = le (k + 1) n := by rw [le_snoc, hy]
      have hy2 : n / 256 ^ (k + 1) = y / 256 := by rw [Nat.pow_succ, ← Nat.div_div_eq_div_mul, hy]
      have hsn' := Lib.hid hsn
      have hy2' := Lib.hid hy2
      clear hsn hy2 hy
      have hO' := Lib.hid hO
      clear hO
      go_wp2_with (at_builtin; refine wpList_append_bytes rfl _ _ rfl w.heap.size _ (le k n) rfl (hO'.out.alloc _) _ [y % 256] rfl hR h63 hbs ?_; intro v2 w2 hO2 hg2)
      have hB2 := grown_below hb' (hO'.out.alloc _) hbs hg2
      rw [hsn'.out] at hO2
      go_roundw
      case rel => exact ⟨k + 1, y / 256, by go_num, by omega, hy2'.out, by simp, hO2, hB2⟩
      case measure => simp [intOf]; omega
    · obtain rfl : k = 8 := by omega
      go_wp2
      go_ret
      exact ⟨_, rfl, hO, hb⟩

theorem rlink_any (prev kind : Nat) (v : Value) (body : List Nat) (w : World) (hp : W64 prev) (hk : kind < 256) (H : RB w v body) (hl : body.length ≤ 100000) : Calls Tryd.prog 15 #[.int .u64 (prev : Int), .int .u8 (kind : Int), v] w fun r w' => r = .returned (.int .u64 (Cs.chain prev kind body : Nat)) ∧ Below w.heap.size w w' := by
  have H' := Lib.hid H
  obtain ⟨A, cap, rfl⟩ := H.form
  clear H
  go_enter Tryd.func15, Tryd.ntmps15
  go_wp2_with fail
  refine (rbytes_any prev hp w).mono ?_
  rintro r w1 ⟨v1, rfl, O1, b1⟩
  have hR1 := rb_one w1 kind hk
  have hbs : w.heap.size ≤ (w1.alloc (.cells #[.int .u8 (kind : Int)] 5)).heap.size := by rw [World.size_alloc]; have := b1.size; omega
  have hb' : Below w.heap.size w (w1.alloc (.cells #[.int .u8 (kind : Int)] 5)) := b1.alloc b1.size _
  have h1 : (le 8 prev).length + [kind].length ≤ 1000000 := by rw [le_length]; simp
  have O1' := Lib.hid O1
  clear O1
  have hcv : IntKind.u64.wrap (body.length : Int) = (body.length : Int) := by rw [IntKind.wrap_u64]; omega
  go_wp2_with (at_builtin; refine wpList_append_bytes rfl _ _ rfl w.heap.size v1 (le 8 prev) rfl (O1'.out.alloc _) _ [kind] rfl hR1 h1 hbs ?_; intro v2 w2 O2 hg2)
  have B2 := grown_below hb' (O1'.out.alloc _) hbs hg2
  have O2' := Lib.hid O2
  clear O2 hR1 hg2 hb' O1'
  refine (rbytes_any body.length (by omega) w2).mono ?_
  rintro r w3 ⟨v3, rfl, O3, b3⟩
  have B3 : Below w.heap.size w w3 := B2.trans (b3.mono B2.size)
  have hR3 := O3.rb (le_bytes 8 body.length)
  have O2b := Lib.hid (O2'.out.below b3)
  have h3 : (le 8 prev ++ [kind]).length + (le 8 body.length).length ≤ 1000000 := by rw [List.length_append, le_length, le_length]; simp
  have hbs3 := B3.size
  have hRb : ∀ W, Below w.heap.size w W → RB W (.slice A body.length cap) body := fun W h => H'.out.below h
  have hRb := Lib.hid hRb
  have h4 : (le 8 prev ++ [kind] ++ le 8 body.length).length + body.length ≤ 1000000 := by rw [List.length_append, List.length_append, le_length, le_length]; simp; omega
  have B4 : ∀ W, w3.grownBy W v2.ownBlock → Below w.heap.size w W := fun W hg => grown_below B3 O2b.out hbs3 hg
  have B4 := Lib.hid B4
  go_wp2_with (at_builtin; first
    | (refine wpList_append_bytes rfl _ _ rfl w.heap.size v2 (le 8 prev ++ [kind]) rfl O2b.out v3 (le 8 body.length) rfl hR3 h3 hbs3 ?_; intro v4 w4 O4 hg4)
    | (refine wpList_append_bytes rfl _ _ rfl w.heap.size v4 (le 8 prev ++ [kind] ++ le 8 body.length) rfl O4 _ body rfl (hRb.out w4 (B4.out w4 hg4)) h4 (B4.out w4 hg4).size ?_; intro v5 w5 O5 hg5))
  have B5 := grown_below (B4.out w4 hg4) O4 (B4.out w4 hg4).size hg5
  have hby : Bytes (le 8 prev ++ [kind] ++ le 8 body.length ++ body) := by
    intro x hx
    simp only [List.mem_append, List.mem_singleton] at hx
    rcases hx with ((hx | rfl) | hx) | hx
    · exact le_bytes _ _ x hx
    · exact hk
    · exact le_bytes _ _ x hx
    · exact H'.out.1 x hx
  have O5' := Lib.hid (O5.rb hby)
  have h5 : (le 8 prev ++ [kind] ++ le 8 body.length ++ body).length ≤ 9223372036854775807 := by rw [List.length_append]; omega
  clear O4 hg4 O5 hg5 O2b hR3 O3
  refine (rof_any v5 _ w5 O5'.out h5).mono ?_
  rintro r w6 ⟨rfl, b6⟩
  have B6 : Below w.heap.size w w6 := B5.trans (b6.mono B5.size)
  go_wp2
  go_ret
  exact ⟨rfl, B6⟩
end Go.Proofs.YtopgdglcfmikiaaDoor
