/- The code: the Writer. -/
import Derived.Test.YtmmfkepkdmmmkaaK5
import Derived.Lib.Varint
set_option linter.unusedVariables false
set_option linter.unusedSimpArgs false
namespace Go.Proofs.Ytmmfkepkdmmmkaa
open Go.RowKit Go.Lib Wr

theorem OwnB.form3 {w : World} {base : Nat} {v : Value} {l : Bs} (h : OwnB w base v l) : ∃ A n c, v = .slice A n c := by
  obtain ⟨A, c, e⟩ := h.form
  exact ⟨A, _, c, e⟩
theorem one_cell {w : World} {g : Nat} {v : Value} {t : TypeId} (h : w.heap[g]? = some (.cells #[v] t (0, 0))) : w.cell? ⟨g, 0, none⟩ = some v ∧ w.frozen? ⟨g, 0, none⟩ = false := by
  refine ⟨by rw [cell_of_row _ _ 0 _ _ _ h]; rfl, ?_⟩
  unfold World.frozen?; rw [h]; rfl
/-- The Writer's block behind an append. -/
theorem wr_at {w wa w2 : World} {g B : Nat} {l : Bs} {v : Value} (h1 : w.heap[g]? = some (.cells #[v] 46 (0, 0))) (hne : v.ownBlock ≠ some g) (hb : Below w.heap.size w wa) (hg : wa.grownBy w2 v.ownBlock) : w2.heap[g]? = some (.cells #[v] 46 (0, 0)) := by
  have hl := (Array.getElem?_eq_some_iff.1 h1).1
  rw [hg.block g (by have := hb.size; omega) (fun e => hne e.symm), hb.block g hl]
  exact h1
/-- The same, told apart from what lies from N to M: none of the Writer's blocks lies there. -/
def WrN (w : World) (g B N M : Nat) (l : Bs) : Prop := ∃ v, w.heap[g]? = some (.cells #[v] 46 (0, 0)) ∧ OwnB w B v l ∧ v.ownBlock ≠ some g ∧ B ≤ g ∧ g < N ∧ M ≤ w.heap.size ∧ ∀ i, v.ownBlock = some i → i < N ∨ M ≤ i
theorem WrN.p {w : World} {g B N M : Nat} {l : Bs} (h : WrN w g B N M l) : WrP w g B l := by
  obtain ⟨v, h1, h2, h3, h4, _⟩ := h
  exact ⟨v, h1, h2, h3, h4⟩
theorem WrP.n {w0 w : World} {g B : Nat} {l : Bs} (h : WrP w0 g B l) (hb : Below w0.heap.size w0 w) : WrN w g B w0.heap.size w.heap.size l := by
  obtain ⟨v, h1, h2, h3, h4⟩ := h
  have hl := (Array.getElem?_eq_some_iff.1 h1).1
  exact ⟨v, (hb.block g hl).trans h1, h2.below hb, h3, h4, hl, Nat.le_refl _, fun i hi => .inl (World.ownsRow.lt h2 i hi).2⟩
theorem WrP.n0 {w : World} {g B : Nat} {l : Bs} (h : WrP w g B l) : WrN w g B w.heap.size w.heap.size l := h.n (Below.refl _ _)
theorem WrN.lo {w : World} {g B N M : Nat} {l : Bs} (h : WrN w g B N M l) : B ≤ w.heap.size := by
  obtain ⟨v, h1, h2, h3, h4, _⟩ := h
  have := (Array.getElem?_eq_some_iff.1 h1).1
  omega
/-- What lies from N to M stays. -/
def Kp (N M : Nat) (w w' : World) : Prop := ∀ k, N ≤ k → k < M → w'.heap[k]? = w.heap[k]?
theorem Kp.refl (N M : Nat) (w : World) : Kp N M w w := fun _ _ _ => rfl
theorem Kp.trans {N M : Nat} {a b c : World} (h : Kp N M a b) (k : Kp N M b c) : Kp N M a c := fun i h1 h2 => (k i h1 h2).trans (h i h1 h2)
theorem wr_put {w wa w2 : World} {g B N M : Nat} {l l' : Bs} {v v2 : Value} (h1 : w.heap[g]? = some (.cells #[v] 46 (0, 0))) (hne : v.ownBlock ≠ some g) (hB : B ≤ g) (hO : OwnB w B v l) (hgN : g < N) (hM : M ≤ w.heap.size) (hap : ∀ i, v.ownBlock = some i → i < N ∨ M ≤ i) (hb : Below w.heap.size w wa) (hg : wa.grownBy w2 v.ownBlock) (hO2 : OwnB w2 B v2 l') (hnew : ∀ i, v2.ownBlock = some i → v.ownBlock = some i ∨ i = wa.heap.size) :
    WrN (w2.setCell ⟨g, 0, none⟩ v2) g B N M l' ∧ Below B w (w2.setCell ⟨g, 0, none⟩ v2) ∧ Kp N M w (w2.setCell ⟨g, 0, none⟩ v2) := by
  have hl := (Array.getElem?_eq_some_iff.1 h1).1
  have h2 := wr_at (B := B) (l := l) h1 hne hb hg
  have hs1 := hb.size
  have hs2 := hg.size
  have hne2 : v2.ownBlock ≠ some g := fun e => by
    rcases hnew g e with h | h
    · exact hne h
    · omega
  refine ⟨⟨v2, by rw [heap_setCell_same w2 g 0 _ _ _ h2]; rfl, hO2.kept fun k hk => heap_setCell_other w2 ⟨g, 0, none⟩ k _ (by intro e; have e' : k = g := e; subst e'; exact hne2 hk), hne2, hB, hgN, by rw [World.size_setCell]; omega, fun i hi => ?_⟩, ?_, fun k h3 h4 => ?_⟩
  · rcases hnew i hi with h | h
    · exact hap i h
    · omega
  · have hb1 : Below B w w2 := (hb.mono (by omega)).grown hg (by omega) (fun k hk => (World.ownsRow.lt hO k hk).1)
    exact hb1.setCell (p := ⟨g, 0, none⟩) hB v2
  · rw [heap_setCell_other w2 ⟨g, 0, none⟩ k _ (by intro e; have e' : k = g := e; omega), hg.block k (by omega) (fun e => by have := hap k e.symm; omega), hb.block k (by omega)]

theorem pbool_n (g B N M : Nat) (l : Bs) (b : Bool) (w : World) (H : WrN w g B N M l) (hl : l.length ≤ 100000) : Calls Try.prog 24 #[.pointer (some ⟨g, 0, none⟩), .bool b] w fun r w' => (∃ u, r = .returned u) ∧ WrN w' g B N M (l ++ [if b then 1 else 0]) ∧ Below B w w' ∧ Kp N M w w' := by
  obtain ⟨v, h1, hO, hne, hB, hgN, hM, hap⟩ := H
  have hap := Lib.hid hap
  obtain ⟨A, cap, rfl⟩ := hO.form
  obtain ⟨c0, f0⟩ := one_cell h1
  have h1' := Lib.hid h1
  have hO' := Lib.hid hO
  have hgl := (Array.getElem?_eq_some_iff.1 h1).1
  clear h1 hO
  have h63 := fun c : UInt8 => (show l.length + [c].length ≤ 100000000 from by simp; omega)
  have hnew := fun c : UInt8 => Lib.hid (OwnB.one w (Nat.le_refl _) c).rb
  have hBa : ∀ o, Below w.heap.size w (w.alloc o) := fun o => (Below.refl _ _).alloc (Nat.le_refl _) o
  have hsz : ∀ o, B ≤ (w.alloc o).heap.size := fun o => by rw [World.size_alloc]; omega
  have h63 := Lib.hid h63
  have hBa := Lib.hid hBa
  have hsz := Lib.hid hsz
  cases b with
  | true =>
    go_enter Try.func24, Try.ntmps24
    go_wp2_with (at_builtin; refine wpList_append_bytes rfl _ _ rfl B _ l rfl (hO'.out.alloc _) _ [1] rfl (hnew 1).out (h63.out 1) (hsz.out _) ?_; intro v2 w2 hO2 hg2 hn2; have hn2' := Lib.hid hn2; clear hn2; obtain ⟨A2, n2, cap2, rfl⟩ := hO2.form3; have hO2' := Lib.hid hO2; have hg2' := Lib.hid hg2; obtain ⟨c2, f2⟩ := one_cell (wr_at (B := B) (l := l) h1'.out hne (hBa.out _) hg2); clear hO2 hg2)
    go_end0
    have := wr_put h1'.out hne hB hO'.out hgN hM hap.out (hBa.out _) hg2'.out hO2'.out hn2'.out
    exact ⟨⟨_, rfl⟩, this⟩
  | false =>
    go_enter Try.func24, Try.ntmps24
    go_wp2_with (at_builtin; refine wpList_append_bytes rfl _ _ rfl B _ l rfl (hO'.out.alloc _) _ [0] rfl (hnew 0).out (h63.out 0) (hsz.out _) ?_; intro v2 w2 hO2 hg2 hn2; have hn2' := Lib.hid hn2; clear hn2; obtain ⟨A2, n2, cap2, rfl⟩ := hO2.form3; have hO2' := Lib.hid hO2; have hg2' := Lib.hid hg2; obtain ⟨c2, f2⟩ := one_cell (wr_at (B := B) (l := l) h1'.out hne (hBa.out _) hg2); clear hO2 hg2)
    go_end0
    have := wr_put h1'.out hne hB hO'.out hgN hM hap.out (hBa.out _) hg2'.out hO2'.out hn2'.out
    exact ⟨⟨_, rfl⟩, this⟩

theorem pint_n (g B N M : Nat) (l : Bs) (n : Int) (w : World) (H : WrN w g B N M l) (hn : I64 n) (hl : l.length ≤ 1000000) : Calls Try.prog 23 #[.pointer (some ⟨g, 0, none⟩), .int .i64 n] w fun r w' => (∃ u, r = .returned u) ∧ WrN w' g B N M (l ++ Wr.int n) ∧ Below B w w' ∧ Kp N M w w' := by
  have H' := Lib.hid H
  have hBw := H.lo
  clear H
  obtain ⟨z, hz⟩ : ∃ z, zig n = z := ⟨_, rfl⟩
  have hzl : z < 18446744073709551616 := hz ▸ zig_lt hn
  have hen := Lib.hid (show Wr.int n = enc z from by unfold Wr.int; rw [hz])
  go_enter Try.func23, Try.ntmps23
  go_wp2_with fail
  refine (zigzag_any n w hn).mono ?_
  rintro r w0 ⟨rfl, rfl⟩
  rw [hz]
  clear hz
  go_wp2_with fail
  go_loopw [4] (fun u w' => ∃ (y : Nat) (pre : Bs), u = .int .u64 (y : Int) ∧ y < 18446744073709551616 ∧ pre ++ enc y = enc z ∧ WrN w' g B N M (l ++ pre) ∧ Below B w w' ∧ Kp N M w w') (fun u _ => (intOf u).toNat)
  case atStart => exact ⟨z, [], rfl, hzl, rfl, by rw [List.append_nil]; exact H'.out, Below.refl _ _, Kp.refl _ _ _⟩
  case round =>
    obtain ⟨y, pre, rfl, hy, he, H1, hB1, hK1⟩ := hrel
    have hK1 := Lib.hid hK1
    have hpl : pre.length ≤ 10 := by
      have := congrArg List.length he
      rw [List.length_append] at this
      have := enc_len10 hzl
      omega
    obtain ⟨v, h1, hO, hne, hB, hgN, hM, hap⟩ := H1
    have hap := Lib.hid hap
    have hOl := hO.form
    obtain ⟨A, cap, rfl⟩ := hOl
    obtain ⟨c0, f0⟩ := one_cell h1
    have hgl := (Array.getElem?_eq_some_iff.1 h1).1
    have h1' := Lib.hid h1
    have hO' := Lib.hid hO
    have hlp : (l ++ pre).length ≤ 2000000 := by rw [List.length_append]; omega
    obtain ⟨q, hq⟩ : ∃ q, l ++ pre = q := ⟨_, rfl⟩
    have hq' := Lib.hid hq
    rw [hq] at c0 h1' hO' hlp hne hap
    clear h1 hO hq
    have h63 := Lib.hid (fun c : UInt8 => (show q.length + [c].length ≤ 100000000 from by simp; omega))
    have hnew := Lib.hid (fun c : UInt8 => (OwnB.one wr (Nat.le_refl _) c).rb)
    have hBa := Lib.hid (show ∀ o, Below wr.heap.size wr (wr.alloc o) from fun o => (Below.refl _ _).alloc (Nat.le_refl _) o)
    have hsz := Lib.hid (show ∀ o, B ≤ (wr.alloc o).heap.size from fun o => by rw [World.size_alloc]; omega)
    by_cases hs : y < 128
    · obtain ⟨c, hc⟩ : ∃ c, byt y = c := ⟨_, rfl⟩
      obtain rfl : y = c.toNat := by rw [← hc, byt_toNat (by omega)]
      have t1 : ¬ (128 : Int) ≤ (c.toNat : Int) := by omega
      rw [enc_small hs, hc] at he
      have hfin := Lib.hid (show q ++ [c] = l ++ Wr.int n from by rw [hen.out, ← he, ← hq'.out, List.append_assoc])
      have hB1' := Lib.hid hB1
      clear he hc hB1
      go_wp2_with (at_builtin; refine wpList_append_bytes rfl _ _ rfl B _ q rfl (hO'.out.alloc _) _ [c] rfl (hnew.out c) (h63.out c) (hsz.out _) ?_; intro v2 w2 hO2 hg2 hn2; have hn2' := Lib.hid hn2; clear hn2; obtain ⟨A2, n2, cap2, rfl⟩ := hO2.form3; have hO2' := Lib.hid hO2; have hg2' := Lib.hid hg2; obtain ⟨c2, f2⟩ := one_cell (wr_at (B := B) (l := q) h1'.out hne (hBa.out _) hg2); clear hO2 hg2)
      go_end0
      have := wr_put h1'.out hne hB hO'.out hgN hM hap.out (hBa.out _) hg2'.out hO2'.out hn2'.out
      rw [hfin.out] at this
      exact ⟨⟨_, rfl⟩, this.1, hB1'.out.trans this.2.1, hK1.out.trans this.2.2⟩
    · obtain ⟨c, hc⟩ : ∃ c, byt (y % 128 + 128) = c := ⟨_, rfl⟩
      have t1 : (128 : Int) ≤ (y : Int) := by omega
      have d2 : bits .or .u8 ((y : Int) % 256) 128 = (c.toNat : Int) := by
        rw [u8_or128_any _ (by omega) (by omega), ← hc, byt_toNat (by omega)]; omega
      rw [enc_big hs, hc] at he
      have he' := Lib.hid (show (pre ++ [c]) ++ enc (y / 128) = enc z from by rw [← he, List.append_assoc]; rfl)
      have hfin := Lib.hid (show q ++ [c] = l ++ (pre ++ [c]) from by rw [← hq'.out, List.append_assoc])
      have hB1' := Lib.hid hB1
      clear he hc hB1
      go_wp2_with (at_builtin; refine wpList_append_bytes rfl _ _ rfl B _ q rfl (hO'.out.alloc _) _ [c] rfl (hnew.out c) (h63.out c) (hsz.out _) ?_; intro v2 w2 hO2 hg2 hn2; have hn2' := Lib.hid hn2; clear hn2; obtain ⟨A2, n2, cap2, rfl⟩ := hO2.form3; have hO2' := Lib.hid hO2; have hg2' := Lib.hid hg2; obtain ⟨c2, f2⟩ := one_cell (wr_at (B := B) (l := q) h1'.out hne (hBa.out _) hg2); clear hO2 hg2)
      have := wr_put h1'.out hne hB hO'.out hgN hM hap.out (hBa.out _) hg2'.out hO2'.out hn2'.out
      rw [hfin.out] at this
      have hend := Lib.hid this
      clear this
      go_roundw
      case rel => exact ⟨y / 128, pre ++ [c], by simp, by omega, he'.out, hend.out.1, hB1'.out.trans hend.out.2.1, hK1.out.trans hend.out.2.2⟩
      case measure => simp [intOf]; omega


/-- Where the row lies behind an append of a string. -/
theorem append_str_where (w : World) (ty : TypeId) (base : Nat) (v : Value) (l : Bs) (hown : OwnB w base v l) (m : Bs) (h63 : l.length + m.length ≤ 100000000) {v' : Value} {w' : World} (hr : (Builtin.append_ #[22, 9] ty #[v, .string ⟨m.toArray⟩]).run Try.prog w = .ok v' w') :
    ∀ g, v'.ownBlock = some g → v.ownBlock = some g ∨ g = w.heap.size := by
  obtain ⟨i0, hi, hz0, hz1, hz2⟩ := info_parts infoU8
  have hs : (⟨m.toArray⟩ : ByteArray).size = m.length := by simp [ByteArray.size]
  have hxl : (bcs l).length = l.length := by simp [bcs]
  intro g hg
  rcases hown.2 with ⟨rfl, hn⟩ | ⟨g0, cap, cur, rfl, hbg, hgc, hnc, hcm, hcs, htake⟩
  · by_cases hm : m.length = 0
    · have hf := run_firstCells_string (P := Try.prog) w 1 ⟨m.toArray⟩
      rw [hs, hm] at hf
      have hr2 : (Builtin.append_ #[22, 9] ty #[.slice none 0 0, .string ⟨m.toArray⟩]).run Try.prog w = .ok (.slice none 0 0) w := by
        have hn2 : strCells (⟨m.toArray⟩ : ByteArray) = [] := List.eq_nil_of_length_eq_zero (by rw [strCells_length, hs]; exact hm)
        simp [Builtin.append_, run_underlying Try.underlying22, run_underlying Try.underlying9, sizeOf, typeInfo, hi, hz1, Builtin.lenOf, hs, hm, hf]
      rw [hr2] at hr
      injection hr with e1 e2
      subst e1
      cases hg
    · have hr2 := run_append_nil_string (P := Try.prog) w 22 9 ty 5 i0 (.int .u8 0) Try.underlying22 Try.underlying9 hi hz0 ⟨m.toArray⟩ (by omega) (by omega) (by rw [hz2]; omega)
      rw [hr2] at hr
      injection hr with e1 e2
      subst e1
      injection hg with hg
      exact .inr hg.symm
  · by_cases hroom : l.length + m.length ≤ cap
    · have hr2 := run_append_room_string (P := Try.prog) w 22 9 ty 5 i0 Try.underlying22 Try.underlying9 hi hz1 g0 l.length cap cur hgc ⟨m.toArray⟩ (by omega) (by omega)
      rw [hr2] at hr
      injection hr with e1 e2
      subst e1
      exact .inl hg
    · have holds : ∀ j u, (bcs l)[j]? = some u → w.cell? ((⟨g0, 0, none⟩ : Addr).add j) = some u := World.ownsRow.cells hown (g := g0) rfl
      have hr2 := run_append_grow_string (P := Try.prog) w 22 9 ty 5 i0 (.int .u8 0) Try.underlying22 Try.underlying9 hi hz0 ⟨g0, 0, none⟩ l.length cap (bcs l) (by rw [hz1]; omega) holds ⟨m.toArray⟩ (by omega) (by omega) (by rw [hz2]; exact growslice_fits (by omega) (by omega))
      rw [hr2] at hr
      injection hr with e1 e2
      subst e1
      injection hg with hg
      exact .inr hg.symm
theorem wpList_append_str2 {ops : Array Oper} {rest : List Oper} {o : Oper} {a : Act} {w : World} {Q : Exit → Act → World → Prop} (hgd : o.guard = none) (s x : Operand) (ho : o.op = .call { callee := .builtin .append, args := #[s, x], argTypes := #[22, 9] }) (base : Nat) (v : Value) (l : Bs) (hs : a.eval s = v) (hown : OwnB w base v l)
    (m : Bs) (hx : a.eval x = .string ⟨m.toArray⟩) (h63 : l.length + m.length ≤ 100000000) (hbase : base ≤ w.heap.size)
    (h : ∀ v' w', OwnB w' base v' (l ++ m) → w.grownBy w' v.ownBlock → (∀ g, v'.ownBlock = some g → v.ownBlock = some g ∨ g = w.heap.size) → wpList Try.prog ops Q rest (a.put o.dst v') w') : wpList Try.prog ops Q (o :: rest) a w :=
  wpList_plain hgd fun _ hK => by
    obtain ⟨v', w', hr, h2, h3⟩ := run_append_str w o.type base v l hown m h63 hbase
    have h4 := append_str_where w o.type base v l hown m h63 hr
    unfold Oper.wp execOp
    simp only [ho, resolve, invoke, builtin, Sem.run_bind, Sem.run_pure, Result.andThen_ok, List.map_toArray, List.map_cons, List.map_nil, hs, hx, hr]
    exact hK _ _ (h v' w' h2 h3 h4)

theorem ints_bound : ∀ {l : List Int}, (∀ x ∈ l, I64 x) → (Wr.ints l).length ≤ 10 * l.length := by
  intro l
  induction l with
  | nil => intro _; simp [Wr.ints]
  | cons x l ih =>
    intro h
    have h1 := ih (fun y hy => h y (List.mem_cons_of_mem _ hy))
    have h2 := int_len10 (h x List.mem_cons_self)
    rw [ints_cons, List.length_append, List.length_cons]; omega

theorem pbytes_n (g B N M : Nat) (l : Bs) (v : Value) (d : Bs) (w : World) (H : WrN w g B N M l) (hv : RB w v d) (hd : d.length ≤ 100000) (hl : l.length ≤ 100000) (hvb : ∀ ad n c, v = .slice (some ad) n c → 0 < c → N ≤ ad.block ∧ ad.block < M) :
    Calls Try.prog 36 #[.pointer (some ⟨g, 0, none⟩), v] w fun r w' => (∃ u, r = .returned u) ∧ WrN w' g B N M (l ++ (Wr.int d.length ++ d)) ∧ Below B w w' ∧ Kp N M w w' := by
  have hi64 := i64_len (show d.length < 2 ^ 62 from by omega)
  have hil := int_len10 hi64
  have hv' := Lib.hid hv
  have hvb' := Lib.hid hvb
  have H' := Lib.hid H
  have hBw := H.lo
  obtain ⟨vA, vc, rfl⟩ := hv.form
  clear hv hvb H
  go_enter Try.func36, Try.ntmps36
  go_wp2_with fail
  refine (pint_n g B N M l d.length w H'.out hi64 (by omega)).mono ?_
  rintro r w1 ⟨⟨u1, rfl⟩, H1, b1, k1⟩
  have hv1 := Lib.hid (hv'.out.kept b1.size (fun ad n c e h0 => k1 _ (hvb'.out ad n c e h0).1 (hvb'.out ad n c e h0).2))
  obtain ⟨q, hq⟩ : ∃ q, l ++ Wr.int d.length = q := ⟨_, rfl⟩
  have hql : q.length ≤ 200000 := by rw [← hq, List.length_append]; omega
  rw [hq] at H1
  have hq' := Lib.hid hq
  obtain ⟨v, h1, hO, hne, hB, hgN, hM, hap⟩ := H1
  have hap := Lib.hid hap
  obtain ⟨A, cap, rfl⟩ := hO.form
  obtain ⟨c0, f0⟩ := one_cell h1
  have h1' := Lib.hid h1
  have hO' := Lib.hid hO
  have h63 := Lib.hid (show q.length + d.length ≤ 100000000 from by omega)
  have hsz : B ≤ w1.heap.size := by have := (Array.getElem?_eq_some_iff.1 h1).1; omega
  have b1' := Lib.hid b1
  have k1' := Lib.hid k1
  clear h1 hO hq b1 k1 hil hi64
  go_wp2_with (at_builtin; refine wpList_append_bytes rfl _ _ rfl B _ q rfl hO'.out _ d rfl hv1.out h63.out hsz ?_; intro v2 w2 hO2 hg2 hn2; have hn2' := Lib.hid hn2; clear hn2; obtain ⟨A2, n2, cap2, rfl⟩ := hO2.form3; have hO2' := Lib.hid hO2; have hg2' := Lib.hid hg2; obtain ⟨c2, f2⟩ := one_cell (wr_at (B := B) (l := q) h1'.out hne (Below.refl _ _) hg2); clear hO2 hg2)
  go_end0
  have := wr_put h1'.out hne hB hO'.out hgN hM hap.out (Below.refl _ _) hg2'.out hO2'.out hn2'.out
  rw [← hq'.out, List.append_assoc] at this
  exact ⟨⟨_, rfl⟩, this.1, b1'.out.trans this.2.1, k1'.out.trans this.2.2⟩

theorem pstring_n (g B N M : Nat) (l : Bs) (d : Bs) (w : World) (H : WrN w g B N M l) (hd : d.length ≤ 100000) (hl : l.length ≤ 100000) :
    Calls Try.prog 25 #[.pointer (some ⟨g, 0, none⟩), .string ⟨d.toArray⟩] w fun r w' => (∃ u, r = .returned u) ∧ WrN w' g B N M (l ++ (Wr.int d.length ++ d)) ∧ Below B w w' ∧ Kp N M w w' := by
  have hi64 := i64_len (show d.length < 2 ^ 62 from by omega)
  have hil := int_len10 hi64
  have H' := Lib.hid H
  clear H
  go_enter Try.func25, Try.ntmps25
  go_wp2_with fail
  refine (pint_n g B N M l d.length w H'.out hi64 (by omega)).mono ?_
  rintro r w1 ⟨⟨u1, rfl⟩, H1, b1, k1⟩
  obtain ⟨q, hq⟩ : ∃ q, l ++ Wr.int d.length = q := ⟨_, rfl⟩
  have hql : q.length ≤ 200000 := by rw [← hq, List.length_append]; omega
  rw [hq] at H1
  have hq' := Lib.hid hq
  obtain ⟨v, h1, hO, hne, hB, hgN, hM, hap⟩ := H1
  have hap := Lib.hid hap
  obtain ⟨A, cap, rfl⟩ := hO.form
  obtain ⟨c0, f0⟩ := one_cell h1
  have h1' := Lib.hid h1
  have hO' := Lib.hid hO
  have h63 := Lib.hid (show q.length + d.length ≤ 100000000 from by omega)
  have hsz : B ≤ w1.heap.size := by have := (Array.getElem?_eq_some_iff.1 h1).1; omega
  have b1' := Lib.hid b1
  have k1' := Lib.hid k1
  clear h1 hO hq b1 k1 hil hi64
  go_wp2_with (at_builtin; refine wpList_append_str2 rfl _ _ rfl B _ q rfl hO'.out d rfl h63.out hsz ?_; intro v2 w2 hO2 hg2 hn2; have hn2' := Lib.hid hn2; clear hn2; obtain ⟨A2, n2, cap2, rfl⟩ := hO2.form3; have hO2' := Lib.hid hO2; have hg2' := Lib.hid hg2; obtain ⟨c2, f2⟩ := one_cell (wr_at (B := B) (l := q) h1'.out hne (Below.refl _ _) hg2); clear hO2 hg2)
  go_end0
  have := wr_put h1'.out hne hB hO'.out hgN hM hap.out (Below.refl _ _) hg2'.out hO2'.out hn2'.out
  rw [← hq'.out, List.append_assoc] at this
  exact ⟨⟨_, rfl⟩, this.1, b1'.out.trans this.2.1, k1'.out.trans this.2.2⟩

theorem pints_n (g B N M : Nat) (l : Bs) (v : Value) (m : List Int) (w : World) (H : WrN w g B N M l) (hv : RN w v m) (hm : m.length ≤ 10000) (h64 : ∀ x ∈ m, I64 x) (hl : l.length ≤ 100000) (hvb : ∀ ad n c, v = .slice (some ad) n c → N ≤ ad.block ∧ ad.block < M) :
    Calls Try.prog 26 #[.pointer (some ⟨g, 0, none⟩), v] w fun r w' => (∃ u, r = .returned u) ∧ WrN w' g B N M (l ++ (Wr.int m.length ++ Wr.ints m)) ∧ Below B w w' ∧ Kp N M w w' := by
  have hi64 := i64_len (show m.length < 2 ^ 62 from by omega)
  have hil := int_len10 hi64
  have hv' := Lib.hid hv
  have hvb' := Lib.hid hvb
  have H' := Lib.hid H
  obtain ⟨vA, vc, rfl⟩ := hv.form
  have hi64' := Lib.hid hi64
  clear hv hvb H hi64
  go_enter Try.func26, Try.ntmps26
  go_wp2_with fail
  refine (pint_n g B N M l m.length w H'.out hi64'.out (by omega)).mono ?_
  rintro r w1 ⟨⟨u1, rfl⟩, H1, b1, k1⟩
  have b1' := Lib.hid b1
  have k1' := Lib.hid k1
  have H1' := Lib.hid H1
  clear b1 k1 H1
  go_wp2_with fail
  go_loopw [12] (fun i w' => ∃ k : Nat, i = .int .i64 (k : Int) ∧ k ≤ m.length ∧ WrN w' g B N M (l ++ (Wr.int m.length ++ Wr.ints (m.take k))) ∧ Below B w w' ∧ Kp N M w w') (fun i _ => m.length - (intOf i).toNat)
  case atStart => exact ⟨0, rfl, by omega, by rw [List.take_zero, show Wr.ints [] = [] from rfl, List.append_nil]; exact H1'.out, b1'.out, k1'.out⟩
  case round =>
    obtain ⟨k, rfl, hk, H2, b2, k2⟩ := hrel
    have H2' := Lib.hid H2
    have b2' := Lib.hid b2
    have k2' := Lib.hid k2
    have hv2 := hv'.out.kept b2.size (fun ad n c e => k2 _ (hvb'.out ad n c e).1 (hvb'.out ad n c e).2)
    have hv2' := Lib.hid hv2
    clear H2 b2 k2 hv2
    by_cases hlt : k < m.length
    · obtain ⟨x, hx⟩ : ∃ x, m[k]? = some x := ⟨_, List.getElem?_eq_getElem hlt⟩
      obtain ⟨ad, rfl, d0⟩ := hv2'.out.at_ hx
      have e1 : (k : Int) < (m.length : Int) := by omega
      have e2 : (0 : Int) ≤ (k : Int) := by omega
      have hx64 := Lib.hid (h64 x (List.mem_of_getElem? hx))
      have hstep := Lib.hid (show l ++ (Wr.int m.length ++ Wr.ints (m.take (k + 1))) = (l ++ (Wr.int m.length ++ Wr.ints (m.take k))) ++ Wr.int x from by rw [ints_take hx]; simp only [List.append_assoc])
      have hlen := Lib.hid (show (l ++ (Wr.int m.length ++ Wr.ints (m.take k))).length ≤ 1000000 from by
        have := ints_bound (l := m.take k) (fun x hx => h64 x (List.mem_of_mem_take hx))
        have h3 : (m.take k).length ≤ 10000 := by rw [List.length_take]; omega
        simp only [List.length_append]; omega)
      clear hx
      go_wp2_with fail
      refine (pint_n g B N M _ x wr H2'.out hx64.out hlen.out).mono ?_
      rintro r w3 ⟨⟨u3, rfl⟩, H3, b3, k3⟩
      rw [← hstep.out] at H3
      have H3' := Lib.hid H3
      have b3' := Lib.hid b3
      have k3' := Lib.hid k3
      clear H3 b3 k3
      go_wp2
      go_roundw
      case rel => exact ⟨k + 1, by go_num, by omega, H3'.out, b2'.out.trans b3'.out, k2'.out.trans k3'.out⟩
      case measure => simp [intOf]; omega
    · obtain rfl : k = m.length := by omega
      go_wp2
      go_end0
      have h := H2'.out
      rw [List.take_length] at h
      exact ⟨⟨_, rfl⟩, h, b2'.out, k2'.out⟩

theorem pencoded_any (g B : Nat) (l : Bs) (w : World) (H : WrP w g B l) (hl : l.length ≤ 100000) : Calls Try.prog 21 #[.pointer (some ⟨g, 0, none⟩)] w fun r w' => ∃ v, r = .returned v ∧ OwnB w' w.heap.size v l ∧ Below w.heap.size w w' := by
  obtain ⟨v, h1, hO, hne, hB⟩ := H
  obtain ⟨A, cap, rfl⟩ := hO.form
  obtain ⟨c0, f0⟩ := one_cell h1
  have hR := Lib.hid hO.rb
  clear h1 hO
  go_enter Try.func21, Try.ntmps21
  go_wp2_with fail
  refine (copyOf_any _ l w hR.out (by omega)).mono ?_
  rintro r w1 ⟨v1, rfl, O1, b1⟩
  have O1' := Lib.hid O1
  clear O1
  go_wp2
  go_ret
  exact ⟨_, rfl, O1'.out, b1⟩
end Go.Proofs.Ytmmfkepkdmmmkaa
