/- Numbers and things in memory. -/
import Derived.Test.YtmmfkepkdmmmkaaW1
set_option linter.unusedVariables false
set_option linter.unusedSimpArgs false
namespace Go.Proofs.Ytmmfkepkdmmmkaa
open Go.RowKit Go.Lib Wr

theorem wf_i64 {n : Int} (h : I64 n) : (Lit.int .i64 n).wf = true := WalkArith.wf_i64 h

/-! ### Numbers -/

/-- The value v reads as the numbers l. -/
def RN (w : World) (v : Value) (l : List Int) : Prop :=
  (v = .slice none 0 0 ∧ l = []) ∨ ∃ ad c, v = .slice (some ad) l.length c ∧ ∀ (j : Nat) (z : Int), l[j]? = some z → w.cell? (ad.add j) = some (.int .i64 z)
section
variable {w w' : World} {v : Value} {l : List Int}
theorem RN.below (h : RN w v l) (hb : Below w.heap.size w w') : RN w' v l := by
  rcases h with h | ⟨ad, c, e, hc⟩
  · exact .inl h
  · exact .inr ⟨ad, c, e, fun j b hj => cell_keep (hc j b hj) hb⟩
theorem RN.form (h : RN w v l) : ∃ A c, v = .slice A l.length c := by
  rcases h with ⟨e, hl⟩ | ⟨ad, c, e, _⟩
  · exact ⟨none, 0, by rw [e, hl]; rfl⟩
  · exact ⟨_, c, e⟩
theorem RN.at_ {A : Option Addr} {c : Nat} (h : RN w (.slice A l.length c) l) {j : Nat} {z : Int} (hj : l[j]? = some z) : ∃ ad, A = some ad ∧ w.cell? (ad.add j) = some (.int .i64 z) := by
  rcases h with ⟨_, hl⟩ | ⟨ad, c', e, hc⟩
  · subst hl; simp at hj
  · simp only [Value.slice.injEq, true_and] at e
    exact ⟨ad, e.1, hc j z hj⟩
theorem RN.nil (w : World) : RN w (.slice none 0 0) [] := .inl ⟨rfl, rfl⟩
/-- What the value reads lies in one block. -/
theorem RN.kept (h : RN w v l) (hs : w.heap.size ≤ w'.heap.size) (hk : ∀ ad n c, v = .slice (some ad) n c → w'.heap[ad.block]? = w.heap[ad.block]?) : RN w' v l := by
  rcases h with h | ⟨ad, c, e, hc⟩
  · exact .inl h
  · refine .inr ⟨ad, c, e, fun j z hj => ?_⟩
    have := hk ad _ c e
    have h2 := hc j z hj
    unfold World.cell? at h2 ⊢
    rw [block_add'] at h2 ⊢
    rw [this]; exact h2
end
theorem RB.kept {w w' : World} {v : Value} {l : Bs} (h : RB w v l) (hs : w.heap.size ≤ w'.heap.size) (hk : ∀ ad n c, v = .slice (some ad) n c → 0 < c → w'.heap[ad.block]? = w.heap[ad.block]?) : RB w' v l := by
  rcases h with h | ⟨ad, c, e, hl0, hl, hc⟩
  · exact .inl h
  · refine .inr ⟨ad, c, e, hl0, fun h => Nat.lt_of_lt_of_le (hl h) hs, fun j z hj => ?_⟩
    have := hk ad _ c e (by have := (List.getElem?_eq_some_iff.1 hj).1; omega)
    have h2 := hc j z hj
    unfold World.cell? at h2 ⊢
    rw [block_add'] at h2 ⊢
    rw [this]; exact h2

def ncs (l : List Int) : List Value := l.map fun n => Value.int .i64 n
def OwnN (w : World) (base : Nat) (v : Value) (l : List Int) : Prop := w.ownsRow base 3 1 v l.length (ncs l)
theorem infoInt : (Try.prog.info? 3).map (fun i => (i.zero, i.size, i.bytes)) = some (some (.int .i64 0), 1, 8) := by kernel_rfl
theorem one_ncs (l : List Int) : ∀ u ∈ ncs l, u.oneCell' = true := by
  intro u hu
  simp [ncs] at hu
  obtain ⟨a, _, rfl⟩ := hu
  rfl
theorem ncs_app (l m : List Int) : ncs (l ++ m) = ncs l ++ ncs m := by simp [ncs]
section
variable {w w' : World} {base : Nat} {v : Value} {l : List Int}
theorem OwnN.nil (w : World) (base : Nat) : OwnN w base (.slice none 0 0) [] := World.ownsRow_nil _ _ _ _
theorem OwnN.form (h : OwnN w base v l) : ∃ A c, v = .slice A l.length c := by
  rcases h.2 with ⟨h1, h2⟩ | ⟨g, cap, _, h1, _⟩
  · exact ⟨none, 0, by rw [h1, h2]⟩
  · exact ⟨_, _, h1⟩
theorem OwnN.rn (h : OwnN w base v l) : RN w v l := by
  rcases h.2 with ⟨h1, h2⟩ | ⟨g, cap, cur, e, h1, hb, h2, h3, h4, h5⟩
  · exact .inl ⟨h1, List.eq_nil_of_length_eq_zero h2⟩
  · refine .inr ⟨⟨g, 0, none⟩, cap, e, fun j b hj => ?_⟩
    refine World.ownsRow.cells h (g := g) (by rw [e]; rfl) j _ ?_
    simp [ncs, hj]
theorem OwnN.kept (h : OwnN w base v l) (hk : ∀ g, v.ownBlock = some g → w'.heap[g]? = w.heap[g]?) : OwnN w' base v l := by
  refine ⟨h.1, ?_⟩
  rcases h.2 with h2 | ⟨g, cap, cur, hv, hg, hh, r⟩
  · exact .inl h2
  · exact .inr ⟨g, cap, cur, hv, hg, by rw [hk g (by rw [hv]; rfl)]; exact hh, r⟩
theorem OwnN.below (h : OwnN w base v l) (hb : Below w.heap.size w w') : OwnN w' base v l := h.kept fun g hg => hb.block g ((World.ownsRow.lt h g hg).2)
theorem OwnN.alloc (h : OwnN w base v l) (o : Obj) : OwnN (w.alloc o) base v l := World.ownsRow.alloc h o
theorem OwnN.mono (h : OwnN w base v l) {b : Nat} (hb : b ≤ base) : OwnN w b v l := by
  refine ⟨h.1, ?_⟩
  rcases h.2 with h2 | ⟨g, cap, cur, hv, hg, r⟩
  · exact .inl h2
  · exact .inr ⟨g, cap, cur, hv, by omega, r⟩
theorem OwnN.empty (w : World) {base : Nat} (hb : base ≤ w.heap.size) : OwnN (w.alloc (.cells #[] 3)) base (.slice (some ⟨w.heap.size, 0, none⟩) 0 0) [] := World.ownsRow_lit w #[] 0 hb (by unfold maxLen; omega) rfl
theorem OwnN.one (w : World) {base : Nat} (hb : base ≤ w.heap.size) (z : Int) : OwnN (w.alloc (.cells #[.int .i64 z] 3)) base (.slice (some ⟨w.heap.size, 0, none⟩) 1 1) [z] := World.ownsRow_lit w #[.int .i64 z] 1 hb (by unfold maxLen; omega) rfl
theorem OwnN.two (w : World) : OwnN (w.alloc (.cells #[.int .i64 1, .int .i64 (-1)] 3)) w.heap.size (.slice (some ⟨w.heap.size, 0, none⟩) 2 2) [1, -1] := World.ownsRow_lit w #[.int .i64 1, .int .i64 (-1)] 2 (Nat.le_refl _) (by unfold maxLen; omega) rfl
end
theorem run_append_ints (w : World) (ty : TypeId) (base : Nat) (v : Value) (l : List Int) (hown : OwnN w base v l) (y : Value) (m : List Int) (hy : RN w y m) (h63 : l.length + m.length ≤ 1000000) (hbase : base ≤ w.heap.size) :
    ∃ v' w', (Builtin.append_ #[31, 31] ty #[v, y]).run Try.prog w = .ok v' w' ∧ OwnN w' base v' (l ++ m) ∧ w.grownBy w' v.ownBlock ∧ ∀ g, v'.ownBlock = some g → v.ownBlock = some g ∨ g = w.heap.size := by
  obtain ⟨i0, hi, hz0, hz1, hz2⟩ := info_parts infoInt
  rcases hy with ⟨rfl, rfl⟩ | ⟨ad, c, rfl, hnews⟩
  · exact ⟨v, w, run_append_owned_none w base 31 ty 3 i0 1 Try.underlying31 hi v l.length (ncs l) hown, by simpa using hown, World.grownBy.refl _ _, fun g hg => .inl hg⟩
  · obtain ⟨v', w', h1, h2, h3, _, h5⟩ := run_append_own_at (P := Try.prog) w base 31 ty 3 i0 _ 1 8 Try.underlying31 hi hz0 hz1 hz2 rfl (by decide) v l.length (ncs l) hown ad m.length c (ncs m) (by simp [ncs]) (fun j u hu => by
      simp only [ncs, List.getElem?_map, Option.map_eq_some_iff] at hu
      obtain ⟨b, hb, rfl⟩ := hu
      exact hnews j b hb) (one_ncs m) (by unfold maxLen; omega) (by omega) hbase
    refine ⟨v', w', h1, ?_, h3, fun g hg => ?_⟩
    · unfold OwnN
      rw [ncs_app, List.length_append]
      exact h2
    · rcases h5 with h5 | h5
      · exact .inl (h5 ▸ hg)
      · rw [h5] at hg; injection hg with hg; exact .inr hg.symm
section
variable {ops : Array Oper} {rest : List Oper} {o : Oper} {a : Act} {w : World} {Q : Exit → Act → World → Prop}
theorem wpList_append_ints (hgd : o.guard = none) (s x : Operand) (ho : o.op = .call { callee := .builtin .append, args := #[s, x], argTypes := #[31, 31] }) (base : Nat) (v : Value) (l : List Int) (hs : a.eval s = v) (hown : OwnN w base v l)
    (y : Value) (m : List Int) (hx : a.eval x = y) (hy : RN w y m) (h63 : l.length + m.length ≤ 1000000) (hbase : base ≤ w.heap.size)
    (h : ∀ v' w', OwnN w' base v' (l ++ m) → w.grownBy w' v.ownBlock → (∀ g, v'.ownBlock = some g → v.ownBlock = some g ∨ g = w.heap.size) → wpList Try.prog ops Q rest (a.put o.dst v') w') : wpList Try.prog ops Q (o :: rest) a w :=
  wpList_plain hgd fun _ hK => by
    obtain ⟨v', w', hr, h2, h3, h4⟩ := run_append_ints w o.type base v l hown y m hy h63 hbase
    unfold Oper.wp execOp
    simp only [ho, resolve, invoke, builtin, Sem.run_bind, Sem.run_pure, Result.andThen_ok, List.map_toArray, List.map_cons, List.map_nil, hs, hx, hr]
    exact hK _ _ (h v' w' h2 h3 h4)
theorem step_append_ints {K : Act → World → Prop} {E : Prop} (hgd : o.guard = none) (s x : Operand) (ho : o.op = .call { callee := .builtin .append, args := #[s, x], argTypes := #[31, 31] }) (base : Nat) (v : Value) (l : List Int) (hs : a.eval s = v) (hown : OwnN w base v l)
    (y : Value) (m : List Int) (hx : a.eval x = y) (hy : RN w y m) (h63 : l.length + m.length ≤ 1000000) (hbase : base ≤ w.heap.size)
    (h : ∀ v' w', OwnN w' base v' (l ++ m) → w.grownBy w' v.ownBlock → (∀ g, v'.ownBlock = some g → v.ownBlock = some g ∨ g = w.heap.size) → K (a.put o.dst v') w') :
    if Region.wanted o (yielded ops a.tmps) = true then Oper.wp Try.prog o a w K Q else E := by
  have hw : Region.wanted o (yielded ops a.tmps) = true := by simp [Region.wanted, hgd]
  rw [if_pos hw]
  obtain ⟨v', w', hr, h2, h3, h4⟩ := run_append_ints w o.type base v l hown y m hy h63 hbase
  unfold Oper.wp execOp
  simp only [ho, resolve, invoke, builtin, Sem.run_bind, Sem.run_pure, Result.andThen_ok, List.map_toArray, List.map_cons, List.map_nil, hs, hx, hr]
  exact h v' w' h2 h3 h4
end

/-! ### Things -/

/-- The cells of a thing whose list is the value u. -/
def tcs (t : Th) (u : Value) : List Value := [.int .i64 t.k, .int .i64 t.n, .bool t.b, .string ⟨t.d.toArray⟩, u]
/-- The value of a thing. -/
def ThV (w : World) (v : Value) (t : Th) : Prop := ∃ u, v = .agg #[.int .i64 t.k, .int .i64 t.n, .bool t.b, .string ⟨t.d.toArray⟩, u] ∧ RN w u t.l
theorem ThV.below {w w' : World} {v : Value} {t : Th} (h : ThV w v t) (hb : Below w.heap.size w w') : ThV w' v t := by
  obtain ⟨u, e, h⟩ := h
  exact ⟨u, e, h.below hb⟩
/-- The cells at p are those of t. -/
def ThAt (w : World) (p : Addr) (t : Th) (u : Value) : Prop := w.cell? p = some (.int .i64 t.k) ∧ w.cell? (p.add 1) = some (.int .i64 t.n) ∧ w.cell? (p.add 2) = some (.bool t.b) ∧ w.cell? (p.add 3) = some (.string ⟨t.d.toArray⟩) ∧ w.cell? (p.add 4) = some u
theorem ThAt.below {w w' : World} {p : Addr} {t : Th} {u : Value} (h : ThAt w p t u) (hb : Below w.heap.size w w') : ThAt w' p t u :=
  ⟨cell_keep h.1 hb, cell_keep h.2.1 hb, cell_keep h.2.2.1 hb, cell_keep h.2.2.2.1 hb, cell_keep h.2.2.2.2 hb⟩
theorem add_zero' (p : Addr) : p.add 0 = p := by unfold Addr.add; rw [if_pos rfl]
theorem run_load_thing {w : World} {p : Addr} {t : Th} {u : Value} (h : ThAt w p t u) : (loadVar 33 p).run Try.prog w = .ok (.agg #[.int .i64 t.k, .int .i64 t.n, .bool t.b, .string ⟨t.d.toArray⟩, u]) w := by
  obtain ⟨c0, c1, c2, c3, c4⟩ := h
  have hl : (loadCells p 5).run Try.prog w = .ok #[.int .i64 t.k, .int .i64 t.n, .bool t.b, .string ⟨t.d.toArray⟩, u] w :=
    run_loadCells_list (P := Try.prog) w p [.int .i64 t.k, .int .i64 t.n, .bool t.b, .string ⟨t.d.toArray⟩, u] (fun j v hv => by
      match j, hv with
      | 0, hv => simp at hv; subst hv; rw [add_zero']; exact c0
      | 1, hv => simp at hv; subst hv; exact c1
      | 2, hv => simp at hv; subst hv; exact c2
      | 3, hv => simp at hv; subst hv; exact c3
      | 4, hv => simp at hv; subst hv; exact c4
      | j + 5, hv => simp at hv)
  have hagg : (isAgg 33).run Try.prog w = .ok true w := by kernel_rfl
  simp [loadVar, Sem.run_bind, hagg, hl]
/-- A load of a whole thing. -/
theorem wpList_load_thing {ops : Array Oper} {rest : List Oper} {o : Oper} {a : Act} {w : World} {Q : Exit → Act → World → Prop} (hgd : o.guard = none) (x : Operand) (ho : o.op = .load 33 x) (p : Addr) (hx : a.eval x = .pointer (some p)) (t : Th) (u : Value) (ht : ThAt w p t u)
    (h : wpList Try.prog ops Q rest (a.put o.dst (.agg #[.int .i64 t.k, .int .i64 t.n, .bool t.b, .string ⟨t.d.toArray⟩, u])) w) : wpList Try.prog ops Q (o :: rest) a w :=
  wpList_plain hgd fun K hK => by
    have hr := run_load_thing ht
    unfold Oper.wp execOp
    simp only [ho, hx, Instr.loadAt, Instr.sureAddr, Sem.run_bind, Sem.run_pure, Result.andThen_ok, hr]
    exact hK _ _ h
theorem thAt_new (w : World) (t : Th) (u : Value) : ThAt (w.alloc (.cells #[.int .i64 t.k, .int .i64 t.n, .bool t.b, .string ⟨t.d.toArray⟩, u] 33)) ⟨w.heap.size, 0, none⟩ t u := by
  have hb := heap_alloc_new w (.cells #[.int .i64 t.k, .int .i64 t.n, .bool t.b, .string ⟨t.d.toArray⟩, u] 33)
  refine ⟨?_, ?_, ?_, ?_, ?_⟩
  · rw [cell_of_row _ _ 0 _ _ _ hb]; rfl
  · show World.cell? _ ⟨w.heap.size, 1, none⟩ = _; rw [cell_of_row _ _ 1 _ _ _ hb]; rfl
  · show World.cell? _ ⟨w.heap.size, 2, none⟩ = _; rw [cell_of_row _ _ 2 _ _ _ hb]; rfl
  · show World.cell? _ ⟨w.heap.size, 3, none⟩ = _; rw [cell_of_row _ _ 3 _ _ _ hb]; rfl
  · show World.cell? _ ⟨w.heap.size, 4, none⟩ = _; rw [cell_of_row _ _ 4 _ _ _ hb]; rfl

/-- Things in a row, as an argument brings them. -/
def RT (w : World) (A : Option Addr) (l : List Th) : Prop :=
  (0 < l.length → ∃ ad, A = some ad ∧ ad.block < w.heap.size ∧ ∀ i t, l[i]? = some t → ∃ u, ThAt w (ad.add (i * 5)) t u ∧ RN w u t.l)
theorem RT.below {w w' : World} {A : Option Addr} {l : List Th} (h : RT w A l) (hb : Below w.heap.size w w') : RT w' A l := fun hn => by
  obtain ⟨ad, e, hl, hc⟩ := h hn
  exact ⟨ad, e, Nat.lt_of_lt_of_le hl hb.size, fun i t ht => by
    obtain ⟨u, h1, h2⟩ := hc i t ht
    exact ⟨u, h1.below hb, h2.below hb⟩⟩
theorem RT.at_ {w : World} {A : Option Addr} {l : List Th} (h : RT w A l) {i : Nat} {t : Th} (hi : l[i]? = some t) : ∃ ad u, A = some ad ∧ ThAt w (ad.add (i * 5)) t u ∧ RN w u t.l := by
  obtain ⟨ad, e, _, hc⟩ := h (by have := (List.getElem?_eq_some_iff.1 hi).1; omega)
  obtain ⟨u, h1, h2⟩ := hc i t hi
  exact ⟨ad, u, e, h1, h2⟩
end Go.Proofs.Ytmmfkepkdmmmkaa
