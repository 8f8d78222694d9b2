/- append of edges to a row of one's own; a travel time stored into such a row. -/
import Derived.Test.YtabciepnbmliiaaDoorKF
set_option linter.unusedVariables false
set_option linter.unusedSimpArgs false
set_option maxRecDepth 100000
namespace Go.Proofs.YtabciepnbmliiaaDoor
open Go.RowKit Go.Lib Go.Shelf Rg Nds

theorem ed_at {l : List Ed3} {k : Nat} (hk : k < l.length) : l[k]? = some (l.getD k (0, 0, 0)) := by
  rw [List.getD_eq_getElem?_getD, List.getElem?_eq_getElem hk]; rfl
theorem one_ecs (l : List Ed3) : ∀ u ∈ ecs l, u.oneCell' = true := by
  intro u hu
  unfold ecs at hu
  obtain ⟨e, _, h⟩ := List.mem_flatMap.1 hu
  exact one3 _ _ _ u h
theorem re_cells {w : World} {ad : Addr} {n : Nat} {l : List Ed3} (h : Re w (some ad) n l) : ∀ j u, (ecs l)[j]? = some u → w.cell? (ad.add j) = some u := by
  intro j u hj
  have hlt : j < l.length * 3 := by have := (List.getElem?_eq_some_iff.1 hj).1; rw [ecs_length] at this; exact this
  have hq : j / 3 < l.length := by omega
  obtain ⟨ad', e, hc⟩ := h.2 (by have := h.1; omega)
  injection e with e
  subst e
  obtain ⟨h0, h1, h2⟩ := hc (j / 3) hq
  have hm := ecs_at l (j / 3) (j % 3) _ (ed_at hq) (by omega)
  rw [show j / 3 * 3 + j % 3 = j by omega] at hm
  rw [hm] at hj
  have hadd : ad.add j = (ad.add (j / 3 * 3)).add (j % 3) := by rw [addr_add, show j / 3 * 3 + j % 3 = j by omega]
  rw [hadd]
  have hr : j % 3 = 0 ∨ j % 3 = 1 ∨ j % 3 = 2 := by omega
  rcases hr with e | e | e <;> rw [e] at hj ⊢
  · simp at hj; subst hj; rw [add_zero']; exact h0
  · simp at hj; subst hj; exact h1
  · simp at hj; subst hj; exact h2
theorem run_append_E (w : World) (ty : TypeId) (base : Nat) (v : Value) (xs : List Ed3) (hown : OwnE w base v xs) (ad : Addr) (c : Nat) (l : List Ed3) (hr : Re w (some ad) l.length l) (h63 : (xs.length + l.length) * 24 ≤ 140737488355328) (hbase : base ≤ w.heap.size) :
    ∃ v' w', (Builtin.append_ #[22, 22] ty #[v, .slice (some ad) l.length c]).run Tryd.prog w = .ok v' w' ∧ OwnE w' base v' (xs ++ l) ∧ w.grownBy w' v.ownBlock ∧ ∀ b, v'.ownBlock = some b → v.ownBlock = some b ∨ b = w.heap.size := by
  obtain ⟨i0, hi, hz0, hz1, hz2⟩ := info_parts info_edge
  obtain ⟨v', w', h1, h2, h3, _, h5⟩ := run_append_own_at (P := Tryd.prog) w base 22 ty 35 i0 _ 3 24 Tryd.underlying22 hi hz0 hz1 hz2 rfl (by decide) v xs.length (ecs xs) hown ad l.length c (ecs l) (ecs_length l) (re_cells hr) (one_ecs l) (by unfold maxLen; omega) (by omega) hbase
  refine ⟨v', w', h1, ?_, h3, fun b hb => ?_⟩
  · unfold OwnE
    rw [List.length_append, show ecs (xs ++ l) = ecs xs ++ ecs l from by unfold ecs; exact List.flatMap_append ..]
    exact h2
  · rcases h5 with h5 | h5
    · exact .inl (h5 ▸ hb)
    · rw [h5] at hb; injection hb with hb; exact .inr hb.symm
section
variable {ops : Array Oper} {rest : List Oper} {o : Oper} {a : Act} {w : World} {Q : Exit → Act → World → Prop}
theorem wpList_append_E (s x : Operand) (base : Nat) (v : Value) (xs : List Ed3) (ad : Addr) (c : Nat) (l : List Ed3) (hgd : o.guard = none) (ho : o.op = .call { callee := .builtin .append, args := #[s, x], argTypes := #[22, 22] }) (hs : a.eval s = v) (hx : a.eval x = .slice (some ad) l.length c)
    (hown : OwnE w base v xs) (hr : Re w (some ad) l.length l) (h63 : (xs.length + l.length) * 24 ≤ 140737488355328) (hbase : base ≤ w.heap.size)
    (h : ∀ v' w', OwnE w' base v' (xs ++ l) → w.grownBy w' v.ownBlock → wpList Tryd.prog ops Q rest (a.put o.dst v') w') : wpList Tryd.prog ops Q (o :: rest) a w :=
  wpList_plain hgd fun _ hK => by
    obtain ⟨v', w', hr, h2, h3, _⟩ := run_append_E w o.type base v xs hown ad c l hr h63 hbase
    unfold Oper.wp execOp
    simp only [ho, resolve, invoke, builtin, Sem.run_bind, Sem.run_pure, Result.andThen_ok, List.map_toArray, List.map_cons, List.map_nil, hs, hx, hr]
    exact hK _ _ (h v' w' h2 h3)
theorem step_append_E {K : Act → World → Prop} {E : Prop} (s x : Operand) (base : Nat) (v : Value) (xs : List Ed3) (ad : Addr) (c : Nat) (l : List Ed3) (hgd : o.guard = none) (ho : o.op = .call { callee := .builtin .append, args := #[s, x], argTypes := #[22, 22] }) (hs : a.eval s = v) (hx : a.eval x = .slice (some ad) l.length c)
    (hown : OwnE w base v xs) (hr : Re w (some ad) l.length l) (h63 : (xs.length + l.length) * 24 ≤ 140737488355328) (hbase : base ≤ w.heap.size)
    (h : ∀ v' w', OwnE w' base v' (xs ++ l) → w.grownBy w' v.ownBlock → K (a.put o.dst v') w') :
    if Region.wanted o (yielded ops a.tmps) = true then Oper.wp Tryd.prog o a w K Q else E := by
  have hw : Region.wanted o (yielded ops a.tmps) = true := by simp [Region.wanted, hgd]
  rw [if_pos hw]
  obtain ⟨v', w', hr, h2, h3, _⟩ := run_append_E w o.type base v xs hown ad c l hr h63 hbase
  unfold Oper.wp execOp
  simp only [ho, resolve, invoke, builtin, Sem.run_bind, Sem.run_pure, Result.andThen_ok, List.map_toArray, List.map_cons, List.map_nil, hs, hx, hr]
  exact h v' w' h2 h3
end
theorem OwnE.empty (w : World) {base : Nat} (hb : base ≤ w.heap.size) : OwnE (w.alloc (.cells #[] 35)) base (.slice (some ⟨w.heap.size, 0, none⟩) 0 0) [] := World.ownsRow_lit w #[] 0 hb (by unfold maxLen; omega) rfl
theorem OwnE.to {w w' : World} {base : Nat} {v : Value} {l : List Ed3} (h : OwnE w base v l) (hb : Below w.heap.size w w') : OwnE w' base v l := own_below h hb
theorem ecs_set : ∀ (l : List Ed3) (k : Nat) (z : Int), ecs (l.modify k fun x => (x.1, x.2.1, z)) = (ecs l).set (k * 3 + 2) (.int .i64 z) ∨ l.length ≤ k
  | [], k, z => .inr (by simp)
  | x :: r, 0, z => .inl (by simp [ecs])
  | x :: r, k + 1, z => by
    rcases ecs_set r k z with h | h
    · refine .inl ?_
      rw [List.modify_succ_cons]
      show [Value.int .i64 x.1, .int .i64 x.2.1, .int .i64 x.2.2] ++ ecs (r.modify k fun x => (x.1, x.2.1, z)) = ([Value.int .i64 x.1, .int .i64 x.2.1, .int .i64 x.2.2] ++ ecs r).set ((k + 1) * 3 + 2) (.int .i64 z)
      rw [h, show (k + 1) * 3 + 2 = (k * 3 + 2) + 1 + 1 + 1 by omega]
      rfl
    · exact .inr (by simp; omega)
theorem row_cell3 {w : World} {base : Nat} {T : TypeId} {s g n c : Nat} {us : List Value} (h : w.ownsRow base T s (.slice (some ⟨g, 0, none⟩) n c) n us) {j : Nat} {u : Value} (hu : us[j]? = some u) : w.cell? ⟨g, j, none⟩ = some u ∧ w.frozen? ⟨g, j, none⟩ = false := by
  obtain ⟨cur, hc⟩ := own_type h (g := g) rfl
  refine ⟨?_, frozen_of_row _ _ _ _ _ hc⟩
  have := World.ownsRow.cells h (g := g) rfl j u hu
  rwa [show (⟨g, 0, none⟩ : Addr).add j = ⟨g, j, none⟩ by unfold Addr.add; split <;> simp_all] at this
theorem OwnE.time {w : World} {base g c : Nat} {l : List Ed3} (h : OwnE w base (.slice (some ⟨g, 0, none⟩) l.length c) l) {k : Nat} (hk : k < l.length) (z : Int) :
    OwnE (w.setCell ⟨g, k * 3 + 2, none⟩ (.int .i64 z)) base (.slice (some ⟨g, 0, none⟩) l.length c) (l.modify k fun x => (x.1, x.2.1, z)) ∧ w.grownBy (w.setCell ⟨g, k * 3 + 2, none⟩ (.int .i64 z)) (some g) := by
  have h2 := World.ownsRow.stored h (k * 3 + 2) (.int .i64 z)
  refine ⟨?_, h2.2⟩
  rcases ecs_set l k z with e | e
  · unfold OwnE
    rw [List.length_modify, e]
    exact h2.1
  · omega
theorem mem_modify {l : List Ed3} {k : Nat} {f : Ed3 → Ed3} {e : Ed3} (h : e ∈ l.modify k f) : ∃ x ∈ l, e = x ∨ e = f x := by
  obtain ⟨j, hj, rfl⟩ := List.mem_iff_getElem.1 h
  rw [List.length_modify] at hj
  refine ⟨l[j], List.getElem_mem hj, ?_⟩
  rw [List.getElem_modify]
  split
  · exact .inr rfl
  · exact .inl rfl
theorem fair_close {N : Int} {l : List Ed3} (h : FairR N l) (k : Nat) : FairR N (l.modify k fun x => (x.1, x.2.1, inf)) := by
  refine ⟨h.lo, h.hi, by rw [List.length_modify]; exact h.few, fun e he => ?_, fun e he => ?_⟩
  · obtain ⟨x, hx, rfl | rfl⟩ := mem_modify he
    · exact h.ends _ hx
    · have h1 := h.ends _ hx
      exact h1
  · obtain ⟨x, hx, rfl | rfl⟩ := mem_modify he
    · exact h.times _ hx
    · exact .inl rfl
theorem diff_none {A B : List Int} (h : ∀ x ∈ A, x ∈ B) : (els fun n => ofP A n && !ofP B n).length = 0 := by
  rw [List.length_eq_zero_iff]
  unfold els ofP
  rw [List.filter_eq_nil_iff]
  intro n _
  simp only [Bool.and_eq_true, decide_eq_true_eq, Bool.not_eq_true', decide_eq_false_iff_not, not_and, Decidable.not_not]
  exact h _
theorem re_at {w : World} {g : Nat} {x : Ed3} (h : w.heap[g]? = some (.cells #[.int .i64 x.1, .int .i64 x.2.1, .int .i64 x.2.2] 35 (0, 0))) : Re w (some ⟨g, 0, none⟩) [x].length [x] := by
  refine ⟨rfl, fun _ => ⟨_, rfl, fun j hj => ?_⟩⟩
  obtain rfl : j = 0 := by simpa using hj
  exact ⟨cell_of_row _ _ 0 _ _ _ h, cell_of_row _ _ 1 _ _ _ h, cell_of_row _ _ 2 _ _ _ h⟩
theorem re_new (w : World) (x : Ed3) : Re (w.alloc (.cells #[.int .i64 x.1, .int .i64 x.2.1, .int .i64 x.2.2] 35)) (some ⟨w.heap.size, 0, none⟩) [x].length [x] := by
  have h := heap_alloc_new w (.cells #[.int .i64 x.1, .int .i64 x.2.1, .int .i64 x.2.2] 35)
  refine ⟨rfl, fun _ => ⟨_, rfl, fun j hj => ?_⟩⟩
  obtain rfl : j = 0 := by simpa using hj
  exact ⟨cell_of_row _ _ 0 _ _ _ h, cell_of_row _ _ 1 _ _ _ h, cell_of_row _ _ 2 _ _ _ h⟩
theorem OwnE.net {w : World} {base c : Nat} {A : Option Addr} {l : List Ed3} {N : Int} (h : OwnE w base (.slice A l.length c) l) (hN : I64 N) (hl : ∀ e ∈ l, I64 e.1 ∧ I64 e.2.1 ∧ I64 e.2.2) : NetIn w (.agg #[.int .i64 N, .slice A l.length c]) N l := by
  refine ⟨⟨A, c, rfl, h.re, ?_⟩, hN, hl⟩
  rcases h.2 with ⟨h1, h2⟩ | ⟨g, cap, cur, hv, _, _, hnc, hcm, _⟩
  · injection h1 with _ _ h3
    omega
  · injection hv with _ _ h3
    subst h3
    unfold maxLen at hcm
    exact ⟨hnc, by omega⟩
theorem OwnE.net2 {w : World} {base c n : Nat} {A : Option Addr} {l : List Ed3} {N : Int} (h : OwnE w base (.slice A n c) l) (hn : n = l.length) (hN : I64 N) (hl : ∀ e ∈ l, I64 e.1 ∧ I64 e.2.1 ∧ I64 e.2.2) : NetIn w (.agg #[.int .i64 N, .slice A n c]) N l := by
  subst hn
  exact h.net hN hl
/-- made gives a pair. -/
theorem MadeGives.pair {w w' : World} {N : Int} {l : List Ed3} {e : Ending} (h : MadeGives w N l e w') : Below w.heap.size w w' ∧ ∃ p b, e = .returned (.tuple #[p, .bool b]) ∧
    (b = false ∧ wrong N l ≠ 0 ∨ b = true ∧ FairR N l ∧ ∃ lo G, p = .pointer (some ⟨G, 0, none⟩) ∧ w.heap.size ≤ lo ∧ GrP w' lo w'.heap.size G N.toNat l) := by
  obtain ⟨hb, h | ⟨h0, lo, G, he, hlo, hG⟩⟩ := h
  · exact ⟨hb, _, _, h.2, .inl ⟨rfl, h.1⟩⟩
  · exact ⟨hb, _, _, he, .inr ⟨rfl, fair_iff.1 h0, lo, G, rfl, hlo, hG⟩⟩
end Go.Proofs.YtabciepnbmliiaaDoor
