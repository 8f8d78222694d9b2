/- The reference: Parts. -/
import Derived.Test.YtabciepnbmliiaaDoorW4
set_option linter.unusedVariables false
set_option maxRecDepth 100000
set_option linter.unusedSimpArgs false
namespace Go.Proofs.YtabciepnbmliiaaDoor
open Go.RowKit Go.Lib Rg

/-- Two rows lie in different blocks. -/
def Apart (a b : Value) : Prop := ∀ g, a.ownBlock = some g → b.ownBlock ≠ some g
theorem Apart.symm {a b : Value} (h : Apart a b) : Apart b a := fun g hb ha => h g ha hb
theorem own_type {w : World} {base : Nat} {T : TypeId} {k : Nat} {v : Value} {n : Nat} {xs : List Value} (h : w.ownsRow base T k v n xs) {g : Nat} (hg : v.ownBlock = some g) : ∃ cur, w.heap[g]? = some (.cells cur T (0, 0)) := by
  rcases h.2 with ⟨h1, h2⟩ | ⟨g', cap, cur, h1, _, hh, _⟩
  · rw [h1] at hg; cases hg
  · rw [h1] at hg; injection hg with hg; simp only at hg; subst hg; exact ⟨cur, hh⟩
theorem apart_type {w : World} {b1 b2 : Nat} {T1 T2 : TypeId} {k1 k2 : Nat} {v1 v2 : Value} {n1 n2 : Nat} {x1 x2 : List Value} (h1 : w.ownsRow b1 T1 k1 v1 n1 x1) (h2 : w.ownsRow b2 T2 k2 v2 n2 x2) (hT : T1 ≠ T2) : Apart v1 v2 := fun g e1 e2 => by
  obtain ⟨c1, d1⟩ := own_type h1 e1
  obtain ⟨c2, d2⟩ := own_type h2 e2
  rw [d1] at d2
  simp only [Option.some.injEq, Obj.cells.injEq] at d2
  exact hT d2.2.1
theorem apart_grown {W w2 : World} {base : Nat} {T : TypeId} {k : Nat} {x : Value} {n : Nat} {xs : List Value} (h : W.ownsRow base T k x n xs) {v v' : Value} (ha : Apart x v) (hg : W.grownBy w2 v.ownBlock) (hn : ∀ b, v'.ownBlock = some b → v.ownBlock = some b ∨ b = W.heap.size) :
    w2.ownsRow base T k x n xs ∧ Apart x v' := by
  refine ⟨own_kept h fun g hx => hg.block g (World.ownsRow.lt h g hx).2 (fun e => ha g hx e.symm), fun g hx hv => ?_⟩
  rcases hn g hv with e | e
  · exact ha g hx e
  · have := (World.ownsRow.lt h g hx).2; omega
theorem apart_nil (a : Value) : Apart a (.slice none 0 0) := fun g _ h => by cases h
theorem info_ints : (Tryd.prog.info? 42).map (fun i => (i.zero, i.size, i.bytes)) = some (some (.slice none 0 0), 1, 24) := by kernel_rfl
/-- A row of slices of one's own. -/
def OwnL (w : World) (base : Nat) (v : Value) (us : List Value) : Prop := w.ownsRow base 42 1 v us.length us
theorem OwnL.nil (w : World) (base : Nat) : OwnL w base (.slice none 0 0) [] := World.ownsRow_nil _ _ _ _
theorem OwnL.slice {w : World} {base : Nat} {v : Value} {us : List Value} (h : OwnL w base v us) : ∃ A c, v = .slice A us.length c := own_form h
theorem OwnI.one {w : World} {base : Nat} {v : Value} {xs : List Int} (h : OwnI w base v xs) : ∀ u ∈ [v], u.oneCell' = true := by
  obtain ⟨A, c, rfl⟩ := h.slice
  intro u hu; simp at hu; subst hu; rfl
theorem one_i (z : Int) : ∀ u ∈ [Value.int .i64 z], u.oneCell' = true := by simp [Value.oneCell']
theorem rd_one (w : World) (z : Int) : Rd (w.alloc (.cells #[.int .i64 z] 3)) (some ⟨w.heap.size, 0, none⟩) 1 [z] := by
  refine ⟨rfl, fun _ => ⟨_, rfl, by simp, fun j hj => ?_⟩⟩
  obtain rfl : j = 0 := by simpa using hj
  rw [add_zero']
  exact cell_of_row _ _ 0 _ _ _ (heap_alloc_new w _)
/-- A row of slices us that hold the lists ls and lie apart from the values X. -/
structure OutU (w : World) (base : Nat) (v : Value) (us : List Value) (ls : List (List Int)) (X : List Value) : Prop where
  own : OwnL w base v us
  len : us.length = ls.length
  el : ∀ (j : Nat) (u : Value) (p : List Int), us[j]? = some u → ls[j]? = some p → OwnI w base u p ∧ ∀ x ∈ X, Apart u x
section
variable {w w' W w2 : World} {base : Nat} {v v2 : Value} {us : List Value} {ls : List (List Int)} {X Y : List Value}
theorem OutU.nil (w : World) (base : Nat) (X : List Value) : OutU w base (.slice none 0 0) [] [] X := ⟨OwnL.nil _ _, rfl, by simp⟩
theorem OutU.slice (h : OutU w base v us ls X) : ∃ A c, v = .slice A ls.length c := by rw [← h.len]; exact h.own.slice
theorem OutU.sub (h : OutU w base v us ls X) (hs : ∀ y ∈ Y, y ∈ X ∨ y = .slice none 0 0) : OutU w base v us ls Y := by
  refine ⟨h.own, h.len, fun j u p hu hp => ⟨(h.el j u p hu hp).1, fun y hy => ?_⟩⟩
  rcases hs y hy with e | rfl
  · exact (h.el j u p hu hp).2 y e
  · exact apart_nil u
theorem OutU.mono {b : Nat} (h : OutU w base v us ls X) (hb : b ≤ base) : OutU w b v us ls [] :=
  ⟨own_mono h.own hb, h.len, fun j u p hu hp => ⟨own_mono (h.el j u p hu hp).1 hb, by simp⟩⟩
theorem OutU.to (h : OutU w base v us ls X) (hb : Below w.heap.size w w') : OutU w' base v us ls X :=
  ⟨own_below h.own hb, h.len, fun j u p hu hp => ⟨(h.el j u p hu hp).1.to hb, (h.el j u p hu hp).2⟩⟩
theorem OutU.at_ {A : Option Addr} {c n : Nat} (h : OutU w base (.slice A n c) us ls X) {j : Nat} {p : List Int} (hj : ls[j]? = some p) :
    ∃ ad B d, A = some ad ∧ w.cell? (ad.add j) = some (.slice B p.length d) ∧ Rd w B p.length p := by
  have h2 := h.len
  have hjl := (List.getElem?_eq_some_iff.1 hj).1
  have hus : us[j]? = some us[j] := List.getElem?_eq_getElem (by omega)
  have hO := (h.el j _ p hus hj).1
  obtain ⟨B, d, e⟩ := hO.slice
  rw [e] at hO hus
  obtain ⟨g, cap, hv, _, hlt⟩ := World.ownsRow.form h.own (by omega)
  have hA : A = some ⟨g, 0, none⟩ := by injection hv
  subst hA
  exact ⟨_, B, d, rfl, World.ownsRow.cells h.own (g := g) rfl j _ hus, hO.rd⟩
/-- A row of numbers grows. -/
theorem OutU.grown {x x2 : Value} {xs : List Int} (h : OutU W base v us ls X) (hx : x ∈ X) (hxo : OwnI W base x xs) (hg : W.grownBy w2 x.ownBlock) (hn : ∀ b, x2.ownBlock = some b → x.ownBlock = some b ∨ b = W.heap.size) :
    OutU w2 base v us ls (x2 :: X) := by
  refine ⟨(apart_grown h.own (apart_type h.own hxo (by decide)) hg hn).1, h.len, fun j u p hu hp => ?_⟩
  obtain ⟨q1, q2⟩ := h.el j u p hu hp
  have q := apart_grown q1 (q2 x hx) hg hn
  refine ⟨q.1, fun y hy => ?_⟩
  rcases List.mem_cons.1 hy with rfl | hy
  · exact q.2
  · exact q2 y hy
/-- The row itself gets one more list. -/
theorem OutU.push {u : Value} {p : List Int} (h : OutU W base v us ls X) (hu : OwnI W base u p) (hX : ∀ x ∈ X, Apart u x)
    (hO : w2.ownsRow base 42 1 v2 (us.length + 1) (us ++ [u])) (hg : W.grownBy w2 v.ownBlock) (hn : ∀ b, v2.ownBlock = some b → v.ownBlock = some b ∨ b = W.heap.size) : OutU w2 base v2 (us ++ [u]) (ls ++ [p]) X := by
  have h2 := h.len
  refine ⟨?_, by simp [h2], fun j x q hx hq => ?_⟩
  · unfold OwnL; rw [List.length_append]; exact hO
  · have key : ∀ y r, OwnI W base y r → OwnI w2 base y r := fun y r hy => (apart_grown hy (apart_type hy h.own (by decide)) hg hn).1
    by_cases hj : j < us.length
    · rw [List.getElem?_append_left hj] at hx
      rw [List.getElem?_append_left (by omega)] at hq
      exact ⟨key _ _ (h.el j x q hx hq).1, (h.el j x q hx hq).2⟩
    · have hjl := (List.getElem?_eq_some_iff.1 hx).1
      rw [List.length_append, List.length_singleton] at hjl
      obtain rfl : j = us.length := by omega
      rw [List.getElem?_append_right (by omega)] at hx
      rw [List.getElem?_append_right (by omega)] at hq
      simp [h2] at hx hq
      subst hx hq
      exact ⟨key _ _ hu, hX⟩
end

/-- Within a round: the part, what is done, the parts before. -/
structure Prt (w : World) (B : Nat) (vp vd vo : Value) (ps ds : List Int) (us : List Value) (ls : List (List Int)) : Prop where
  p : OwnI w B vp ps
  d : OwnI w B vd ds
  a : Apart vp vd
  o : OutU w B vo us ls [vp, vd]
section
variable {w w' W w2 : World} {B : Nat} {vp vd vo x2 : Value} {ps ds zs : List Int} {us : List Value} {ls : List (List Int)}
theorem Prt.to (h : Prt w B vp vd vo ps ds us ls) (hb : Below w.heap.size w w') : Prt w' B vp vd vo ps ds us ls := ⟨h.p.to hb, h.d.to hb, h.a, h.o.to hb⟩
theorem Prt.grow_p (h : Prt W B vp vd vo ps ds us ls) (hO : OwnI w2 B x2 zs) (hg : W.grownBy w2 vp.ownBlock) (hn : ∀ b, x2.ownBlock = some b → vp.ownBlock = some b ∨ b = W.heap.size) : Prt w2 B x2 vd vo zs ds us ls := by
  have q := apart_grown h.d h.a.symm hg hn
  exact ⟨hO, q.1, q.2.symm, (h.o.grown (by simp) h.p hg hn).sub (by simp)⟩
theorem Prt.grow_d (h : Prt W B vp vd vo ps ds us ls) (hO : OwnI w2 B x2 zs) (hg : W.grownBy w2 vd.ownBlock) (hn : ∀ b, x2.ownBlock = some b → vd.ownBlock = some b ∨ b = W.heap.size) : Prt w2 B vp x2 vo ps zs us ls := by
  have q := apart_grown h.p h.a hg hn
  exact ⟨q.1, hO, q.2, (h.o.grown (by simp) h.d hg hn).sub (by simp)⟩
end
section
variable {ops : Array Oper} {rest : List Oper} {o : Oper} {a : Act} {W : World} {Q : Exit → Act → World → Prop}
/-- append of one number, with what it leaves. -/
theorem wpList_push2 (s x : Operand) (base : Nat) (v : Value) (xs : List Int) (y : Int) (hgd : o.guard = none) (ho : o.op = .call { callee := .builtin .append, args := #[s, x], argTypes := #[42, 42] })
    (hs : a.eval s = v) (hx : a.eval x = .slice (some ⟨W.heap.size, 0, none⟩) 1 1) (hown : OwnI W base v xs) (hn : xs.length ≤ 1000000) (hbase : base ≤ W.heap.size)
    (h : ∀ v' w', OwnI w' base v' (xs ++ [y]) → (W.alloc (.cells #[.int .i64 y] 3)).grownBy w' v.ownBlock → (∀ b, v'.ownBlock = some b → v.ownBlock = some b ∨ b = (W.alloc (.cells #[.int .i64 y] 3)).heap.size) → Below base W w' → wpList Tryd.prog ops Q rest (a.put o.dst v') w') : wpList Tryd.prog ops Q (o :: rest) a (W.alloc (.cells #[.int .i64 y] 3)) := by
  have hown' : (W.alloc (.cells #[.int .i64 y] 3)).ownsRow base 3 1 v xs.length (xs.map (Value.int .i64)) := World.ownsRow.alloc hown _
  refine wpList_append1 hgd s x 42 3 ho 1 8 (.int .i64 0) Tryd.underlying42 info_int rfl (by decide) (by decide) base v xs.length _ hs hown' W.heap.size hx [.int .i64 y] rfl (row_new W 3 [.int .i64 y]) (one_i y) (by omega)
    (by simp; omega) (fun v' w' h2 h3 h4 => h v' w' ?_ h3 h4 ?_)
  · unfold OwnI
    rw [List.length_append, List.map_append]
    exact h2
  · refine ((Below.refl base W).alloc hbase _).grown h3 (by simp; omega) (fun k hk => ?_)
    exact (World.ownsRow.lt hown' k hk).1
/-- append of one slice. -/
theorem wpList_pushL (s x : Operand) (base : Nat) (v : Value) (us : List Value) (u : Value) (p : List Int) (hgd : o.guard = none) (ho : o.op = .call { callee := .builtin .append, args := #[s, x], argTypes := #[62, 62] })
    (hs : a.eval s = v) (hx : a.eval x = .slice (some ⟨W.heap.size, 0, none⟩) 1 1) (hown : OwnL W base v us) (hu : OwnI W base u p) (hn : us.length ≤ 1000000) (hbase : base ≤ W.heap.size)
    (h : ∀ v' w', w'.ownsRow base 42 1 v' (us.length + 1) (us ++ [u]) → (W.alloc (.cells #[u] 42)).grownBy w' v.ownBlock → (∀ b, v'.ownBlock = some b → v.ownBlock = some b ∨ b = (W.alloc (.cells #[u] 42)).heap.size) → Below base W w' → wpList Tryd.prog ops Q rest (a.put o.dst v') w') : wpList Tryd.prog ops Q (o :: rest) a (W.alloc (.cells #[u] 42)) := by
  have hown' : (W.alloc (.cells #[u] 42)).ownsRow base 42 1 v us.length us := World.ownsRow.alloc hown _
  refine wpList_append1 hgd s x 62 42 ho 1 24 (.slice none 0 0) Tryd.underlying62 info_ints rfl (by decide) (by decide) base v us.length us hs hown' W.heap.size hx [u] rfl (row_new W 42 [u]) hu.one (by omega)
    (by simp; omega) (fun v' w' h2 h3 h4 => h v' w' h2 h3 h4 ?_)
  refine ((Below.refl base W).alloc hbase _).grown h3 (by simp; omega) (fun k hk => ?_)
  exact (World.ownsRow.lt hown' k hk).1
end

end Go.Proofs.YtabciepnbmliiaaDoor
