/- Lists of lines; the reference: Ahead, Key, Put. -/
import Derived.Test.YtkdabnhhjjmibaaHI8
import Derived.Deep.RegionLaw
namespace Go.Proofs.Ytkdabnhhjjmibaa
open Go.RowKit Go.Lib Hp

/-! ### Lines -/

def Lines (w : World) (v : Value) (l : List (Int × KI)) : Prop := w.ownsRow 0 34 2 v l.length (ecsI l)

section
variable {w w' : World} {v : Value} {l : List (Int × KI)}
theorem Lines.form (h : Lines w v l) : ∃ A cap, v = .slice A l.length cap := by
  rcases h.2 with ⟨e, h0⟩ | ⟨g, cap, cur, e, _⟩
  · exact ⟨none, 0, by rw [e, h0]⟩
  · exact ⟨_, cap, e⟩
theorem Lines.form' (h : Lines w v l) (hn : 0 < l.length) : ∃ g cap, v = .slice (some ⟨g, 0, none⟩) l.length cap := by
  obtain ⟨g, cap, e, _⟩ := World.ownsRow.form h hn
  exact ⟨g, cap, e⟩
theorem Lines.obj (h : Lines w v l) {g : Nat} (hg : v.ownBlock = some g) : ∃ cur, w.heap[g]? = some (.cells cur 34 (0, 0)) := by
  rcases h.2 with ⟨e, _⟩ | ⟨g', cap, cur, e, _, hb, _⟩
  · subst e; simp [Value.ownBlock] at hg
  · subst e; simp [Value.ownBlock] at hg; subst hg; exact ⟨cur, hb⟩
theorem Lines.kept (h : Lines w v l) (hk : ∀ g, v.ownBlock = some g → w'.heap[g]? = w.heap[g]?) : Lines w' v l := by
  refine ⟨h.1, ?_⟩
  rcases h.2 with e | ⟨g, cap, cur, e, h1, hb, r⟩
  · exact .inl e
  · exact .inr ⟨g, cap, cur, e, h1, (hk g (by rw [e]; rfl)).trans hb, r⟩
theorem Lines.cell {g cap : Nat} (h : Lines w (.slice (some ⟨g, 0, none⟩) l.length cap) l) {i : Nat} {a : Int × KI} (ha : l[i]? = some a) : w.cell? ⟨g, i * 2, none⟩ = some (.int .i64 a.1) ∧ w.cell? ⟨g, i * 2 + 1, none⟩ = some (Value.int .i64 (a.2)) := by
  have hi := (List.getElem?_eq_some_iff.1 ha).1
  obtain ⟨h1, h2⟩ := ecs_atI ha
  exact ⟨(World.ownsRow.cellAt h _ (by omega)).trans h1, (World.ownsRow.cellAt h _ (by omega)).trans h2⟩
theorem Lines.set {g cap : Nat} (h : Lines w (.slice (some ⟨g, 0, none⟩) l.length cap) l) (i : Nat) (e : Int × KI) : Lines ((w.setCell ⟨g, i * 2, none⟩ (.int .i64 e.1)).setCell ⟨g, i * 2 + 1, none⟩ (Value.int .i64 (e.2))) (.slice (some ⟨g, 0, none⟩) l.length cap) (l.set i e) := by
  have h1 := World.ownsRow.stored h (i * 2) (.int .i64 e.1)
  have h2 := World.ownsRow.stored h1.1 (i * 2 + 1) (Value.int .i64 (e.2))
  have h2 := h2.1
  rw [ecs_setI] at h2
  unfold Lines
  rw [List.length_set]
  exact h2
theorem Lines.take {g cap : Nat} (h : Lines w (.slice (some ⟨g, 0, none⟩) l.length cap) l) {k : Nat} (hk : k ≤ l.length) : Lines w (.slice (some ⟨g, 0, none⟩) k cap) (l.take k) := by
  have hl : (l.take k).length = k := by simp; omega
  unfold Lines
  rw [hl]
  rcases h.2 with ⟨e, _⟩ | ⟨g', cap', cur, e, h1, hb, h2, h3, h4, h5⟩
  · cases e
  · refine ⟨by rw [ecs_lengthI, hl], .inr ⟨g, cap, cur, rfl, Nat.zero_le _, ?_, ?_, ?_, ?_, ?_⟩⟩
    all_goals (simp only [Value.slice.injEq, Option.some.injEq, Addr.mk.injEq, and_true, true_and] at e; obtain ⟨rfl, rfl⟩ := e)
    · exact hb
    · omega
    · exact h3
    · exact h4
    · rw [← ecs_takeI, ← h5, List.take_take]; congr 1; omega

/-- A whole entry. -/
theorem run_load_line {g cap : Nat} (h : Lines w (.slice (some ⟨g, 0, none⟩) l.length cap) l) {i : Nat} {a : Int × KI} (ha : l[i]? = some a) : (loadVar 34 ⟨g, i * 2, none⟩).run Try.prog w = .ok (.agg #[.int .i64 a.1, (Value.int .i64 (a.2))]) w := by
  obtain ⟨c0, c1⟩ := h.cell ha
  have hl : (loadCells ⟨g, i * 2, none⟩ 2).run Try.prog w = .ok #[.int .i64 a.1, (Value.int .i64 (a.2))] w :=
    run_loadCells_list (P := Try.prog) w ⟨g, i * 2, none⟩ [.int .i64 a.1, (Value.int .i64 (a.2))] (fun j v hv => by
      have hadd : (⟨g, i * 2, none⟩ : Addr).add j = ⟨g, i * 2 + j, none⟩ := by unfold Addr.add; split <;> simp_all
      rw [hadd]
      match j, hv with
      | 0, hv => simp at hv; subst hv; exact c0
      | 1, hv => simp at hv; subst hv; exact c1
      | j + 2, hv => simp at hv)
  have hagg : (isAgg 34).run Try.prog w = .ok true w := by kernel_rfl
  have hsz : (sizeOf 34).run Try.prog w = .ok 2 w := by kernel_rfl
  simp [loadVar, Sem.run_bind, hagg, hl]
end


section
variable {w w' : World} {v : Value} {l : List (Int × KI)}
theorem Lines.below (h : Lines w v l) (hb : Below w.heap.size w w') : Lines w' v l := h.kept fun g hg => hb.block g ((World.ownsRow.lt h g hg).2)
theorem Lines.nilv (_ : Lines w v l) (hn : l.length = 0) : l = [] := List.eq_nil_of_length_eq_zero hn
end

/-! ### append of lines -/

theorem infoLine : (Try.prog.info? 34).map (fun i => (i.zero, i.size, i.bytes)) = some (some (.agg #[.int .i64 0, .int .i64 0]), 2, 16) := by kernel_rfl
theorem one_ecs (l : List (Int × KI)) : ∀ u ∈ ecsI l, u.oneCell' = true := by
  intro u hu
  simp [ecsI] at hu
  obtain ⟨a, b, _, rfl | rfl⟩ := hu <;> rfl

/-- The value v reads as the lines l. -/
def Reads (w : World) (v : Value) (l : List (Int × KI)) : Prop :=
  (v = .slice none 0 0 ∧ l = []) ∨ ∃ ad c, v = .slice (some ad) l.length c ∧ ∀ j u, (ecsI l)[j]? = some u → w.cell? (ad.add j) = some u

theorem Lines.reads {w : World} {v : Value} {l : List (Int × KI)} (h : Lines w v l) : Reads w v l := by
  rcases h.2 with ⟨e, h0⟩ | ⟨g, cap, cur, e, h1, hb, h2, h3, h4, h5⟩
  · exact .inl ⟨e, h.nilv h0⟩
  · refine .inr ⟨⟨g, 0, none⟩, cap, e, ?_⟩
    intro j u hu
    have hh := World.ownsRow.cells h (g := g) (by rw [e]; rfl)
    exact hh j u hu

theorem run_append_lines (w : World) (ty : TypeId) (base : Nat) (v : Value) (n : Nat) (xs : List Value) (hown : w.ownsRow base 34 2 v n xs) (x : Value) (l : List (Int × KI)) (hx : Reads w x l) (h63 : n + l.length ≤ 1000000) (hbase : base ≤ w.heap.size) :
    ∃ v' w', (Builtin.append_ #[26, 26] ty #[v, x]).run Try.prog w = .ok v' w' ∧ w'.ownsRow base 34 2 v' (n + l.length) (xs ++ ecsI l) ∧ w.grownBy w' v.ownBlock := by
  obtain ⟨i0, hi, hz0, hz1, hz2⟩ := info_parts infoLine
  rcases hx with ⟨rfl, rfl⟩ | ⟨ad, c, rfl, hnews⟩
  · refine ⟨v, w, run_append_owned_none w base 26 ty 34 i0 2 Try.underlying26 hi v n xs hown, ?_, World.grownBy.refl _ _⟩
    simpa [ecsI] using hown
  · obtain ⟨v', w', h1, h2, h3, _⟩ := run_append_own_at (P := Try.prog) w base 26 ty 34 i0 _ 2 16 Try.underlying26 hi hz0 hz1 hz2 rfl (by decide) v n xs hown ad l.length c (ecsI l) (ecs_lengthI l) hnews (one_ecs l) (by unfold maxLen; omega) (by omega) hbase
    exact ⟨v', w', h1, h2, h3⟩

section
variable {ops : Array Oper} {rest : List Oper} {o : Oper} {a : Act} {w : World} {Q : Exit → Act → World → Prop}
theorem wp_append_lines {K : Act → World → Prop} (s x : Operand) (ho : o.op = .call { callee := .builtin .append, args := #[s, x], argTypes := #[26, 26] }) (base : Nat) (v : Value) (n : Nat) (xs : List Value) (hs : a.eval s = v) (hown : w.ownsRow base 34 2 v n xs)
    (y : Value) (l : List (Int × KI)) (hx : a.eval x = y) (hr : Reads w y l) (h63 : n + l.length ≤ 1000000) (hbase : base ≤ w.heap.size)
    (h : ∀ v' w', w'.ownsRow base 34 2 v' (n + l.length) (xs ++ ecsI l) → w.grownBy w' v.ownBlock → K (a.put o.dst v') w') : o.wp Try.prog a w K Q := by
  obtain ⟨v', w', hr, h2, h3⟩ := run_append_lines w o.type base v n xs hown y l hr h63 hbase
  unfold Oper.wp execOp
  simp only [ho, resolve, invoke, builtin, Sem.run_bind, Sem.run_pure, Result.andThen_ok, List.map_toArray, List.map_cons, List.map_nil, hs, hx, hr]
  exact h v' w' h2 h3
theorem wpList_append_lines (hgd : o.guard = none) (s x : Operand) (ho : o.op = .call { callee := .builtin .append, args := #[s, x], argTypes := #[26, 26] }) (base : Nat) (v : Value) (n : Nat) (xs : List Value) (hs : a.eval s = v) (hown : w.ownsRow base 34 2 v n xs)
    (y : Value) (l : List (Int × KI)) (hx : a.eval x = y) (hr : Reads w y l) (h63 : n + l.length ≤ 1000000) (hbase : base ≤ w.heap.size)
    (h : ∀ v' w', w'.ownsRow base 34 2 v' (n + l.length) (xs ++ ecsI l) → w.grownBy w' v.ownBlock → wpList Try.prog ops Q rest (a.put o.dst v') w') : wpList Try.prog ops Q (o :: rest) a w :=
  wpList_plain hgd fun _ hK => wp_append_lines s x ho base v n xs hs hown y l hx hr h63 hbase fun v' w' h2 h3 => hK _ _ (h v' w' h2 h3)
theorem step_append_lines {K : Act → World → Prop} {E : Prop} (hgd : o.guard = none) (s x : Operand) (ho : o.op = .call { callee := .builtin .append, args := #[s, x], argTypes := #[26, 26] }) (base : Nat) (v : Value) (n : Nat) (xs : List Value) (hs : a.eval s = v) (hown : w.ownsRow base 34 2 v n xs)
    (y : Value) (l : List (Int × KI)) (hx : a.eval x = y) (hr : Reads w y l) (h63 : n + l.length ≤ 1000000) (hbase : base ≤ w.heap.size)
    (h : ∀ v' w', w'.ownsRow base 34 2 v' (n + l.length) (xs ++ ecsI l) → w.grownBy w' v.ownBlock → K (a.put o.dst v') w') :
    if Region.wanted o (yielded ops a.tmps) = true then Oper.wp Try.prog o a w K Q else E := by
  have hw : Region.wanted o (yielded ops a.tmps) = true := by simp [Region.wanted, hgd]
  rw [if_pos hw]
  exact wp_append_lines s x ho base v n xs hs hown y l hx hr h63 hbase h
end

/-- A slice of lines of the call's own. -/
def Fresh (w w' : World) (v : Value) (l : List (Int × KI)) : Prop := Lines w' v l ∧ ∀ g, v.ownBlock = some g → w.heap.size ≤ g
theorem fresh_of {w w' : World} {v : Value} {n : Nat} {l : List (Int × KI)} (h : w'.ownsRow w.heap.size 34 2 v n (ecsI l)) (hn : n = l.length) : Fresh w w' v l := by
  subst hn
  refine ⟨⟨h.1, ?_⟩, fun g hg => (h.lt g hg).1⟩
  rcases h.2 with e | ⟨g, cap, cur, e, h1, r⟩
  · exact .inl e
  · exact .inr ⟨g, cap, cur, e, Nat.zero_le _, r⟩

theorem ownsRow_base {w' : World} {e : TypeId} {sz : Nat} {v : Value} {n : Nat} {xs : List Value} {w : World} {B : Nat} (h : w'.ownsRow 0 e sz v n xs) (hg : ∀ g, v.ownBlock = some g → w.heap.size ≤ g) (hB : w.heap.size = B) : w'.ownsRow B e sz v n xs := by
  refine ⟨h.1, ?_⟩
  rcases h.2 with e | ⟨g, cap, cur, e, h1, r⟩
  · exact .inl e
  · exact .inr ⟨g, cap, cur, e, by rw [← hB]; exact hg g (by rw [e]; rfl), r⟩

/-! ### Ahead, Key -/

theorem ahead_any (a b : Int × KI) (w : World) : Calls Try.prog 20 #[.agg #[.int .i64 a.1, .int .i64 a.2], .agg #[.int .i64 b.1, .int .i64 b.2]] w fun e w' => e = .returned (.bool (prec ltI a b)) ∧ Below w.heap.size w w' := by
  unfold prec ltI ilt
  by_cases h : a.2 = b.2
  · have h1 : (a.2 == b.2) = true := by simpa using h
    have h2 : decide (a.2 < b.2) = false := by rw [h]; simp
    rw [if_pos h]
    go_enter Try.func20, Try.ntmps20
    go_wp2
    go_ret
    exact ⟨rfl, ((Below.refl _ _).alloc (Nat.le_refl _) _).alloc (by simp) _⟩
  · have h1 : (a.2 == b.2) = false := by simpa using h
    rw [if_neg h]
    by_cases h2 : a.2 < b.2
    · go_enter Try.func20, Try.ntmps20
      go_wp2
      go_ret
      exact ⟨ret_b (by simp [h2]), ((Below.refl _ _).alloc (Nat.le_refl _) _).alloc (by simp) _⟩
    · go_enter Try.func20, Try.ntmps20
      go_wp2
      go_ret
      exact ⟨ret_b (by simp [h2]), ((Below.refl _ _).alloc (Nat.le_refl _) _).alloc (by simp) _⟩

theorem rkey_at {x : List (Int × KI)} {y : Int} {k : Nat} {a : Int × KI} (hno : ∀ j b, j < k → x[j]? = some b → b.1 ≠ y) (ha : x[k]? = some a) (e : a.1 = y) : rkey x y = some a.2 ∧ rhas x y = true ∧ (∀ z, rput x y z = x.set k (y, z)) ∧ rdrop x y = x.take k ++ x.drop (k + 1) := by
  induction x generalizing k with
  | nil => simp at ha
  | cons c t ih =>
    cases k with
    | zero =>
      simp at ha; subst ha
      refine ⟨by simp [rkey, e], by simp [rhas, e], fun z => by simp [rput, e], by simp [rdrop, e]⟩
    | succ k =>
      have hc : c.1 ≠ y := hno 0 c (by omega) rfl
      obtain ⟨h1, h2, h3, h4⟩ := ih (k := k) (fun j b hj hb => hno (j + 1) b (by omega) (by simpa using hb)) (by simpa using ha)
      refine ⟨?_, ?_, fun z => ?_, ?_⟩
      · unfold rkey at *; rw [List.find?_cons_of_neg (by simpa using hc)]; exact h1
      · rw [rhas_cons, h2, Bool.or_true]
      · unfold rput; rw [if_neg hc, h3 z]; rfl
      · unfold rdrop; rw [if_neg hc, h4]; rfl
theorem rput_miss {x : List (Int × KI)} {y : Int} (h : rhas x y = false) (z : KI) : rput x y z = x ++ [(y, z)] := by
  induction x with
  | nil => rfl
  | cons c t ih =>
    rw [rhas_cons, Bool.or_eq_false_iff] at h
    unfold rput
    rw [if_neg (by simpa using h.1), ih h.2]; rfl
theorem miss_of {x : List (Int × KI)} {y : Int} (h : ∀ j b, j < x.length → x[j]? = some b → b.1 ≠ y) : rhas x y = false :=
  rhas_false.2 fun a ha => by obtain ⟨j, hj⟩ := List.mem_iff_getElem?.1 ha; exact h j a ((List.getElem?_eq_some_iff.1 hj).1) hj

theorem rkey_any (v : Value) (x : List (Int × KI)) (y : Int) (w : World) (H : Lines w v x) (hl : x.length ≤ 10000) : Calls Try.prog 19 #[v, .int .i64 y] w fun r w' => r = .returned (.tuple #[.int .i64 ((rkey x y).getD 0), .bool (rhas x y)]) ∧ w = w' := by
  obtain ⟨A, cap, rfl⟩ := H.form
  go_enter Try.func19, Try.ntmps19
  go_wp2
  go_loop [6] (fun i => ∃ k : Nat, i = .int .i64 k ∧ k ≤ x.length ∧ ∀ j b, j < k → x[j]? = some b → b.1 ≠ y) (fun i => x.length - (intOf i).toNat)
  case atStart => exact ⟨0, rfl, by omega, by intro j b h; omega⟩
  case round =>
    obtain ⟨k, rfl, hk, hno⟩ := hrel
    by_cases hlt : k < x.length
    · obtain ⟨g, cap', e⟩ := H.form' (by omega)
      simp only [Value.slice.injEq, true_and] at e
      obtain ⟨rfl, rfl⟩ := e
      obtain ⟨a, ha⟩ : ∃ a, x[k]? = some a := ⟨_, List.getElem?_eq_getElem hlt⟩
      obtain ⟨p0, p1⟩ := H.cell ha
      have hno' := Lib.hid hno
      clear hno
      have e1 : (k : Int) < (x.length : Int) := by omega
      have e2 : (0 : Int) ≤ (k : Int) := by omega
      by_cases hy : a.1 = y
      · have h1 : (a.1 == y) = true := by simpa using hy
        go_wp2
        go_ret2
        obtain ⟨q1, q2, _⟩ := rkey_at hno'.out ha hy
        rw [q1, q2]
        exact ⟨rfl, rfl⟩
      · have h1 : (a.1 == y) = false := by simpa using hy
        go_wp2
        go_round
        case rel => exact ⟨k + 1, by go_num, by omega, fun j b hj hb => by
          by_cases e : j = k
          · subst e; rw [ha] at hb; injection hb with hb; subst hb; exact hy
          · exact hno'.out j b (by omega) hb⟩
        case measure => simp [intOf]; omega
    · obtain rfl : k = x.length := by omega
      have hm := miss_of hno
      clear hno
      go_wp2
      go_ret2
      rw [rkey_none hm]
      exact ⟨rfl, rfl⟩
end Go.Proofs.Ytkdabnhhjjmibaa
