/- Rows of things. -/
import Derived.Test.YtmmfkepkdmmmkaaV6
set_option linter.unusedVariables false
set_option linter.unusedSimpArgs false
namespace Go.Proofs.Ytmmfkepkdmmmkaa
open Go.RowKit Go.Lib Wr

/-- The cells of things in a row. -/
def flat (ps : List (Th × Value)) : List Value := ps.flatMap fun p => tcs p.1 p.2
theorem flat_nil : flat [] = [] := rfl
theorem flat_snoc (ps : List (Th × Value)) (p : Th × Value) : flat (ps ++ [p]) = flat ps ++ tcs p.1 p.2 := by simp [flat]
theorem flat_cons (p : Th × Value) (ps : List (Th × Value)) : flat (p :: ps) = tcs p.1 p.2 ++ flat ps := by simp [flat]
theorem flat_length (ps : List (Th × Value)) : (flat ps).length = ps.length * 5 := by
  induction ps with
  | nil => rfl
  | cons p ps ih => rw [flat_cons, List.length_append, ih]; simp [tcs]; omega
theorem flat_get : ∀ {ps : List (Th × Value)} {i : Nat} {p : Th × Value}, ps[i]? = some p → ∀ j, j < 5 → (flat ps)[i * 5 + j]? = (tcs p.1 p.2)[j]? := by
  intro ps
  induction ps with
  | nil => intro i p h; simp at h
  | cons q ps ih =>
    intro i p h j hj
    have hq : (tcs q.1 q.2).length = 5 := by simp [tcs]
    rw [flat_cons]
    match i, h with
    | 0, h =>
      simp at h; subst h
      rw [List.getElem?_append_left (by omega)]; simp
    | i + 1, h =>
      simp at h
      rw [List.getElem?_append_right (by omega), hq, show (i + 1) * 5 + j - 5 = i * 5 + j from by omega]
      exact ih h j hj
/-- A row of one's own that holds things, whose lists are rows of one's own, too. -/
def OwnT (w : World) (base : Nat) (v : Value) (ts : List Th) : Prop :=
  ∃ ps : List (Th × Value), ps.map (·.1) = ts ∧ w.ownsRow base 33 5 v ts.length (flat ps) ∧ ∀ p ∈ ps, OwnN w base p.2 p.1.l
theorem infoThing : (Try.prog.info? 33).map (fun i => (i.zero, i.size, i.bytes)) = some (some (.agg #[.int .i64 0, .int .i64 0, .bool false, .string ⟨#[]⟩, .slice none 0 0]), 5, 64) := by kernel_rfl
section
variable {w w' : World} {base : Nat} {v : Value} {ts : List Th}
theorem OwnT.nil (w : World) (base : Nat) : OwnT w base (.slice none 0 0) [] := ⟨[], rfl, World.ownsRow_nil _ _ _ _, fun _ h => by cases h⟩
theorem OwnT.form (h : OwnT w base v ts) : ∃ A c, v = .slice A ts.length c := by
  obtain ⟨ps, hp, h, _⟩ := h
  rcases h.2 with ⟨h1, h2⟩ | ⟨g, cap, _, h1, _⟩
  · exact ⟨none, 0, by rw [h1, h2]⟩
  · exact ⟨_, _, h1⟩
theorem OwnT.chg {S : Nat → Prop} (h : OwnT w base v ts) (k : Chg S w w') (hn : ∀ i, base ≤ i → ¬ S i) : OwnT w' base v ts := by
  obtain ⟨ps, hp, h, hl⟩ := h
  refine ⟨ps, hp, ⟨h.1, ?_⟩, fun p hm => (hl p hm).chg k hn⟩
  rcases h.2 with h2 | ⟨g, cap, cur, hv, hg, hh, r⟩
  · exact .inl h2
  · exact .inr ⟨g, cap, cur, hv, hg, by rw [k.block g (Array.getElem?_eq_some_iff.1 hh).1 (hn g hg)]; exact hh, r⟩
theorem OwnT.below (h : OwnT w base v ts) (hb : Below w.heap.size w w') : OwnT w' base v ts := h.chg (Chg.of_below (fun _ => False) hb) fun _ _ h => h
theorem OwnT.rt (h : OwnT w base v ts) {A : Option Addr} {c : Nat} (e : v = .slice A ts.length c) : RT w A ts := fun hn => by
  obtain ⟨ps, hp, h, hl⟩ := h
  have hpl : ps.length = ts.length := by rw [← hp, List.length_map]
  rcases h.2 with ⟨h1, h2⟩ | ⟨g, cap, cur, hv, hg, hh, r⟩
  · omega
  · rw [hv] at e
    injection e with e1 e2 e3
    subst e1
    refine ⟨_, rfl, (Array.getElem?_eq_some_iff.1 hh).1, fun i t ht => ?_⟩
    obtain ⟨p, hpi, hpt⟩ : ∃ p, ps[i]? = some p ∧ p.1 = t := by
      rw [← hp, List.getElem?_map] at ht
      cases hq : ps[i]? with
      | none => rw [hq] at ht; cases ht
      | some p => rw [hq] at ht; exact ⟨p, rfl, by simpa using ht⟩
    subst hpt
    have hc := World.ownsRow.cells h (g := g) (by rw [hv]; rfl)
    have hcell : ∀ j u, (tcs p.1 p.2)[j]? = some u → j < 5 → w.cell? (((⟨g, 0, none⟩ : Addr).add (i * 5)).add j) = some u := fun j u hu hj => by
      rw [addr_add]
      exact hc _ _ (by rw [flat_get hpi j hj]; exact hu)
    refine ⟨p.2, ⟨?_, hcell 1 _ rfl (by omega), hcell 2 _ rfl (by omega), hcell 3 _ rfl (by omega), hcell 4 _ rfl (by omega)⟩, (hl p (List.mem_of_getElem? hpi)).rn⟩
    have := hcell 0 _ rfl (by omega)
    rw [add_zero'] at this
    exact this
end
theorem wpList_append_thing {ops : Array Oper} {rest : List Oper} {o : Oper} {a : Act} {w : World} {Q : Exit → Act → World → Prop} (hgd : o.guard = none) (s x : Operand) (ho : o.op = .call { callee := .builtin .append, args := #[s, x], argTypes := #[38, 38] }) (base : Nat) (v : Value) (ts : List Th) (hs : a.eval s = v) (hown : OwnT w base v ts)
    (g : Nat) (t : Th) (u : Value) (hx : a.eval x = .slice (some ⟨g, 0, none⟩) 1 1) (hat : ThAt w ⟨g, 0, none⟩ t u) (hu : OwnN w base u t.l) (h63 : ts.length ≤ 1000000) (hbase : base ≤ w.heap.size)
    (h : ∀ v' w', OwnT w' base v' (ts ++ [t]) → w.grownBy w' v.ownBlock → (∀ i, v.ownBlock = some i → base ≤ i) → wpList Try.prog ops Q rest (a.put o.dst v') w') : wpList Try.prog ops Q (o :: rest) a w :=
  wpList_plain hgd fun _ hK => by
    obtain ⟨i0, hi, hz0, hz1, hz2⟩ := info_parts infoThing
    obtain ⟨ps, hp, hw, hl⟩ := hown
    obtain ⟨A, c, eu⟩ := hu.form
    obtain ⟨v', w', hr, h2, h3, _, h5⟩ := run_append_own_at (P := Try.prog) w base 38 o.type 33 i0 _ 5 64 Try.underlying38 hi hz0 hz1 hz2 rfl (by decide) v ts.length (flat ps) hw ⟨g, 0, none⟩ 1 1 (tcs t u) (by simp [tcs]) (fun j z hz => by
      match j, hz with
      | 0, hz => simp [tcs] at hz; subst hz; rw [add_zero']; exact hat.1
      | 1, hz => simp [tcs] at hz; subst hz; exact hat.2.1
      | 2, hz => simp [tcs] at hz; subst hz; exact hat.2.2.1
      | 3, hz => simp [tcs] at hz; subst hz; exact hat.2.2.2.1
      | 4, hz => simp [tcs] at hz; subst hz; exact hat.2.2.2.2
      | j + 5, hz => simp [tcs] at hz) (fun z hz => by
      subst eu
      simp [tcs] at hz
      rcases hz with rfl | rfl | rfl | rfl | rfl <;> rfl) (by unfold maxLen; omega) (by omega) hbase
    -- the lists lie in blocks of another type
    have hkeep : ∀ z m, OwnN w base z m → OwnN w' base z m := fun z m hz => by
      refine hz.kept fun k hk => ?_
      refine h3.block k (World.ownsRow.lt hz k hk).2 fun e => ?_
      rcases hz.2 with ⟨e1, _⟩ | ⟨g1, c1, cur1, e1, _, hh1, _⟩
      · rw [e1] at hk; cases hk
      · rcases hw.2 with ⟨e2, _⟩ | ⟨g2, c2, cur2, e2, _, hh2, _⟩
        · rw [e2] at e; cases e
        · rw [e1] at hk; rw [e2] at e
          injection hk with hk; injection e with e
          simp only at hk e
          subst hk
          subst e
          rw [hh1] at hh2
          injection hh2 with hh2
          injection hh2 with _ h7
          exact absurd h7 (by decide)
    unfold Oper.wp execOp
    simp only [ho, resolve, invoke, builtin, Sem.run_bind, Sem.run_pure, Result.andThen_ok, List.map_toArray, List.map_cons, List.map_nil, hs, hx, hr]
    refine hK _ _ (h v' w' ⟨ps ++ [(t, u)], by rw [List.map_append, hp]; rfl, ?_, fun p hm => ?_⟩ h3 (fun i hi => (World.ownsRow.lt hw i hi).1))
    · rw [flat_snoc, List.length_append]; exact h2
    · rcases List.mem_append.1 hm with hm | hm
      · exact hkeep _ _ (hl p hm)
      · simp at hm; subst hm; exact hkeep _ _ hu
end Go.Proofs.Ytmmfkepkdmmmkaa
