/- A graph under construction; add. -/
import Derived.Test.YtabciepnbmliiaaDoorK4
set_option linter.unusedVariables false
set_option linter.unusedSimpArgs false
set_option maxRecDepth 100000
namespace Go.Proofs.YtabciepnbmliiaaDoor
open Go.RowKit Go.Lib Go.Shelf Rg

/-! ### The lists of all nodes -/
def outsL (l : List Ed3) (N : Nat) : List (List Int) := (List.range N).map fun (j : Nat) => outs l (j : Int)
theorem outsL_length (l : List Ed3) (N : Nat) : (outsL l N).length = N := by simp [outsL]
theorem outsL_at {l : List Ed3} {N j : Nat} (h : j < N) : (outsL l N)[j]? = some (outs l (j : Int)) := by
  unfold outsL; rw [List.getElem?_map, List.getElem?_range h]; rfl
theorem outs_snoc (l : List Ed3) (e : Ed3) (v : Int) : outs (l ++ [e]) v = if e.1 = v then outs l v ++ [(l.length : Int)] else outs l v := by
  have key : ∀ k, k ≤ l.length → outsTo (l ++ [e]) v k = outsTo l v k := by
    intro k hk
    unfold outsTo
    congr 1
    refine List.filter_congr fun i hi => ?_
    rw [List.mem_range] at hi
    rw [List.getD_eq_getElem?_getD, List.getD_eq_getElem?_getD, List.getElem?_append_left (by omega)]
  unfold outs
  rw [List.length_append, List.length_singleton, outsTo_succ, key _ (Nat.le_refl _)]
  have : (l ++ [e]).getD l.length (0, 0, 0) = e := by rw [List.getD_eq_getElem?_getD, List.getElem?_append_right (by omega)]; simp
  rw [this]
theorem outsL_snoc {l : List Ed3} {e : Ed3} {N j : Nat} (hj : e.1 = (j : Int)) : outsL (l ++ [e]) N = (outsL l N).set j (outs l (j : Int) ++ [(l.length : Int)]) := by
  apply List.ext_getElem?
  intro k
  by_cases hk : k < N
  · rw [outsL_at hk, outs_snoc, List.getElem?_set, outsL_length]
    by_cases e2 : j = k
    · subst e2; rw [if_pos hj, if_pos rfl, if_pos hk]
    · rw [if_neg (by omega), if_neg e2, outsL_at hk]
  · rw [List.getElem?_eq_none (by rw [outsL_length]; omega), List.getElem?_eq_none (by rw [List.length_set, outsL_length]; omega)]
theorem back_snoc (l : List Ed3) (e : Ed3) : back (l ++ [e]) = back l ++ [turn e] := by unfold back; rw [List.map_append]; rfl
theorem back_length (l : List Ed3) : (back l).length = l.length := by simp [back]
theorem insL_snoc {l : List Ed3} {e : Ed3} {N j : Nat} (hj : e.2.1 = (j : Int)) : outsL (back (l ++ [e])) N = (outsL (back l) N).set j (outs (back l) (j : Int) ++ [(l.length : Int)]) := by
  rw [back_snoc, outsL_snoc (j := j) hj, back_length]

/-! ### Rows that lie apart -/
structure Rws (w : World) (base : Nat) (rs : List Value) (ls : List (List Int)) : Prop where
  len : rs.length = ls.length
  el : ∀ (j : Nat) (u : Value) (p : List Int), rs[j]? = some u → ls[j]? = some p → OwnI w base u p
  ap : ∀ (i j : Nat) (a b : Value), i ≠ j → rs[i]? = some a → rs[j]? = some b → Apart a b
section
variable {w w2 : World} {base : Nat} {rs : List Value} {ls : List (List Int)}
theorem Rws.kept (h : Rws w base rs ls) (hk : ∀ (j : Nat) (u : Value) (g : Nat), rs[j]? = some u → u.ownBlock = some g → w2.heap[g]? = w.heap[g]?) : Rws w2 base rs ls :=
  ⟨h.len, fun j u p hu hp => own_kept (h.el j u p hu hp) fun g hg => hk j u g hu hg, h.ap⟩
theorem Rws.lt (h : Rws w base rs ls) {j : Nat} {u : Value} {g : Nat} (hu : rs[j]? = some u) (hg : u.ownBlock = some g) : base ≤ g ∧ ∃ cur, w.heap[g]? = some (.cells cur 3 (0, 0)) := by
  have hj := (List.getElem?_eq_some_iff.1 hu).1
  have := h.el j u _ hu (List.getElem?_eq_getElem (by have := h.len; omega))
  exact ⟨own_ge this hg, own_type this hg⟩
/-- One row grows. -/
theorem Rws.push {k : Nat} {u u2 : Value} {p : List Int} {y : Int} (h : Rws w base rs ls) (hu : rs[k]? = some u) (hp : ls[k]? = some p) (hO : OwnI w2 base u2 (p ++ [y])) (hg : w.grownBy w2 u.ownBlock) (hn : ∀ b, u2.ownBlock = some b → u.ownBlock = some b ∨ b = w.heap.size) :
    Rws w2 base (rs.set k u2) (ls.set k (p ++ [y])) := by
  have hk := (List.getElem?_eq_some_iff.1 hu).1
  have hl := h.len
  have q : ∀ (j : Nat) (x : Value) (r : List Int), j ≠ k → rs[j]? = some x → ls[j]? = some r → OwnI w2 base x r ∧ Apart x u2 := fun j x r hj hx hr => apart_grown (h.el j x r hx hr) (h.ap j k x u hj hx hu) hg hn
  refine ⟨by simp [hl], fun j x r hx hr => ?_, fun i j a b hij ha hb => ?_⟩
  · rw [List.getElem?_set] at hx hr
    by_cases e : k = j
    · subst e
      rw [if_pos rfl, if_pos hk] at hx
      rw [if_pos rfl, if_pos (by omega)] at hr
      cases hx; cases hr; exact hO
    · rw [if_neg e] at hx hr
      exact (q j x r (fun e' => e e'.symm) hx hr).1
  · have hnone : ∀ (j : Nat) (x : Value), rs[j]? = some x → ∃ r, ls[j]? = some r := fun j x hx => by
      have := (List.getElem?_eq_some_iff.1 hx).1
      exact ⟨_, List.getElem?_eq_getElem (by omega)⟩
    rw [List.getElem?_set] at ha hb
    by_cases ei : k = i
    · subst ei
      rw [if_pos rfl, if_pos hk] at ha
      rw [if_neg hij] at hb
      cases ha
      obtain ⟨r, hr⟩ := hnone j b hb
      exact (q j b r (fun e => hij e.symm) hb hr).2.symm
    · rw [if_neg ei] at ha
      by_cases ej : k = j
      · subst ej
        rw [if_pos rfl, if_pos hk] at hb
        cases hb
        obtain ⟨r, hr⟩ := hnone i a ha
        exact (q i a r hij ha hr).2
      · rw [if_neg ej] at hb
        exact h.ap i j a b hij ha hb
end

/-- A graph under construction, taken apart. -/
structure GrC (w : World) (base G : Nat) (vE vO vI : Value) (l : List Ed3) (us is : List Value) (lo li : List (List Int)) : Prop where
  hd : w.heap[G]? = some (.cells #[vE, vO, vI] 70 (0, 0))
  ge : base ≤ G
  e : OwnE w base vE l
  o : w.ownsRow base 42 1 vO lo.length us
  i : w.ownsRow base 42 1 vI li.length is
  oi : Apart vO vI
  lu : us.length = lo.length
  r : Rws w base (us ++ is) (lo ++ li)
theorem set_header (w : World) (G : Nat) (a b c x : Value) (h : w.heap[G]? = some (.cells #[a, b, c] 70 (0, 0))) : (w.setCell ⟨G, 0, none⟩ x).heap[G]? = some (.cells #[x, b, c] 70 (0, 0)) := by
  obtain ⟨hlt, hk⟩ := Array.getElem?_eq_some_iff.1 h
  show (w.heap.modify G _)[G]? = _
  rw [Array.getElem?_eq_getElem (by rw [Array.size_modify]; exact hlt), Array.getElem_modify_self, hk]
  rfl
section
variable {w w2 : World} {base G : Nat} {vE vO vI vE2 : Value} {l : List Ed3} {us is : List Value} {lo li : List (List Int)}
theorem GrC.ne (h : GrC w base G vE vO vI l us is lo li) {T : TypeId} {k : Nat} {v : Value} {n : Nat} {xs : List Value} {b : Nat} (hv : w.ownsRow b T k v n xs) (hT : T ≠ 70) : ∀ g, v.ownBlock = some g → g ≠ G := fun g hg e => by
  obtain ⟨cur, hc⟩ := own_type hv hg
  rw [e, h.hd] at hc
  injection hc with hc; injection hc with _ hc; exact hT hc.symm
theorem GrC.below (h : GrC w base G vE vO vI l us is lo li) (hb : Below w.heap.size w w2) : GrC w2 base G vE vO vI l us is lo li :=
  ⟨(hb.block G (Array.getElem?_eq_some_iff.1 h.hd).1).trans h.hd, h.ge, own_below h.e hb, own_below h.o hb, own_below h.i hb, h.oi, h.lu, h.r.kept fun j u g hu hg => hb.block g (Array.getElem?_eq_some_iff.1 (h.r.lt hu hg).2.choose_spec).1⟩
/-- One edge more. -/
theorem GrC.edge {x : Ed3} (h : GrC w base G vE vO vI l us is lo li) (hO : OwnE w2 base vE2 (l ++ [x])) (hg : w.grownBy w2 vE.ownBlock) (hn : ∀ b, vE2.ownBlock = some b → vE.ownBlock = some b ∨ b = w.heap.size) :
    GrC (w2.setCell ⟨G, 0, none⟩ vE2) base G vE2 vO vI (l ++ [x]) us is lo li := by
  have hG2 : w2.heap[G]? = some (.cells #[vE, vO, vI] 70 (0, 0)) := (hg.block G (Array.getElem?_eq_some_iff.1 h.hd).1 (fun e => h.ne h.e (by decide) G e.symm rfl)).trans h.hd
  have hne : ∀ {T : TypeId} {k : Nat} {v : Value} {n : Nat} {xs : List Value} {b : Nat}, w2.ownsRow b T k v n xs → T ≠ 70 → (w2.setCell ⟨G, 0, none⟩ vE2).ownsRow b T k v n xs := fun {T k v n xs b} hv hT =>
    own_kept hv fun g hgv => Below.heap_setCell _ _ _ _ (fun e => by
      obtain ⟨cur, hc⟩ := own_type hv hgv
      rw [show g = G from e, hG2] at hc
      injection hc with hc; injection hc with _ hc; exact hT hc.symm)
  have hr2 : ∀ (j : Nat) (u : Value) (g : Nat), (us ++ is)[j]? = some u → u.ownBlock = some g → w2.heap[g]? = w.heap[g]? := fun j u g hu hgv => by
    obtain ⟨_, cur, hc⟩ := h.r.lt hu hgv
    refine hg.block g (Array.getElem?_eq_some_iff.1 hc).1 (fun e => ?_)
    obtain ⟨cur2, hc2⟩ := own_type h.e e.symm
    rw [hc] at hc2; injection hc2 with hc2; injection hc2 with _ hc2; exact absurd hc2 (by decide)
  have R2 := h.r.kept hr2
  refine ⟨set_header _ _ _ _ _ _ hG2, h.ge, hne hO (by decide), hne (apart_grown h.o (apart_type h.o h.e (by decide)) hg hn).1 (by decide), hne (apart_grown h.i (apart_type h.i h.e (by decide)) hg hn).1 (by decide), h.oi, h.lu, R2.kept fun j u g hu hgv => Below.heap_setCell _ _ _ _ (fun e => ?_)⟩
  obtain ⟨_, cur, hc⟩ := R2.lt hu hgv
  rw [show g = G from e, hG2] at hc
  injection hc with hc; injection hc with _ hc; exact absurd hc (by decide)
/-- What a row of numbers that grows, and its new place, leave. -/
theorem GrC.row {k gr cr nr : Nat} {u u2 : Value} {p : List Int} {y : Int} {vs : List Value} (h : GrC w base G vE vO vI l us is lo li) (hu : (us ++ is)[k]? = some u) (hp : (lo ++ li)[k]? = some p) (hO : OwnI w2 base u2 (p ++ [y])) (hg : w.grownBy w2 u.ownBlock) (hn : ∀ b, u2.ownBlock = some b → u.ownBlock = some b ∨ b = w.heap.size)
    (hv : w.ownsRow base 42 1 (.slice (some ⟨gr, 0, none⟩) nr cr) nr vs) (j : Nat) :
    let W := w2.setCell ⟨gr, j, none⟩ u2
    W.heap[G]? = some (.cells #[vE, vO, vI] 70 (0, 0)) ∧ OwnE W base vE l ∧ Rws W base ((us ++ is).set k u2) ((lo ++ li).set k (p ++ [y])) ∧ W.ownsRow base 42 1 (.slice (some ⟨gr, 0, none⟩) nr cr) nr (vs.set j u2) ∧
      ∀ (v : Value) (n : Nat) (xs : List Value), w.ownsRow base 42 1 v n xs → Apart v (.slice (some ⟨gr, 0, none⟩) nr cr) → W.ownsRow base 42 1 v n xs := by
  intro W
  have hOu : OwnI w base u p := h.r.el k u p hu hp
  have hv2 : w2.ownsRow base 42 1 (.slice (some ⟨gr, 0, none⟩) nr cr) nr vs := (apart_grown hv (apart_type hv hOu (by decide)) hg hn).1
  obtain ⟨cur, hcur⟩ := own_type hv2 (g := gr) rfl
  have hT : ∀ {T : TypeId} {kk : Nat} {v : Value} {n : Nat} {xs : List Value} {b : Nat}, w2.ownsRow b T kk v n xs → T ≠ 42 → W.ownsRow b T kk v n xs := fun {T kk v n xs b} hv hT =>
    own_kept hv fun g hgv => Below.heap_setCell _ _ _ _ (fun e => by
      obtain ⟨c2, hc⟩ := own_type hv hgv
      rw [show g = gr from e, hcur] at hc
      injection hc with hc; injection hc with _ hc; exact hT hc.symm)
  have hG2 : w2.heap[G]? = some (.cells #[vE, vO, vI] 70 (0, 0)) := (hg.block G (Array.getElem?_eq_some_iff.1 h.hd).1 (fun e => h.ne hOu (by decide) G e.symm rfl)).trans h.hd
  have R2 := h.r.push hu hp hO hg hn
  refine ⟨(Below.heap_setCell _ _ _ _ (fun e => ?_)).trans hG2, hT (apart_grown h.e (apart_type h.e hOu (by decide)) hg hn).1 (by decide), R2.kept fun j u g hu hgv => Below.heap_setCell _ _ _ _ (fun e => ?_), (hv2.stored j u2).1, fun v n xs hx ha => own_kept (apart_grown hx (apart_type hx hOu (by decide)) hg hn).1 fun g hgv => Below.heap_setCell _ _ _ _ (fun e => ha g hgv (by rw [show g = gr from e]; rfl))⟩
  · rw [show G = gr from e, hcur] at hG2
    injection hG2 with hc; injection hc with _ hc; exact absurd hc (by decide)
  · obtain ⟨_, c2, hc⟩ := R2.lt hu hgv
    rw [show g = gr from e, hcur] at hc
    injection hc with hc; injection hc with _ hc; exact absurd hc (by decide)
theorem GrC.out {j gO cO : Nat} {u u2 : Value} {p : List Int} {y : Int} (h : GrC w base G vE (.slice (some ⟨gO, 0, none⟩) lo.length cO) vI l us is lo li) (hu : us[j]? = some u) (hp : lo[j]? = some p) (hO : OwnI w2 base u2 (p ++ [y])) (hg : w.grownBy w2 u.ownBlock) (hn : ∀ b, u2.ownBlock = some b → u.ownBlock = some b ∨ b = w.heap.size) :
    GrC (w2.setCell ⟨gO, j, none⟩ u2) base G vE (.slice (some ⟨gO, 0, none⟩) lo.length cO) vI l (us.set j u2) is (lo.set j (p ++ [y])) li := by
  have hj := (List.getElem?_eq_some_iff.1 hu).1
  have hjl := (List.getElem?_eq_some_iff.1 hp).1
  obtain ⟨h1, h2, h3, h4, h5⟩ := h.row (k := j) (by rw [List.getElem?_append_left hj]; exact hu) (by rw [List.getElem?_append_left hjl]; exact hp) hO hg hn h.o j
  refine ⟨h1, h.ge, h2, by rw [List.length_set]; exact h4, h5 _ _ _ h.i h.oi.symm, h.oi, by simp [h.lu], ?_⟩
  rw [List.set_append_left _ _ hj, List.set_append_left _ _ hjl] at h3
  exact h3
theorem GrC.inn {j gI cI : Nat} {u u2 : Value} {p : List Int} {y : Int} (h : GrC w base G vE vO (.slice (some ⟨gI, 0, none⟩) li.length cI) l us is lo li) (hu : is[j]? = some u) (hp : li[j]? = some p) (hO : OwnI w2 base u2 (p ++ [y])) (hg : w.grownBy w2 u.ownBlock) (hn : ∀ b, u2.ownBlock = some b → u.ownBlock = some b ∨ b = w.heap.size) :
    GrC (w2.setCell ⟨gI, j, none⟩ u2) base G vE vO (.slice (some ⟨gI, 0, none⟩) li.length cI) l us (is.set j u2) lo (li.set j (p ++ [y])) := by
  have hlu := h.lu
  obtain ⟨h1, h2, h3, h4, h5⟩ := h.row (k := us.length + j) (by rw [List.getElem?_append_right (by omega)]; simpa using hu) (by rw [List.getElem?_append_right (by omega), hlu]; simpa using hp) hO hg hn h.i j
  refine ⟨h1, h.ge, h2, h5 _ _ _ h.o h.oi, by rw [List.length_set]; exact h4, h.oi, h.lu, ?_⟩
  rw [List.set_append_right _ _ (by omega), List.set_append_right _ _ (by omega), hlu] at h3
  simpa using h3
end
end Go.Proofs.YtabciepnbmliiaaDoor
