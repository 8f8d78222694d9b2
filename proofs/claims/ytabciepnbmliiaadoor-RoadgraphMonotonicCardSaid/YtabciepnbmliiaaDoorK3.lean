/- The search. -/
import Derived.Test.YtabciepnbmliiaaDoorK2
set_option linter.unusedVariables false
set_option linter.unusedSimpArgs false
set_option maxRecDepth 100000
namespace Go.Proofs.YtabciepnbmliiaaDoor
open Go.RowKit Go.Lib Go.Shelf Rg
attribute [local go_sem] Oper.semAt_some

/-- What the search finds was free. -/
theorem out_free {l : List Ed3} {N : Nat} {S S' : Int → Bool} {M : List Int} (h : Out l N S M S') : free N S' + M.length ≤ free N S := by
  have key := nodup_sub (((List.range N).filter fun (n : Nat) => !S' n).map (fun (n : Nat) => (n : Int)) ++ M) (((List.range N).filter fun (n : Nat) => !S n).map (fun (n : Nat) => (n : Int))) ?_ ?_
  · unfold free; simpa using key
  · rw [List.nodup_append]
    refine ⟨?_, h.nodup, fun a ha b hb hab => ?_⟩
    · exact List.Pairwise.map _ (fun a b hab h => hab (by exact_mod_cast h)) (List.nodup_range.filter _)
    · subst hab
      obtain ⟨n, hn, rfl⟩ := List.mem_map.1 ha
      have := (List.mem_filter.1 hn).2
      rw [(h.seen _).2 (.inr hb)] at this; cases this
  · intro x hx
    rcases List.mem_append.1 hx with q | q
    · obtain ⟨n, hn, rfl⟩ := List.mem_map.1 q
      obtain ⟨h1, h2⟩ := List.mem_filter.1 hn
      refine List.mem_map.2 ⟨n, List.mem_filter.2 ⟨h1, ?_⟩, rfl⟩
      cases hc : S n with
      | false => rfl
      | true => rw [(h.seen _).2 (.inl hc)] at h2; cases h2
    · have := h.node x q
      refine List.mem_map.2 ⟨x.toNat, List.mem_filter.2 ⟨List.mem_range.2 (by omega), ?_⟩, by omega⟩
      rw [show ((x.toNat : Nat) : Int) = x by omega, h.off x q]; rfl

/-- What has changed behind a search: the row of what is seen, the row that was handed in. -/
def XV (sb : Nat) (v : Value) : Nat → Prop := fun k => k = sb ∨ v.ownBlock = some k
/-- What the search gives. -/
structure Found (w : World) (base sb N : Nat) (v : Value) (st : St) (e : Ending) (w' : World) : Prop where
  ex : ∃ v', e = .returned v' ∧ OwnI w' base v' st.2 ∧ SeenAt w' sb N st.1 ∧ Kept (XV sb v) w.heap.size w w' ∧ ∀ b, v'.ownBlock = some b → v.ownBlock = some b ∨ w.heap.size ≤ b

theorem bools_cell {w : World} {sb v N : Nat} {S : Int → Bool} (h : SeenAt w sb N S) (hv : v < N) : w.cell? ⟨sb, v, none⟩ = some (.bool (S v)) := (h v hv).1

section
variable {F : Fence} {n : Nat} {ops : Array Oper} {rest : List Oper} {o : Oper} {a : Act} {W : World} {Q : Exit → Act → World → Prop}
/-- append of one number, inside a fence, with what it leaves. -/
theorem wpListIn_push (s x : Operand) (base : Nat) (v : Value) (xs : List Int) (y : Int) (hgd : o.guard = none) (ho : o.op = .call { callee := .builtin .append, args := #[s, x], argTypes := #[42, 42] })
    (hs : a.eval s = v) (hx : a.eval x = .slice (some ⟨W.heap.size, 0, none⟩) 1 1) (hown : OwnI W base v xs) (hn : xs.length ≤ 1000000) (hbase : base ≤ W.heap.size)
    (h : ∀ v' w', OwnI w' base v' (xs ++ [y]) → (W.alloc (.cells #[.int .i64 y] 3)).grownBy w' v.ownBlock → (∀ b, v'.ownBlock = some b → v.ownBlock = some b ∨ b = (W.alloc (.cells #[.int .i64 y] 3)).heap.size) → wpListIn F n Tryd.prog ops Q rest (a.put o.dst v') w') : wpListIn F n Tryd.prog ops Q (o :: rest) a (W.alloc (.cells #[.int .i64 y] 3)) := by
  have hown' : (W.alloc (.cells #[.int .i64 y] 3)).ownsRow base 3 1 v xs.length (xs.map (Value.int .i64)) := World.ownsRow.alloc hown _
  obtain ⟨v', w', hr, h2, h3, h4⟩ := run_append1 (W.alloc (.cells #[.int .i64 y] 3)) o.type 42 3 1 8 (.int .i64 0) Tryd.underlying42 info_int rfl (by decide) (by decide) base v xs.length _ hown' W.heap.size [.int .i64 y] rfl (row_new W 3 [.int .i64 y]) (one_i y) (by omega) (by simp; omega)
  refine wpListIn_plain hgd fun K hK' => ?_
  unfold Oper.wpIn
  refine ⟨by simp [Oper.about, ho, resolve, Target.leads, Sem.run_pure], ?_⟩
  rw [Oper.semAt_plain F _ _ (by rw [ho]; intro c hc'; cases hc')]
  simp [execOp, ho, resolve, invoke, builtin, hs, hx, hr, Result.andThen]
  refine hK' _ _ (h v' w' ?_ h3 h4)
  unfold OwnI
  rw [List.length_append, List.map_append]
  exact h2
end

theorem grownBy_setCellAt (W : World) (p : Addr) (v : Value) : W.grownBy (W.setCell p v) (some p.block) :=
  ⟨rfl, rfl, rfl, by simp, fun k _ hk => Below.heap_setCell _ _ _ k (fun e => hk (by rw [e]))⟩
/-- Between two rounds of a search's loop. -/
def VI (N f sb base bx : Nat) (X : Nat → Prop) (wl : World) (vl : Value) (st : St) (W : World) : Prop :=
  ∃ vc, Boxed W bx 42 vc ∧ OwnI W base vc st.2 ∧ SeenAt W sb N st.1 ∧ Kept X wl.heap.size wl W ∧ (∀ b, vc.ownBlock = some b → vl.ownBlock = some b ∨ wl.heap.size ≤ b) ∧ st.2.length + free N st.1 ≤ 99999 ∧ free N st.1 ≤ f
theorem same_cells {W W' : World} {row : Option Nat} (hg : W.grownBy W' row) (hr : ∀ r, row = some r → ∃ o : Obj, W.heap[r]? = some o ∧ o.isCells = false) {k : Nat} {cs : Array Value} {T : TypeId} {q : Nat × Nat} (hk : W.heap[k]? = some (.cells cs T q)) : W'.heap[k]? = W.heap[k]? := by
  refine hg.block k (Array.getElem?_eq_some_iff.1 hk).1 (fun e => ?_)
  obtain ⟨o, ho, hc⟩ := hr k e.symm
  rw [hk] at ho; cases ho; cases hc
theorem own_same {W W' : World} {row : Option Nat} (hg : W.grownBy W' row) (hr : ∀ r, row = some r → ∃ o : Obj, W.heap[r]? = some o ∧ o.isCells = false) {base : Nat} {T : TypeId} {k : Nat} {v : Value} {n : Nat} {xs : List Value} (h : W.ownsRow base T k v n xs) : W'.ownsRow base T k v n xs :=
  own_kept h fun g hgv => by
    obtain ⟨cur, hc⟩ := own_type h hgv
    exact same_cells hg hr hc
theorem SeenAt.same {W W' : World} {row : Option Nat} (hg : W.grownBy W' row) (hr : ∀ r, row = some r → ∃ o : Obj, W.heap[r]? = some o ∧ o.isCells = false) {b N : Nat} {S : Int → Bool} (h : SeenAt W b N S) : SeenAt W' b N S :=
  fun i hi => ⟨cell_kept (h i hi).1 hg hr, (frozen_kept (h i hi).1 hg hr).trans (h i hi).2⟩
theorem VI_own {β : Type} (N f sb base bx : Nat) (X : Nat → Prop) (wl : World) (vl : Value) (st : β → St) : OwnFrom wl.heap.size (fun p W => VI N f sb base bx X wl vl (st p) W) := by
  rintro s W W' row ⟨vc, h1, h2, h3, h4, h5, h6⟩ hg hr
  have hr' : ∀ r, row = some r → ∃ o : Obj, W.heap[r]? = some o ∧ o.isCells = false := fun r e => (hr r e).2
  exact ⟨vc, (same_cells hg hr' h1).trans h1, own_same hg hr' h2, h3.same hg hr', h4.grown hg h4.size (fun i hi hl => by have := (hr i hi).1; omega), h5, h6⟩
theorem cells_of_cell {W : World} {p : Addr} {v : Value} (h : W.cell? p = some v) : ∀ o, W.heap[p.block]? = some o → o.isCells = true := by
  intro o ho
  unfold World.cell? at h
  rw [ho] at h
  cases o <;> simp_all [Obj.isCells]

/-- The search at a node that was seen. -/
theorem visit_seen (N : Nat) (l : List Ed3) (f v : Nat) (S : Int → Bool) (L : List Int) (w : World) (G sb cs base : Nat) (vl : Value) (hv : v < N) (hs : SeenAt w sb N S) (hsb : sb < w.heap.size) (hO : OwnI w base vl L) (hS : S v = true) :
    Calls Tryd.prog 44 #[.pointer (some ⟨G, 0, none⟩), .int .i64 (v : Int), .slice (some ⟨sb, 0, none⟩) N cs, vl] w (Found w base sb N vl (dfs l f v (S, L))) := by
  obtain ⟨Av, cv, rfl⟩ := hO.slice
  have hc := bools_cell hs hv
  have hB : Below w.heap.size w (((w.alloc (.cells #[.pointer (some ⟨G, 0, none⟩)] 26)).alloc (.cells #[.slice (some ⟨sb, 0, none⟩) N cs] 75)).alloc (.cells #[.slice Av L.length cv] 42)) := (((Below.refl _ w).alloc (Nat.le_refl _) _).alloc (by simp) _).alloc (by simp; omega) _
  have hvN : (v : Int) < (N : Int) := by omega
  have hd := dfs_seen (l := l) (f := f) (v := v) (s := (S, L)) hS
  rw [hS] at hc
  have hcA : (((w.alloc (.cells #[.pointer (some ⟨G, 0, none⟩)] 26)).alloc (.cells #[.slice (some ⟨sb, 0, none⟩) N cs] 75)).alloc (.cells #[.slice Av L.length cv] 42)).cell? ⟨sb, v, none⟩ = some (.bool true) := (hB.cell (p := ⟨sb, v, none⟩) hsb).trans hc
  have H1 := Lib.hid hs; clear hs
  have H2 := Lib.hid hO; clear hO
  have H5 := Lib.hid hd; clear hd
  have HB := Lib.hid hB; clear hB
  refine (callsIn_wide (n := 7)).1 ?_
  refine callsIn_of_wp_marks Tryd.func44 rfl trivial ?_ rfl
  simp only [Tryd.ntmps44, List.size_toArray, List.length_cons, List.length_nil, Nat.reduceAdd, Nat.reduceSub, Array.replicate_succ, Array.replicate_zero, List.push_toArray, List.append_toArray, List.nil_append, List.cons_append]
  gi_wp2_with fail
  refine ⟨_, results_tmp rfl _ _ _, ?_⟩
  rw [H5.out]
  exact ⟨_, rfl, H2.out.to HB.out, H1.out.below HB.out hsb, .of_below _ HB.out, fun b hb => .inl hb⟩

set_option maxHeartbeats 4000000 in
theorem visit_any (N : Nat) (l : List Ed3) (hF : FairR N l) (f : Nat) : ∀ (v : Nat) (S : Int → Bool) (L : List Int) (w : World) (lo hi G sb cs base : Nat) (vl : Value), v < N → free N S ≤ f → L.length + free N S ≤ 99999 → GrP w lo hi G N l → hi ≤ w.heap.size → SeenAt w sb N S → sb < w.heap.size → (sb < lo ∨ hi ≤ sb) → OwnI w base vl L → base ≤ w.heap.size → (∀ b, vl.ownBlock = some b → (b < lo ∨ hi ≤ b) ∧ b ≠ sb) →
    Calls Tryd.prog 44 #[.pointer (some ⟨G, 0, none⟩), .int .i64 (v : Int), .slice (some ⟨sb, 0, none⟩) N cs, vl] w (Found w base sb N vl (dfs l f v (S, L))) := by
  induction f with
  | zero =>
    intro v S L w lo hi G sb cs base vl hv hf hC hG hhi hs hsb hsl hO hbase hap
    exact visit_seen N l 0 v S L w G sb cs base vl hv hs hsb hO (free_zero (N := N) ⟨by omega, by omega⟩ (by omega))
  | succ f ih =>
    intro v S L w lo hi G sb cs base vl hv hf hC hG hhi hs hsb hsl hO hbase hap
    by_cases hS : S v = true
    · exact visit_seen N l (f + 1) v S L w G sb cs base vl hv hs hsb hO hS
    · have hS : S v = false := by simpa using hS
      obtain ⟨Av, cv, rfl⟩ := hO.slice
      have hc := bools_cell hs hv
      have hB : Below w.heap.size w (((w.alloc (.cells #[.pointer (some ⟨G, 0, none⟩)] 26)).alloc (.cells #[.slice (some ⟨sb, 0, none⟩) N cs] 75)).alloc (.cells #[.slice Av L.length cv] 42)) := (((Below.refl _ w).alloc (Nat.le_refl _) _).alloc (by simp) _).alloc (by simp; omega) _
      have hvN : (v : Int) < (N : Int) := by omega
      rw [hS] at hc
      have HI := Lib.hid ih; clear ih
      have hfr : (w.frozen? ⟨sb, v, none⟩ = false) := (hs v hv).2
      have hfree := free_upd (N := N) (S := S) (v := (v : Int)) ⟨by omega, by omega⟩ hS
      have hnew := dfs_new (l := l) (f := f) (v := v) (s := (S, L)) hS
      obtain ⟨AE, cE, AO, cO, AI, cI, hd0, hd1, hd2, hRe, us, is, hRO, hRI⟩ := hG.head
      have hcA : (((w.alloc (.cells #[.pointer (some ⟨G, 0, none⟩)] 26)).alloc (.cells #[.slice (some ⟨sb, 0, none⟩) N cs] 75)).alloc (.cells #[.slice Av L.length cv] 42)).cell? ⟨sb, v, none⟩ = some (.bool false) := (hB.cell (p := ⟨sb, v, none⟩) hsb).trans hc
      have hfA : (((w.alloc (.cells #[.pointer (some ⟨G, 0, none⟩)] 26)).alloc (.cells #[.slice (some ⟨sb, 0, none⟩) N cs] 75)).alloc (.cells #[.slice Av L.length cv] 42)).frozen? ⟨sb, v, none⟩ = false := (frozen_heap (hB.block sb hsb)).trans hfr
      have hGs := hG.lt
      have hGb : G ≠ sb := by have := hG.ge; have := hG.top; omega
      have hd1S : ((((w.alloc (.cells #[.pointer (some ⟨G, 0, none⟩)] 26)).alloc (.cells #[.slice (some ⟨sb, 0, none⟩) N cs] 75)).alloc (.cells #[.slice Av L.length cv] 42)).setCell ⟨sb, v, none⟩ (.bool true)).cell? ⟨G, 1, none⟩ = some (.slice (some ⟨AO, 0, none⟩) N cO) := (World.cell?_setCell_other _ _ _ _ (by intro h; injection h with h1; exact hGb h1.symm)).trans ((hB.cell (p := ⟨G, 1, none⟩) hGs).trans hd1)
      have hbS : ((((w.alloc (.cells #[.pointer (some ⟨G, 0, none⟩)] 26)).alloc (.cells #[.slice (some ⟨sb, 0, none⟩) N cs] 75)).alloc (.cells #[.slice Av L.length cv] 42)).setCell ⟨sb, v, none⟩ (.bool true)).cell? ⟨w.heap.size, 0, none⟩ = some (.pointer (some ⟨G, 0, none⟩)) := (World.cell?_setCell_other _ _ _ _ (by intro h; injection h with h1; omega)).trans (((Boxed.new w 26 _).alloc _).alloc _).cell
      have hsA : SeenAt ((((w.alloc (.cells #[.pointer (some ⟨G, 0, none⟩)] 26)).alloc (.cells #[.slice (some ⟨sb, 0, none⟩) N cs] 75)).alloc (.cells #[.slice Av L.length cv] 42)).setCell ⟨sb, v, none⟩ (.bool true)) sb N (upd S v) := (hs.below hB hsb).set hv
      have kS : Kept (fun k => k = sb) w.heap.size w ((((w.alloc (.cells #[.pointer (some ⟨G, 0, none⟩)] 26)).alloc (.cells #[.slice (some ⟨sb, 0, none⟩) N cs] 75)).alloc (.cells #[.slice Av L.length cv] 42)).setCell ⟨sb, v, none⟩ (.bool true)) := Kept.setCell (X := fun k => k = sb) (Kept.of_below _ hB) (p := ⟨sb, v, none⟩) (fun _ => rfl) _
      have kL : Kept (fun k => k = sb) w.heap.size w ((((((w.alloc (.cells #[.pointer (some ⟨G, 0, none⟩)] 26)).alloc (.cells #[.slice (some ⟨sb, 0, none⟩) N cs] 75)).alloc (.cells #[.slice Av L.length cv] 42)).setCell ⟨sb, v, none⟩ (.bool true)).alloc (.cells #[.slice (some ⟨AO, 0, none⟩) N cO] 62)).alloc (.cells #[.int .i64 (v : Int)] 3)) := (kS.alloc (by simp; omega) _).alloc (by simp; omega) _
      have hsL : SeenAt ((((((w.alloc (.cells #[.pointer (some ⟨G, 0, none⟩)] 26)).alloc (.cells #[.slice (some ⟨sb, 0, none⟩) N cs] 75)).alloc (.cells #[.slice Av L.length cv] 42)).setCell ⟨sb, v, none⟩ (.bool true)).alloc (.cells #[.slice (some ⟨AO, 0, none⟩) N cO] 62)).alloc (.cells #[.int .i64 (v : Int)] 3)) sb N (upd S v) := hsA.below (n₀ := sb + 1) (((Below.refl _ _).alloc (by simp; omega) _).alloc (by simp; omega) _) (by omega)
      have hszL : ((((((w.alloc (.cells #[.pointer (some ⟨G, 0, none⟩)] 26)).alloc (.cells #[.slice (some ⟨sb, 0, none⟩) N cs] 75)).alloc (.cells #[.slice Av L.length cv] 42)).setCell ⟨sb, v, none⟩ (.bool true)).alloc (.cells #[.slice (some ⟨AO, 0, none⟩) N cO] 62)).alloc (.cells #[.int .i64 (v : Int)] 3)).heap.size = w.heap.size + 5 := by simp
      have hOL : OwnI ((((((w.alloc (.cells #[.pointer (some ⟨G, 0, none⟩)] 26)).alloc (.cells #[.slice (some ⟨sb, 0, none⟩) N cs] 75)).alloc (.cells #[.slice Av L.length cv] 42)).setCell ⟨sb, v, none⟩ (.bool true)).alloc (.cells #[.slice (some ⟨AO, 0, none⟩) N cO] 62)).alloc (.cells #[.int .i64 (v : Int)] 3)) base (.slice Av L.length cv) L := kL.own hO fun g hg => ⟨own_lt hO hg, (hap g hg).2⟩
      have hGL : GrP ((((((w.alloc (.cells #[.pointer (some ⟨G, 0, none⟩)] 26)).alloc (.cells #[.slice (some ⟨sb, 0, none⟩) N cs] 75)).alloc (.cells #[.slice Av L.length cv] 42)).setCell ⟨sb, v, none⟩ (.bool true)).alloc (.cells #[.slice (some ⟨AO, 0, none⟩) N cO] 62)).alloc (.cells #[.int .i64 (v : Int)] 3)) lo hi G N l := hG.kept kL hhi (fun b h1 h2 => by omega)
      have hb1 : ((((((w.alloc (.cells #[.pointer (some ⟨G, 0, none⟩)] 26)).alloc (.cells #[.slice (some ⟨sb, 0, none⟩) N cs] 75)).alloc (.cells #[.slice Av L.length cv] 42)).setCell ⟨sb, v, none⟩ (.bool true)).alloc (.cells #[.slice (some ⟨AO, 0, none⟩) N cO] 62)).alloc (.cells #[.int .i64 (v : Int)] 3)).cell? ⟨w.heap.size + 1 + 1 + 1 + 1, 0, none⟩ = some (.int .i64 (v : Int)) := by have := (Boxed.new (((((w.alloc (.cells #[.pointer (some ⟨G, 0, none⟩)] 26)).alloc (.cells #[.slice (some ⟨sb, 0, none⟩) N cs] 75)).alloc (.cells #[.slice Av L.length cv] 42)).setCell ⟨sb, v, none⟩ (.bool true)).alloc (.cells #[.slice (some ⟨AO, 0, none⟩) N cO] 62)) 3 (.int .i64 (v : Int))).cell; simpa using this
      have hb2 : ((((((w.alloc (.cells #[.pointer (some ⟨G, 0, none⟩)] 26)).alloc (.cells #[.slice (some ⟨sb, 0, none⟩) N cs] 75)).alloc (.cells #[.slice Av L.length cv] 42)).setCell ⟨sb, v, none⟩ (.bool true)).alloc (.cells #[.slice (some ⟨AO, 0, none⟩) N cO] 62)).alloc (.cells #[.int .i64 (v : Int)] 3)).cell? ⟨w.heap.size + 1 + 1 + 1, 0, none⟩ = some (.slice (some ⟨AO, 0, none⟩) N cO) := by have := ((Boxed.new ((((w.alloc (.cells #[.pointer (some ⟨G, 0, none⟩)] 26)).alloc (.cells #[.slice (some ⟨sb, 0, none⟩) N cs] 75)).alloc (.cells #[.slice Av L.length cv] 42)).setCell ⟨sb, v, none⟩ (.bool true)) 62 (.slice (some ⟨AO, 0, none⟩) N cO)).alloc (.cells #[.int .i64 (v : Int)] 3)).cell; simpa using this
      have hxL : Boxed ((((((w.alloc (.cells #[.pointer (some ⟨G, 0, none⟩)] 26)).alloc (.cells #[.slice (some ⟨sb, 0, none⟩) N cs] 75)).alloc (.cells #[.slice Av L.length cv] 42)).setCell ⟨sb, v, none⟩ (.bool true)).alloc (.cells #[.slice (some ⟨AO, 0, none⟩) N cO] 62)).alloc (.cells #[.int .i64 (v : Int)] 3)) (w.heap.size + 1 + 1) 42 (.slice Av L.length cv) := by
        have h0 := Boxed.new ((w.alloc (.cells #[.pointer (some ⟨G, 0, none⟩)] 26)).alloc (.cells #[.slice (some ⟨sb, 0, none⟩) N cs] 75)) 42 (.slice Av L.length cv)
        simp only [World.size_alloc] at h0
        exact ((h0.kept (grownBy_setCellAt _ ⟨sb, v, none⟩ (.bool true)) (by simp; omega)).alloc _).alloc _
      have hpL : ((((((w.alloc (.cells #[.pointer (some ⟨G, 0, none⟩)] 26)).alloc (.cells #[.slice (some ⟨sb, 0, none⟩) N cs] 75)).alloc (.cells #[.slice Av L.length cv] 42)).setCell ⟨sb, v, none⟩ (.bool true)).alloc (.cells #[.slice (some ⟨AO, 0, none⟩) N cO] 62)).alloc (.cells #[.int .i64 (v : Int)] 3)).cell? ⟨w.heap.size, 0, none⟩ = some (.pointer (some ⟨G, 0, none⟩)) := cell_keep (cell_keep hbS ((Below.refl _ _).alloc (Nat.le_refl _) _)) ((Below.refl _ _).alloc (Nat.le_refl _) _)
      have hqL : ((((((w.alloc (.cells #[.pointer (some ⟨G, 0, none⟩)] 26)).alloc (.cells #[.slice (some ⟨sb, 0, none⟩) N cs] 75)).alloc (.cells #[.slice Av L.length cv] 42)).setCell ⟨sb, v, none⟩ (.bool true)).alloc (.cells #[.slice (some ⟨AO, 0, none⟩) N cO] 62)).alloc (.cells #[.int .i64 (v : Int)] 3)).cell? ⟨w.heap.size + 1, 0, none⟩ = some (.slice (some ⟨sb, 0, none⟩) N cs) := by
        have h0 := (Boxed.new (w.alloc (.cells #[.pointer (some ⟨G, 0, none⟩)] 26)) 75 (.slice (some ⟨sb, 0, none⟩) N cs)).alloc (.cells #[.slice Av L.length cv] 42)
        simp only [World.size_alloc] at h0
        exact (((h0.kept (grownBy_setCellAt _ ⟨sb, v, none⟩ (.bool true)) (by simp; omega)).alloc _).alloc _).cell
      refine (callsIn_wide (n := 7)).1 ?_
      refine callsIn_of_wp_marks Tryd.func44 rfl trivial ?_ rfl
      simp only [Tryd.ntmps44, List.size_toArray, List.length_cons, List.length_nil, Nat.reduceAdd, Nat.reduceSub, Array.replicate_succ, Array.replicate_zero, List.push_toArray, List.append_toArray, List.nil_append, List.cons_append]
      have H2 := Lib.hid hO; clear hO
      have H3 := Lib.hid hap; clear hap
      have HT := Lib.hid (And.intro hs (And.intro hG (And.intro hRe (And.intro hRI (And.intro hB (And.intro hsA (And.intro kS (And.intro kL (And.intro hsL (And.intro hOL (And.intro hGL (And.intro hb1 (And.intro hb2 (And.intro hxL (And.intro hpL (And.intro hqL hszL))))))))))))))))
      clear hs hG hRe hRI hB hsA kS kL hsL hOL hGL hb1 hb2 hxL hpL hqL hszL
      have HRO := Lib.hid hRO; clear hRO
      have HN := Lib.hid hnew; clear hnew
      gi_wp2_with (refine ⟨trivial, ?_⟩; gi_at_call 23; refine (callsIn_wide.2 (outE_any G (some ⟨AO, 0, none⟩) N cO v _ hd1S)).mono ?_; rintro e w4 ⟨rfl, rfl⟩)
      obtain ⟨hs, hG, hRe, hRI, hB, hsA, kS, kL, hsL, hOL, hGL, hb1, hb2, hxL, hpL, hqL, hszL⟩ := HT.out
      clear HT hcA hfA hd1S hbS hsA kS hB
      generalize ((((((w.alloc (.cells #[.pointer (some ⟨G, 0, none⟩)] 26)).alloc (.cells #[.slice (some ⟨sb, 0, none⟩) N cs] 75)).alloc (.cells #[.slice Av L.length cv] 42)).setCell ⟨sb, v, none⟩ (.bool true)).alloc (.cells #[.slice (some ⟨AO, 0, none⟩) N cO] 62)).alloc (.cells #[.int .i64 (v : Int)] 3)) = wl at *
      have hRO := HRO.out
      have hRO' : RwP wl lo hi (.slice (some ⟨AO, 0, none⟩) N cO) N (fun j => outs l j) us := hRO.to (fun b h1 h2 => kL.block b (by omega) (by omega))
      obtain ⟨ab, c', B, d, hab, hab2, hcv, hrd, hBl⟩ := hRO'.at_ hv
      obtain rfl : ab = AO := by injection hab with h1; injection h1 with h1; injection h1 with h1; exact h1.symm
      have hol : (outs l (v : Int)).length ≤ 1000000 := by have := outsTo_length l v l.length; have := hF.few; unfold outs; omega
      obtain ⟨st, hst⟩ : ∃ st : List {x : Int // x ∈ outs l v} → St, ∀ p, st p = (p.map (·.1)).foldl (dstep l (dfs l f)) (upd S v, L) := ⟨_, fun _ => rfl⟩
      have hst0 : st [] = (upd S v, L) := by rw [hst]; rfl
      have hst1 : ∀ p x, st (p ++ [x]) = dstep l (dfs l f) (st p) x.1 := fun p x => by rw [hst, hst, List.map_append, List.foldl_append]; rfl
      have hstN : st (outs l v).attach = (outs l v).foldl (dstep l (dfs l f)) (upd S v, L) := by rw [hst]; congr 1; simp
      have HS := Lib.hid (And.intro hst0 (And.intro hst1 hstN))
      clear hst hst0 hst1 hstN
      have hbf : ∀ b, (Value.slice Av L.length cv).ownBlock = some b → b < w.heap.size := fun b hb => own_lt H2.out hb
      refine wpIn_rangeFunc_ownG rfl (by decide) (gf := 53) (lb := #[.pointer (some ⟨w.heap.size + 1 + 1 + 1 + 1, 0, none⟩), .pointer (some ⟨w.heap.size + 1 + 1 + 1, 0, none⟩)]) rfl trivial (enters_of Tryd.func53 (by kernel_rfl) rfl)
        (eachG_stops 6 (by omega) (fun k => k = sb ∨ (Value.slice Av L.length cv).ownBlock = some k ∨ k = w.heap.size + 1 + 1) wl.heap.size (w.heap.size + 1 + 1 + 1 + 1) (w.heap.size + 1 + 1 + 1) ab N cO d v B (outs l (v : Int)) wl hv hb1 hb2 hcv hrd
          (fun ad e h0 => by
            have := hBl ad e h0
            refine ⟨by omega, ?_⟩
            rintro (q | q | q)
            · omega
            · have := (H3.out _ q).1; omega
            · omega) hol) keptK_t (keptK_b (Nat.le_refl _)) (Below.refl _ _) (fun _ => rfl)
        (fun (pre : List {x : Int // x ∈ outs l v}) W => VI N f sb base (w.heap.size + 1 + 1) (fun k => k = sb ∨ (Value.slice Av L.length cv).ownBlock = some k ∨ k = w.heap.size + 1 + 1) wl (.slice Av L.length cv) (st pre) W)
        (fun _ _ _ => False)
        (VI_own N f sb base _ _ wl _ st)
        (fun _ _ _ _ _ hs _ _ => hs)
        ⟨_, hxL, by rw [HS.out.1]; exact hOL, by rw [HS.out.1]; exact hsL, Kept.refl _ _ _, fun b hb => .inl hb, by rw [HS.out.1]; show L.length + free N (upd S v) ≤ _; omega, by rw [HS.out.1]; show free N (upd S v) ≤ _; omega⟩
        (fun x => { tmps := #[.pointer (some ⟨G, 0, none⟩), .int .i64 (v : Int), .slice (some ⟨sb, 0, none⟩) N cs, .slice Av L.length cv, .pointer (some ⟨w.heap.size, 0, none⟩), undef, .pointer (some ⟨w.heap.size + 1, 0, none⟩), .pointer (some ⟨w.heap.size + 1 + 1, 0, none⟩), .slice none 0 0, .int .i64 x.1, undef, .slice (some ⟨sb, 0, none⟩) N cs, .int .i64 (v : Int), .pointer (some ⟨sb, v, none⟩), .bool false, undef, .slice (some ⟨sb, 0, none⟩) N cs, .int .i64 (v : Int), .pointer (some ⟨sb, v, none⟩), .pointer (some ⟨G, 0, none⟩), .int .i64 (v : Int), .func (.func 53) #[] #[.pointer (some ⟨w.heap.size + 1 + 1 + 1 + 1, 0, none⟩), .pointer (some ⟨w.heap.size + 1 + 1 + 1, 0, none⟩)], .int .i64 x.1, undef, undef, undef, undef, undef, undef, undef, undef, undef, undef, undef, undef, undef, undef, undef, undef, undef, undef, undef, undef], defers := [] }) ?assign ?body ?done ?stop
      case assign =>
        intro lp x W K hK
        gi_wp2
        exact hK
      case body =>
        rintro lp pre ⟨x, hx⟩ W ⟨vc, hbx, hOc, hsc, hKc, hbc, hlc, hfc⟩ hlt
        obtain ⟨j, rfl, hj, hjv⟩ := mem_outs.1 hx
        have hst1 := HS.out.2.1 pre ⟨(j : Int), hx⟩
        have hGW := hGL.kept hKc (by omega) (fun b h1 h2 => by
          rintro (q | q | q)
          · omega
          · have := (H3.out _ q).1; omega
          · omega)
        obtain ⟨AE2, cE2, AO2, cO2, AI2, cI2, he0, he1', he2', hRe2, _⟩ := hGW.head
        obtain ⟨ad, rfl, hc0, hc1, hc2⟩ := hRe2.at_ (k := j) hj
        have hmem := (eAt_mem hx).1
        unfold dstep at hst1
        dsimp only at hst1
        rw [show eAt l (j : Int) = l.getD j (0, 0, 0) from rfl] at hst1 hmem
        have hends := (hF.ends _ hmem).2.2
        generalize l.getD j (0, 0, 0) = e at *
        obtain ⟨x0, x1, x2⟩ := e
        dsimp only at hst1 hends hc0 hc1 hc2 hjv
        subst hjv
        have e0 : W.cell? (ad.add (j * 3)) = some (.int .i64 (v : Int)) := hc0
        have e1 : W.cell? ⟨(ad.add (j * 3)).block, (ad.add (j * 3)).off + 1, none⟩ = some (.int .i64 x1) := hc1
        have e2 : W.cell? ⟨(ad.add (j * 3)).block, (ad.add (j * 3)).off + 2, none⟩ = some (.int .i64 x2) := hc2
        clear hc0 hc1 hc2 he1' he2'
        have hKs := hKc.size
        have hp : W.cell? ⟨w.heap.size, 0, none⟩ = some (.pointer (some ⟨G, 0, none⟩)) := hKc.cell hpL (by show w.heap.size < _; omega) (by
          rintro (q | q | q)
          · simp only at q; omega
          · have := hbf _ q; simp only at this; omega
          · simp only at q; omega)
        have hq : W.cell? ⟨w.heap.size + 1, 0, none⟩ = some (.slice (some ⟨sb, 0, none⟩) N cs) := hKc.cell hqL (by show w.heap.size + 1 < _; omega) (by
          rintro (q | q | q)
          · simp only at q; omega
          · have := hbf _ q; simp only at this; omega
          · simp only at q; omega)
        have b1 : Below W.heap.size W (W.alloc (.cells #[.int .i64 (v : Int), .int .i64 x1, .int .i64 x2] 35)) := (Below.refl _ _).alloc (Nat.le_refl _) _
        have hz1 : (W.alloc (.cells #[.int .i64 (v : Int), .int .i64 x1, .int .i64 x2] 35)).heap.size = W.heap.size + 1 := by simp
        have hp1 := cell_keep hp b1
        have hq1 := cell_keep hq b1
        have hbx1 : Boxed (W.alloc (.cells #[.int .i64 (v : Int), .int .i64 x1, .int .i64 x2] 35)) (w.heap.size + 1 + 1) 42 vc := hbx.alloc _
        have hcx1 := hbx1.cell
        have hO1 : OwnI (W.alloc (.cells #[.int .i64 (v : Int), .int .i64 x1, .int .i64 x2] 35)) base vc (st pre).2 := hOc.to b1
        have hs1 : SeenAt (W.alloc (.cells #[.int .i64 (v : Int), .int .i64 x1, .int .i64 x2] 35)) sb N (st pre).1 := hsc.below b1 (by omega)
        have hG1 : GrP (W.alloc (.cells #[.int .i64 (v : Int), .int .i64 x1, .int .i64 x2] 35)) lo hi G N l := hGW.below ((Below.refl _ W).alloc (by omega) _)
        have hcl : ∀ k, (k = sb ∨ vc.ownBlock = some k ∨ k = w.heap.size + 1 + 1) → ∀ o, W.heap[k]? = some o → o.isCells = true := by
          rintro k (rfl | q | rfl) o ho
          · exact cells_of_cell (hsc v hv).1 o ho
          · obtain ⟨cur, hcur⟩ := own_type hOc q
            rw [hcur] at ho; cases ho; rfl
          · rw [hbx] at ho; cases ho; rfl
        have hin : ∀ k, k < wl.heap.size → (k = sb ∨ vc.ownBlock = some k ∨ k = w.heap.size + 1 + 1) → (k = sb ∨ (Value.slice Av L.length cv).ownBlock = some k ∨ k = w.heap.size + 1 + 1) := by
          rintro k hk (q | q | q)
          · exact .inl q
          · rcases hbc k q with r | r
            · exact .inr (.inl r)
            · omega
          · exact .inr (.inr q)
        have T := Lib.hid (And.intro hbx (And.intro hOc (And.intro hsc (And.intro hKc (And.intro hbc (And.intro hlc (And.intro hfc (And.intro hGW (And.intro hRe2 (And.intro b1 (And.intro hbx1 (And.intro hO1 (And.intro hs1 (And.intro hG1 (And.intro hcl hin)))))))))))))))
        clear hbx hOc hsc hKc hbc hlc hfc hGW hRe2 b1 hbx1 hO1 hs1 hG1 hcl hin
        have HZ := Lib.hid (And.intro hszL hKs); clear hszL hKs
        by_cases ho : x2 = inf
        · rw [if_neg (by simp [ho])] at hst1
          have hne : (x2 != 4611686018427387904) = false := by simp [ho]
          have HST := Lib.hid hst1; clear hst1
          clear ho
          gi_wp2_with fail
          obtain ⟨hszL, hKs⟩ := HZ.out
          obtain ⟨hbx, hOc, hsc, hKc, hbc, hlc, hfc, hGW, hRe2, b1, hbx1, hO1, hs1, hG1, hcl, hin⟩ := T.out
          refine ⟨(KeepsOthers.alloc _ _).from _, (Kept.refl _ _ _).alloc hKs _, ?_⟩
          show VI N f sb base _ _ wl _ (st (pre ++ [⟨(j : Int), hx⟩])) _
          rw [HST.out]
          exact ⟨vc, hbx1, hO1, hs1, hKc.alloc hKs _, hbc, hlc, hfc⟩
        · rw [if_pos ho] at hst1
          have hne : (x2 != 4611686018427387904) = true := by simp [ho]
          have HST := Lib.hid hst1; clear hst1
          obtain ⟨u, rfl⟩ : ∃ u : Nat, x1 = (u : Int) := ⟨x1.toNat, by omega⟩
          have huN : u < N := by omega
          obtain ⟨hszL, hKs⟩ := HZ.out
          have hcall := HI.out u (st pre).1 (st pre).2 (W.alloc (.cells #[.int .i64 (v : Int), .int .i64 (u : Int), .int .i64 x2] 35)) lo hi G sb cs base vc huN T.out.2.2.2.2.2.2.1 T.out.2.2.2.2.2.1 T.out.2.2.2.2.2.2.2.2.2.2.2.2.2.1 (by rw [hz1]; omega) T.out.2.2.2.2.2.2.2.2.2.2.2.2.1 (by rw [hz1]; omega) hsl T.out.2.2.2.2.2.2.2.2.2.2.2.1 (by rw [hz1]; omega) (fun b hb => by
            rcases T.out.2.2.2.2.1 b hb with r | r
            · exact H3.out b r
            · exact ⟨by omega, by omega⟩)
          obtain ⟨M, S', hdf, hout, _, _⟩ := dfs_out hF f (u : Int) (st pre).1 (st pre).2 ⟨by omega, by omega⟩ T.out.2.2.2.2.2.2.1
          have hdf' : dfs l f (u : Int) (st pre) = (S', (st pre).2 ++ M) := hdf
          have hfree2 := out_free hout
          have HD := Lib.hid (And.intro hdf' hfree2)
          clear hdf hdf' hout hfree2 ho
          have hbl1 : w.heap.size + 1 + 1 < (W.alloc (.cells #[.int .i64 (v : Int), .int .i64 (u : Int), .int .i64 x2] 35)).heap.size := by rw [hz1]; omega
          have hbne1 : ¬ XV sb vc (w.heap.size + 1 + 1) := by
            rintro (q | q)
            · omega
            · exact (T.out.1.not_row (by decide) T.out.2.1) q.symm
          clear hszL hKs
          gi_wp2_with (refine ⟨trivial, ?_⟩; gi_at_call 44; refine (CallsIn.inRound lp (callsIn_wide.2 hcall)).mono ?_; rintro e w2 ⟨v2, rfl, hO2, hs2, hK2, hb2'⟩; obtain ⟨A2, c2, rfl⟩ := hO2.slice; have hbx2 : Boxed w2 (w.heap.size + 1 + 1) 42 vc := hK2.at T.out.2.2.2.2.2.2.2.2.2.2.1 hbl1 hbne1; have hcx2 := hbx2.cell; have hfx2 := hbx2.frozen)
          obtain ⟨hbx, hOc, hsc, hKc, hbc, hlc, hfc, hGW, hRe2, b1, hbx1, hO1, hs1, hG1, hcl, hin⟩ := T.out
          obtain ⟨hdf, hfree2⟩ := HD.out
          obtain ⟨hszL, hKs⟩ := HZ.out
          have kW : Kept (fun k => k = sb ∨ vc.ownBlock = some k ∨ k = w.heap.size + 1 + 1) W.heap.size W (w2.setCell ⟨w.heap.size + 1 + 1, 0, none⟩ (.slice A2 (dfs l f (u : Int) (st pre)).2.length c2)) :=
            Kept.setCell (((Kept.of_below _ b1).trans (hK2.mono (by rw [hz1]; omega) (fun k _ q => q.elim .inl (fun q => .inr (.inl q)))))) (p := ⟨w.heap.size + 1 + 1, 0, none⟩) (fun _ => .inr (.inr rfl)) _
          have hne2 : ∀ g, (Value.slice A2 (dfs l f (u : Int) (st pre)).2.length c2).ownBlock = some g → g ≠ w.heap.size + 1 + 1 := fun g hg => by
            rintro rfl
            exact (hbx2.not_row (by decide) hO2) hg.symm
          refine ⟨kW.keepsFrom rfl hcl, kW.mono hKs hin, ?_⟩
          show VI N f sb base _ _ wl _ (st (pre ++ [⟨(j : Int), hx⟩])) _
          rw [HST.out]
          refine ⟨_, hbx2.set _, own_kept hO2 (fun g hg => Below.heap_setCell _ _ _ _ (hne2 g hg)), hs2.to (Below.heap_setCell _ _ _ _ (by simp only; omega)), hKc.trans (kW.mono hKs hin), fun b hb => ?_, ?_, ?_⟩
          · rcases hb2' b hb with r | r
            · exact hbc b r
            · exact .inr (by rw [hz1] at r; omega)
          · rw [hdf]; simp only [List.length_append]; omega
          · rw [hdf]; simp only; omega
      case done =>
        rintro D ys W hD rfl ⟨vc, hbx, hOc, hsc, hKc, hbc, hlc, hfc⟩ hK
        rw [HS.out.2.2] at hOc hsc hlc hfc
        have hcx := hbx.cell
        have hKs := hKc.size
        have hnew := HN.out
        generalize (outs l (v : Int)).foldl (dstep l (dfs l f)) (upd S v, L) = s at *
        obtain ⟨S2, L2⟩ := s
        dsimp only at hOc hsc hlc hfc hnew
        have HNW := Lib.hid hnew
        obtain ⟨Ac, cc, rfl⟩ := hOc.slice
        have T := Lib.hid (And.intro hbx (And.intro hOc (And.intro hsc (And.intro hKc (And.intro hbc (And.intro hlc hfc))))))
        clear hbx hOc hsc hKc hbc hlc hfc hnew
        have HZ := Lib.hid (And.intro hszL hKs); clear hszL hKs
        gi_wp2_with (gi_at_builtin; refine wpListIn_push _ _ base (.slice Ac L2.length cc) L2 (v : Int) rfl rfl rfl rfl T.out.2.1 (by have := T.out.2.2.2.2.2.1; omega) (by have := HZ.out; omega) ?_; intro v' w1 hO1 hg1 hn1)
        obtain ⟨hbx, hOc, hsc, hKc, hbc, hlc, hfc⟩ := T.out
        obtain ⟨hszL, hKs⟩ := HZ.out
        have hDlt : D < W.heap.size := (Array.getElem?_eq_some_iff.1 hK).1
        have hvD : ∀ g, (Value.slice Ac L2.length cc).ownBlock = some g → g ≠ D := fun g hg => by
          rintro rfl
          obtain ⟨cur, hcur⟩ := own_type hOc hg
          rw [hcur] at hK; cases hK
        have hK1 : w1.heap[D]? = some (.deferred (some [])) := (hg1.block D (by simp; omega) (fun e => hvD D e.symm rfl)).trans ((Below.heap_alloc _ _ _ hDlt).trans hK)
        refine ⟨by simp, .inl ⟨_, _, rfl, run_takeDeferred hK1, ?_⟩⟩
        refine ⟨_, results_tmp rfl _ _ _, ?_⟩
        have hsne : (Value.slice Ac L2.length cc).ownBlock ≠ some sb := fun e => by
          rcases hbc _ e with r | r
          · exact (H3.out _ r).2 rfl
          · omega
        have kW : Kept (XV sb (.slice Av L.length cv)) w.heap.size w w1 := by
          refine (((kL.mono (Nat.le_refl _) (fun k _ q => .inl q)).trans (hKc.mono (by omega) (fun k hk q => ?_))).alloc (by omega) (.cells #[.int .i64 (v : Int)] 3)).grown hg1 (by simp; omega) (fun i hi hl => ?_)
          · rcases q with q | q | q
            · exact .inl q
            · exact .inr q
            · omega
          · rcases hbc i hi with r | r
            · exact .inr r
            · omega
        rw [HNW.out]
        refine ⟨v', rfl, ownsRow_putObj hO1 _ hK1 rfl, (hsc.to ((hg1.block sb (by simp; omega) (fun e => hsne e.symm)).trans (Below.heap_alloc _ _ _ (by omega)))).to ((grownBy_putObj' w1 D _).block sb (by have := hg1.size; simp at this; omega) (fun e => by injection e; omega)), kW.putObj _ (by omega) hK1, fun b hb => ?_⟩
        rcases hn1 b hb with r | r
        · rcases hbc b r with r | r
          · exact .inl r
          · exact .inr (by omega)
        · exact .inr (by rw [r]; simp; omega)
      case stop =>
        rintro D c pre W _ _ h _
        exact h.elim
end Go.Proofs.YtabciepnbmliiaaDoor
