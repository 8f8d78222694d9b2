/- add: walk. -/
import Derived.Test.YtabciepnbmliiaaDoorK5
import Derived.Test.YtabciepnbmliiaaDoorO
set_option linter.unusedVariables false
set_option linter.unusedSimpArgs false
set_option maxRecDepth 100000
namespace Go.Proofs.YtabciepnbmliiaaDoor
open Go.RowKit Go.Lib Go.Shelf Rg

theorem GrC.head {w : World} {base G : Nat} {vE vO vI : Value} {l : List Ed3} {us is : List Value} {lo li : List (List Int)} (h : GrC w base G vE vO vI l us is lo li) :
    w.cell? ⟨G, 0, none⟩ = some vE ∧ w.cell? ⟨G, 1, none⟩ = some vO ∧ w.cell? ⟨G, 2, none⟩ = some vI ∧ w.frozen? ⟨G, 0, none⟩ = false := ⟨cell_of_row _ _ 0 _ _ _ h.hd, cell_of_row _ _ 1 _ _ _ h.hd, cell_of_row _ _ 2 _ _ _ h.hd, frozen_of_row _ _ _ _ _ h.hd⟩
theorem row_cell {w : World} {base : Nat} {T : TypeId} {g n c : Nat} {us : List Value} (h : w.ownsRow base T 1 (.slice (some ⟨g, 0, none⟩) n c) n us) {j : Nat} {u : Value} (hu : us[j]? = some u) : w.cell? ⟨g, j, none⟩ = some u ∧ w.frozen? ⟨g, j, none⟩ = false := by
  obtain ⟨cur, hc⟩ := own_type h (g := g) rfl
  refine ⟨?_, frozen_of_row _ _ _ _ _ hc⟩
  have := World.ownsRow.cells h (g := g) rfl j u hu
  rwa [show (⟨g, 0, none⟩ : Addr).add j = ⟨g, j, none⟩ by unfold Addr.add; split <;> simp_all] at this

theorem GrC.after {w w2 : World} {base G : Nat} {vE vO vI : Value} {l : List Ed3} {us is : List Value} {lo li : List (List Int)} (h : GrC w base G vE vO vI l us is lo li) (hg : w.grownBy w2 vE.ownBlock) : w2.cell? ⟨G, 0, none⟩ = some vE ∧ w2.frozen? ⟨G, 0, none⟩ = false := by
  have hh := (hg.block G (Array.getElem?_eq_some_iff.1 h.hd).1 (fun e => h.ne h.e (by decide) G e.symm rfl)).trans h.hd
  exact ⟨cell_of_row _ _ 0 _ _ _ hh, frozen_of_row _ _ _ _ _ hh⟩
theorem grown_far {w w2 : World} {base : Nat} {u : Value} {p : List Int} {g : Nat} {cs : Array Value} {T : TypeId} (hO : OwnI w base u p) (hg : w.grownBy w2 u.ownBlock) (h : w.heap[g]? = some (.cells cs T (0, 0))) (hT : T ≠ 3) : w2.heap[g]? = some (.cells cs T (0, 0)) :=
  (hg.block g (Array.getElem?_eq_some_iff.1 h).1 (fun e => by
    obtain ⟨cur, hcur⟩ := own_type hO e.symm
    rw [h] at hcur
    injection hcur with h0; injection h0 with _ h0; exact hT h0)).trans h
set_option maxHeartbeats 1000000 in
theorem add_edge (w : World) (base G : Nat) (vE vI : Value) (gO cO gI cI : Nat) (l : List Ed3) (us is : List Value) (lo li : List (List Int)) (f t : Nat) (x : Int) (u i : Value) (p q : List Int)
    (h : GrC w base G vE (.slice (some ⟨gO, 0, none⟩) lo.length cO) (.slice (some ⟨gI, 0, none⟩) li.length cI) l us is lo li) (hf : us[f]? = some u) (hp : lo[f]? = some p) (ht : is[t]? = some i) (hq : li[t]? = some q)
    (hl : l.length ≤ 100000) (hpl : p.length ≤ 100000) (hql : q.length ≤ 100000) (hlo : lo.length ≤ 100000) (hli : li.length ≤ 100000) (hbase : base ≤ w.heap.size) :
    Calls Tryd.prog 39 #[.pointer (some ⟨G, 0, none⟩), .agg #[.int .i64 (f : Int), .int .i64 (t : Int), .int .i64 x]] w fun e w' => e = .returned (.tuple #[]) ∧ Below base w w' ∧
      ∃ vE' u' i', GrC w' base G vE' (.slice (some ⟨gO, 0, none⟩) lo.length cO) (.slice (some ⟨gI, 0, none⟩) li.length cI) (l ++ [((f : Int), (t : Int), x)]) (us.set f u') (is.set t i') (lo.set f (p ++ [(l.length : Int)])) (li.set t (q ++ [(l.length : Int)])) := by
  obtain ⟨AE, cE, rfl⟩ := h.e.slice
  have hlt : f < lo.length := (List.getElem?_eq_some_iff.1 hp).1
  have htl : t < li.length := (List.getElem?_eq_some_iff.1 hq).1
  have b1 : Below w.heap.size w (w.alloc (.cells #[.int .i64 (f : Int), .int .i64 (t : Int), .int .i64 x] 35)) := (Below.refl _ _).alloc (Nat.le_refl _) _
  have hgc := h.below b1
  have hbx : (w.alloc (.cells #[.int .i64 (f : Int), .int .i64 (t : Int), .int .i64 x] 35)).heap[w.heap.size]? = some (.cells #[.int .i64 (f : Int), .int .i64 (t : Int), .int .i64 x] 35 (0, 0)) := heap_alloc_new w _
  have hB1 := b1.mono hbase
  have hs1 : base ≤ (w.alloc (.cells #[.int .i64 (f : Int), .int .i64 (t : Int), .int .i64 x] 35)).heap.size := by simp; omega
  have c0 := hgc.head.1
  have hbb := hbase
  have hbE : ∀ g, (Value.slice AE l.length cE).ownBlock = some g → g ≠ w.heap.size := fun g hg => by have := own_lt h.e hg; omega
  go_enter Tryd.func39, Tryd.ntmps39
  have T := Lib.hid (And.intro hgc (And.intro hbx (And.intro hB1 hs1)))
  clear h b1 hgc hbx hB1 hs1
  go_wp2_with fail
  obtain ⟨hgc, hbx, hB1, hs1⟩ := T.out
  clear T c0
  generalize (w.alloc (.cells #[.int .i64 (f : Int), .int .i64 (t : Int), .int .i64 x] 35)) = W1 at *
  generalize w.heap.size = b at *
  have hgd : GrC W1.drew base G (.slice AE l.length cE) (.slice (some ⟨gO, 0, none⟩) lo.length cO) (.slice (some ⟨gI, 0, none⟩) li.length cI) l us is lo li := hgc.below (Below.refl _ _).drew
  have c0 : W1.cell? ⟨G, 0, none⟩ = some (.slice AE l.length cE) := hgd.head.1
  have f0 : W1.cell? ⟨b, 0, none⟩ = some (.int .i64 (f : Int)) := cell_of_row _ _ 0 _ _ _ hbx
  have f1 : W1.cell? ⟨b, 1, none⟩ = some (.int .i64 (t : Int)) := cell_of_row _ _ 1 _ _ _ hbx
  have f2 : W1.cell? ⟨b, 2, none⟩ = some (.int .i64 x) := cell_of_row _ _ 2 _ _ _ hbx
  have hga := hgd.below (w2 := W1.drew.alloc (.cells #[.int .i64 (f : Int), .int .i64 (t : Int), .int .i64 x] 35)) ((Below.refl _ _).alloc (Nat.le_refl _) _)
  have c0a : (W1.alloc (.cells #[.int .i64 (f : Int), .int .i64 (t : Int), .int .i64 x] 35)).cell? ⟨G, 0, none⟩ = some (.slice AE l.length cE) := hga.head.1
  have hsA : base ≤ (W1.drew.alloc (.cells #[.int .i64 (f : Int), .int .i64 (t : Int), .int .i64 x] 35)).heap.size := by simp; omega
  have hbxA : (W1.drew.alloc (.cells #[.int .i64 (f : Int), .int .i64 (t : Int), .int .i64 x] 35)).heap[b]? = some (.cells #[.int .i64 (f : Int), .int .i64 (t : Int), .int .i64 x] 35 (0, 0)) := (Below.heap_alloc _ _ _ (Array.getElem?_eq_some_iff.1 hbx).1).trans hbx
  have hl63 : l.length ≤ 10000000 := by omega
  have HA := Lib.hid (And.intro hga (And.intro hsA (And.intro hbxA hl63))); have HT := Lib.hid (And.intro hgc (And.intro hbx (And.intro hB1 hs1)))
  clear hga hsA hbxA hgd hgc hbx hB1 hs1
  obtain ⟨Qx, hQx⟩ : ∃ Qx : Act → World → Prop, ∀ a' w', Qx a' w' ↔ ((∃ s5 s6 s7 s8 s9 s10 s11 s12 s13 s14 s15 s16 s17 s18 s19, a' = { tmps := #[.pointer (some ⟨G, 0, none⟩), .agg #[.int .i64 (f : Int), .int .i64 (t : Int), .int .i64 x], undef, .pointer (some ⟨b, 0, none⟩), .int .i64 (l.length : Int), s5, s6, s7, s8, s9, s10, s11, s12, s13, s14, s15, s16, s17, s18, s19, undef, undef, undef, undef, undef, undef, undef, undef, undef, undef, undef, undef, undef, undef, undef, undef, undef, undef, undef, undef, undef, undef, undef, undef, undef, undef, undef, undef, undef, undef, undef, undef, undef, undef, undef, undef], defers := [] }) ∧ ∃ vE', GrC w' base G vE' (.slice (some ⟨gO, 0, none⟩) lo.length cO) (.slice (some ⟨gI, 0, none⟩) li.length cI) (l ++ [((f : Int), (t : Int), x)]) us is lo li ∧ Below base W1 w' ∧ w'.heap[b]? = some (.cells #[.int .i64 (f : Int), .int .i64 (t : Int), .int .i64 x] 35 (0, 0))) := ⟨_, fun _ _ => Iff.rfl⟩
  have HQ := Lib.hid hQx; clear hQx
  refine Code.wp_mono (Q := Exit.then Qx (fun _ _ _ => False)) ?_ ?_
  rotate_left
  · go_region_law (refine step_append1 rfl _ _ 22 35 rfl 3 24 _ Tryd.underlying22 info_edge rfl (by decide) (by decide) base (.slice AE l.length cE) l.length (ecs l) rfl HA.out.1.e W1.drew.heap.size rfl [.int .i64 (f : Int), .int .i64 (t : Int), .int .i64 x] rfl (row_new W1.drew 35 [.int .i64 (f : Int), .int .i64 (t : Int), .int .i64 x]) (one3 (f : Int) (t : Int) x) HA.out.2.2.2 HA.out.2.1 ?_; intro v2 w2 hO2 hg2 hn2; obtain ⟨A2, c2, rfl⟩ := own_form hO2; have hd2 := HA.out.1.after hg2; have k0 := hd2.1; have k1 := hd2.2)
    all_goals (
      refine (HQ.out _ _).2 ⟨⟨_, _, _, _, _, _, _, _, _, _, _, _, _, _, _, rfl⟩, _, HA.out.1.edge (OwnE.push (x := ((f : Int), (t : Int), x)) hO2) hg2 hn2, ?_, ?_⟩
      · exact ((((Below.refl base W1).drew.alloc HT.out.2.2.2 _).grown hg2 HA.out.2.1 (fun k hk => own_ge HA.out.1.e hk))).setCell (p := ⟨G, 0, none⟩) HA.out.1.ge _
      · refine (Below.heap_setCell _ _ _ _ (fun e => ?_)).trans ((hg2.block b (Array.getElem?_eq_some_iff.1 HA.out.2.2.1).1 (fun e => hbE b e.symm rfl)).trans HA.out.2.2.1)
        have h0 := HA.out.1.hd
        rw [← show b = G from e, HA.out.2.2.1] at h0
        injection h0 with h0; injection h0 with _ h0; exact absurd h0 (by decide))
  · intro ex a' W2 hq2
    have hex : ex = .normal := by cases ex <;> first | rfl | exact (hq2 : False).elim
    subst hex
    obtain ⟨⟨s5, s6, s7, s8, s9, s10, s11, s12, s13, s14, s15, s16, s17, s18, s19, rfl⟩, vE', hgc2, hB2, hbx2⟩ := (HQ.out _ _).1 hq2
    dsimp only
    have hu' : (us ++ is)[f]? = some u := by rw [List.getElem?_append_left (List.getElem?_eq_some_iff.1 hf).1]; exact hf
    have hp' : (lo ++ li)[f]? = some p := by rw [List.getElem?_append_left hlt]; exact hp
    have hOu := hgc2.r.el _ _ _ hu' hp'
    obtain ⟨Au, cu, rfl⟩ := hOu.slice
    have a1 : Below W2.heap.size W2 (W2.alloc (.cells #[.int .i64 (l.length : Int)] 3)) := (Below.refl _ _).alloc (Nat.le_refl _) _
    have hgA := hgc2.below a1
    have d1 : W2.cell? ⟨G, 1, none⟩ = some (.slice (some ⟨gO, 0, none⟩) lo.length cO) := hgc2.head.2.1
    have d1a : (W2.alloc (.cells #[.int .i64 (l.length : Int)] 3)).cell? ⟨G, 1, none⟩ = some (.slice (some ⟨gO, 0, none⟩) lo.length cO) := hgA.head.2.1
    have g0 : W2.cell? ⟨b, 0, none⟩ = some (.int .i64 (f : Int)) := cell_of_row _ _ 0 _ _ _ hbx2
    have g0a : (W2.alloc (.cells #[.int .i64 (l.length : Int)] 3)).cell? ⟨b, 0, none⟩ = some (.int .i64 (f : Int)) := cell_keep g0 a1
    have r0 : W2.cell? ⟨gO, f, none⟩ = some (.slice Au p.length cu) := (row_cell hgc2.o hf).1
    have r0a : (W2.alloc (.cells #[.int .i64 (l.length : Int)] 3)).cell? ⟨gO, f, none⟩ = some (.slice Au p.length cu) := cell_keep r0 a1
    have hs2 : base ≤ (W2.drew.alloc (.cells #[.int .i64 (l.length : Int)] 3)).heap.size := by have := hB2.size; have := HT.out.2.2.2; simp; omega
    have hgD : GrC (W2.drew.alloc (.cells #[.int .i64 (l.length : Int)] 3)) base G vE' (.slice (some ⟨gO, 0, none⟩) lo.length cO) (.slice (some ⟨gI, 0, none⟩) li.length cI) (l ++ [((f : Int), (t : Int), x)]) us is lo li := hgA.below (Below.refl _ _).drew
    have hbD : (W2.drew.alloc (.cells #[.int .i64 (l.length : Int)] 3)).heap[b]? = some (.cells #[.int .i64 (f : Int), .int .i64 (t : Int), .int .i64 x] 35 (0, 0)) := (Below.heap_alloc _ _ _ (Array.getElem?_eq_some_iff.1 hbx2).1).trans hbx2
    have hp63 : p.length ≤ 10000000 := by omega
    have hfL : (f : Int) < (lo.length : Int) := by omega
    have HD := Lib.hid (And.intro hgD (And.intro hs2 (And.intro hbD (And.intro hp63 (And.intro (hgD.r.el _ _ _ hu' hp') (And.intro hB2 (And.intro hu' hp')))))))
    clear hgD hs2 hbD hp63 hgA a1 hgc2 hB2 hbx2 hOu hu' hp' hq2 HQ
    obtain ⟨Qy, hQy⟩ : ∃ Qy : Act → World → Prop, ∀ a' w', Qy a' w' ↔ ((∃ s5 s6 s7 s8 s9 s10 s11 s12 s13 s14 s15 s16 s17 s18 s19 s20 s21 s22 s23 s24 s25 s26 s27 s28 s29 s30 s31 s32 s33 s34 s35 s36 s37, a' = { tmps := #[.pointer (some ⟨G, 0, none⟩), .agg #[.int .i64 (f : Int), .int .i64 (t : Int), .int .i64 x], undef, .pointer (some ⟨b, 0, none⟩), .int .i64 (l.length : Int), s5, s6, s7, s8, s9, s10, s11, s12, s13, s14, s15, s16, s17, s18, s19, s20, s21, s22, s23, s24, s25, s26, s27, s28, s29, s30, s31, s32, s33, s34, s35, s36, s37, undef, undef, undef, undef, undef, undef, undef, undef, undef, undef, undef, undef, undef, undef, undef, undef, undef, undef], defers := [] }) ∧ ∃ u', GrC w' base G vE' (.slice (some ⟨gO, 0, none⟩) lo.length cO) (.slice (some ⟨gI, 0, none⟩) li.length cI) (l ++ [((f : Int), (t : Int), x)]) (us.set f u') is (lo.set f (p ++ [(l.length : Int)])) li ∧ Below base W1 w' ∧ w'.heap[b]? = some (.cells #[.int .i64 (f : Int), .int .i64 (t : Int), .int .i64 x] 35 (0, 0))) := ⟨_, fun _ _ => Iff.rfl⟩
    have HQ := Lib.hid hQy; clear hQy
    go_wp2_with fail
    refine Code.wp_mono (Q := Exit.then Qy (fun _ _ _ => False)) ?_ ?_
    rotate_left
    · refine wp_region_T 18 (fun w' => w'.cell? ⟨G, 1, none⟩ = some (.slice (some ⟨gO, 0, none⟩) lo.length cO) ∧ w'.cell? ⟨b, 0, none⟩ = some (.int .i64 (f : Int)) ∧ w'.cell? ⟨gO, f, none⟩ = some (.slice Au p.length cu)) (by kernel_rfl) ⟨d1, g0, r0⟩ (fun hHeld => ?_)
      refine wpAnyT_take (i := 0) (v := ?_) rfl (by kernel_rfl) (by kernel_rfl) (by kernel_rfl) (by kernel_rfl) (by kernel_rfl) (fun _ _ _ h => h) (Or.inl ⟨by rfl, ?_⟩) (by assumption) ?_
      rotate_left
      · (intro w hSw; (try dsimp only at hSw); go_simp; try (with_reducible rfl))
      try simp only [Act.put, List.setIfInBounds_toArray, List.set_cons_zero, List.set_cons_succ]
      refine wpAnyT_take (i := 1) (v := ?_) rfl (by kernel_rfl) (by kernel_rfl) (by kernel_rfl) (by kernel_rfl) (by kernel_rfl) (fun _ _ _ h => h) (Or.inl ⟨by rfl, ?_⟩) (by assumption) ?_
      rotate_left
      · (intro w hSw; (try dsimp only at hSw); go_simp; try (with_reducible rfl))
      try simp only [Act.put, List.setIfInBounds_toArray, List.set_cons_zero, List.set_cons_succ]
      refine wpAnyT_take (i := 2) (v := ?_) rfl (by kernel_rfl) (by kernel_rfl) (by kernel_rfl) (by kernel_rfl) (by kernel_rfl) (fun _ _ _ h => h) (Or.inl ⟨by rfl, ?_⟩) (by assumption) ?_
      rotate_left
      · (intro w hSw; (try dsimp only at hSw); go_simp; try (with_reducible rfl))
      try simp only [Act.put, List.setIfInBounds_toArray, List.set_cons_zero, List.set_cons_succ]
      refine wpAnyT_take (i := 3) (v := ?_) rfl (by kernel_rfl) (by kernel_rfl) (by kernel_rfl) (by kernel_rfl) (by kernel_rfl) (fun _ _ _ h => h) (Or.inl ⟨by rfl, ?_⟩) (by assumption) ?_
      rotate_left
      · (intro w hSw; (try dsimp only at hSw); go_simp; try (with_reducible rfl))
      try simp only [Act.put, List.setIfInBounds_toArray, List.set_cons_zero, List.set_cons_succ]
      refine wpAnyT_take (i := 4) (v := ?_) rfl (by kernel_rfl) (by kernel_rfl) (by kernel_rfl) (by kernel_rfl) (by kernel_rfl) (fun _ _ _ h => h) (Or.inl ⟨by rfl, ?_⟩) (by assumption) ?_
      rotate_left
      · (intro w hSw; (try dsimp only at hSw); go_simp; try (with_reducible rfl))
      try simp only [Act.put, List.setIfInBounds_toArray, List.set_cons_zero, List.set_cons_succ]
      refine wpAnyT_take (i := 5) (v := ?_) rfl (by kernel_rfl) (by kernel_rfl) (by kernel_rfl) (by kernel_rfl) (by kernel_rfl) (fun _ _ _ h => h) (Or.inl ⟨by rfl, ?_⟩) (by assumption) ?_
      rotate_left
      · (intro w hSw; (try dsimp only at hSw); go_simp; try (with_reducible rfl))
      try simp only [Act.put, List.setIfInBounds_toArray, List.set_cons_zero, List.set_cons_succ]
      refine wpAnyT_take (i := 6) (v := ?_) rfl (by kernel_rfl) (by kernel_rfl) (by kernel_rfl) (by kernel_rfl) (by kernel_rfl) (fun _ _ _ h => h) (Or.inl ⟨by rfl, ?_⟩) (by assumption) ?_
      rotate_left
      · (intro w hSw; (try dsimp only at hSw); go_simp; try (with_reducible rfl))
      try simp only [Act.put, List.setIfInBounds_toArray, List.set_cons_zero, List.set_cons_succ]
      refine wpAnyT_take (i := 7) (v := ?_) rfl (by kernel_rfl) (by kernel_rfl) (by kernel_rfl) (by kernel_rfl) (by kernel_rfl) (fun _ _ _ h => h) (Or.inl ⟨by rfl, ?_⟩) (by assumption) ?_
      rotate_left
      · (intro w hSw; (try dsimp only at hSw); go_simp; try (with_reducible rfl))
      try simp only [Act.put, List.setIfInBounds_toArray, List.set_cons_zero, List.set_cons_succ]
      refine wpAnyT_take (i := 8) (v := ?_) rfl (by kernel_rfl) (by kernel_rfl) (by kernel_rfl) (by kernel_rfl) (by kernel_rfl) (fun _ _ _ h => h) (Or.inl ⟨by rfl, ?_⟩) (by assumption) ?_
      rotate_left
      · (intro w hSw; (try dsimp only at hSw); go_simp; try (with_reducible rfl))
      try simp only [Act.put, List.setIfInBounds_toArray, List.set_cons_zero, List.set_cons_succ]
      refine wpAnyT_take (i := 9) (v := ?_) rfl (by kernel_rfl) (by kernel_rfl) (by kernel_rfl) (by kernel_rfl) (by kernel_rfl) (fun _ _ _ h => h) (Or.inl ⟨by rfl, ?_⟩) (by assumption) ?_
      rotate_left
      · (intro w hSw; (try dsimp only at hSw); go_simp; try (with_reducible rfl))
      try simp only [Act.put, List.setIfInBounds_toArray, List.set_cons_zero, List.set_cons_succ]
      refine wpAnyT_take (i := 10) (v := ?_) rfl (by kernel_rfl) (by kernel_rfl) (by kernel_rfl) (by kernel_rfl) (by kernel_rfl) (fun _ _ _ h => h) (Or.inl ⟨by rfl, ?_⟩) (by assumption) ?_
      rotate_left
      · (intro w hSw; (try dsimp only at hSw); go_simp; try (with_reducible rfl))
      try simp only [Act.put, List.setIfInBounds_toArray, List.set_cons_zero, List.set_cons_succ]
      refine wpAnyT_take (i := 11) (v := ?_) rfl (by kernel_rfl) (by kernel_rfl) (by kernel_rfl) (by kernel_rfl) (by kernel_rfl) (fun _ _ _ h => h) (Or.inl ⟨by rfl, ?_⟩) (by assumption) ?_
      rotate_left
      · (intro w hSw; (try dsimp only at hSw); go_simp; try (with_reducible rfl))
      try simp only [Act.put, List.setIfInBounds_toArray, List.set_cons_zero, List.set_cons_succ]
      refine wpAnyT_take (i := 12) (v := ?_) rfl (by kernel_rfl) (by kernel_rfl) (by kernel_rfl) (by kernel_rfl) (by kernel_rfl) (fun _ _ _ h => h) (Or.inl ⟨by rfl, ?_⟩) (by assumption) ?_
      rotate_left
      · (intro w hSw; (try dsimp only at hSw); go_simp; try (with_reducible rfl))
      try simp only [Act.put, List.setIfInBounds_toArray, List.set_cons_zero, List.set_cons_succ]
      refine wpAnyT_take (i := 13) (v := ?_) rfl (by kernel_rfl) (by kernel_rfl) (by kernel_rfl) (by kernel_rfl) (by kernel_rfl) (fun _ _ _ h => h) (Or.inl ⟨by rfl, ?_⟩) (by assumption) ?_
      rotate_left
      · (intro w hSw; (try dsimp only at hSw); go_simp; try (with_reducible rfl))
      try simp only [Act.put, List.setIfInBounds_toArray, List.set_cons_zero, List.set_cons_succ]
      refine wpAnyT_take (i := 14) (v := ?_) rfl (by kernel_rfl) (by kernel_rfl) (by kernel_rfl) (by kernel_rfl) (by kernel_rfl) (fun _ _ _ h => h) (Or.inl ⟨by rfl, ?_⟩) (by assumption) ?_
      rotate_left
      · (intro w hSw; (try dsimp only at hSw); go_simp; try (with_reducible rfl))
      try simp only [Act.put, List.setIfInBounds_toArray, List.set_cons_zero, List.set_cons_succ]
      refine wpAnyT_one (i := 15) (by kernel_rfl) rfl (fun K hK => ?_)
      go_simp
      have hHeld2 : (fun w' : World => w'.cell? ⟨G, 1, none⟩ = some (.slice (some ⟨gO, 0, none⟩) lo.length cO) ∧ w'.cell? ⟨b, 0, none⟩ = some (.int .i64 (f : Int)) ∧ w'.cell? ⟨gO, f, none⟩ = some (.slice Au p.length cu)) (W2.drew.alloc (.cells #[.int .i64 (l.length : Int)] 3)) := ⟨d1a, g0a, r0a⟩
      refine hK.out _ _ (fun _ => hHeld2) ?_
      clear hK K
      try simp only [Act.put, List.setIfInBounds_toArray, List.set_cons_zero, List.set_cons_succ]
      refine wpAnyT_one (i := 16) (by kernel_rfl) rfl (fun K hK => ?_)
      refine step_append1 (by rfl) _ _ 42 3 (by rfl) 1 8 _ Tryd.underlying42 info_int rfl (by decide) (by decide) base (.slice Au p.length cu) p.length (p.map (Value.int .i64)) (by rfl) HD.out.2.2.2.2.1 W2.drew.heap.size (by rfl) [.int .i64 (l.length : Int)] rfl (row_new W2.drew 3 [.int .i64 (l.length : Int)]) (one_i _) HD.out.2.2.2.1 HD.out.2.1 ?_
      intro v2 w2 hO2 hg2 hn2
      obtain ⟨A2, c2, rfl⟩ := own_form hO2
      have hd2 := row_cell (apart_grown HD.out.1.o (apart_type HD.out.1.o HD.out.2.2.2.2.1 (by decide)) hg2 hn2).1 hf
      have k0 := hd2.1
      have k1 := hd2.2
      have k2 : w2.cell? ⟨G, 1, none⟩ = some (.slice (some ⟨gO, 0, none⟩) lo.length cO) := cell_of_row _ _ 1 _ _ _ (grown_far HD.out.2.2.2.2.1 hg2 HD.out.1.hd (by decide))
      have k3 : w2.cell? ⟨b, 0, none⟩ = some (.int .i64 (f : Int)) := cell_of_row _ _ 0 _ _ _ (grown_far HD.out.2.2.2.2.1 hg2 HD.out.2.2.1 (by decide))
      have hHeld3 : (fun w' : World => w'.cell? ⟨G, 1, none⟩ = some (.slice (some ⟨gO, 0, none⟩) lo.length cO) ∧ w'.cell? ⟨b, 0, none⟩ = some (.int .i64 (f : Int)) ∧ w'.cell? ⟨gO, f, none⟩ = some (.slice Au p.length cu)) w2 := ⟨k2, k3, k0⟩
      refine hK.out _ _ (fun _ => hHeld3) ?_
      clear hK K
      try simp only [Act.put, List.setIfInBounds_toArray, List.set_cons_zero, List.set_cons_succ]
      refine wpAnyT_take (i := 17) (v := ?_) rfl (by kernel_rfl) (by kernel_rfl) (by kernel_rfl) (by kernel_rfl) (by kernel_rfl) (fun _ _ _ h => h) (Or.inl ⟨by rfl, ?_⟩) (by assumption) ?_
      rotate_left
      · (intro w hSw; (try dsimp only at hSw); go_simp; try (with_reducible rfl))
      try simp only [Act.put, List.setIfInBounds_toArray, List.set_cons_zero, List.set_cons_succ]
      refine wpAnyT_one (i := 18) (by kernel_rfl) rfl (fun K hK => ?_)
      go_simp
      refine hK.out _ _ (fun h => absurd rfl h) ?_
      clear hK K
      refine wpAnyT_done (by kernel_rfl) ?_ _
      try simp only [Act.put, List.setIfInBounds_toArray, List.set_cons_zero, List.set_cons_succ]
      have hO3 : OwnI w2 base (.slice A2 (p.length + 1) c2) (p ++ [(l.length : Int)]) := by unfold OwnI; rw [List.length_append, List.map_append]; exact hO2
      refine (HQ.out _ _).2 ⟨⟨_, _, _, _, _, _, _, _, _, _, _, _, _, _, _, _, _, _, _, _, _, _, _, _, _, _, _, _, _, _, _, _, _, rfl⟩, _, HD.out.1.out hf hp hO3 hg2 hn2, ?_, ?_⟩
      · have hb0 := HT.out.2.2.2
        have hbs := HD.out.2.2.2.2.2.1.size
        obtain ⟨cur, hcur⟩ := own_type HD.out.1.o (g := gO) rfl
        exact ((HD.out.2.2.2.2.2.1.drew.alloc (by simp; omega) _).grown hg2 HD.out.2.1 (fun k hk => own_ge HD.out.2.2.2.2.1 hk)).setCell (p := ⟨gO, f, none⟩) (own_ge HD.out.1.o (g := gO) rfl) _
      · refine (Below.heap_setCell _ _ _ _ (fun e => ?_)).trans ((hg2.block b (Array.getElem?_eq_some_iff.1 HD.out.2.2.1).1 (fun e => ?_)).trans HD.out.2.2.1)
        · obtain ⟨cur, hcur⟩ := own_type HD.out.1.o (g := gO) rfl
          rw [← show b = gO from e, HD.out.2.2.1] at hcur
          injection hcur with h0; injection h0 with _ h0; exact absurd h0 (by decide)
        · obtain ⟨cur, hcur⟩ := own_type HD.out.2.2.2.2.1 e.symm
          rw [HD.out.2.2.1] at hcur
          injection hcur with h0; injection h0 with _ h0; exact absurd h0 (by decide)
    · intro ex a' W3 hq3
      have hex : ex = .normal := by cases ex <;> first | rfl | exact (hq3 : False).elim
      subst hex
      obtain ⟨⟨s5, s6, s7, s8, s9, s10, s11, s12, s13, s14, s15, s16, s17, s18, s19, s20, s21, s22, s23, s24, s25, s26, s27, s28, s29, s30, s31, s32, s33, s34, s35, s36, s37, rfl⟩, u', hgc3, hB3, hbx3⟩ := (HQ.out _ _).1 hq3
      try dsimp only
      have hu' : (us.set f u' ++ is)[(us.set f u').length + t]? = some i := by rw [List.getElem?_append_right (by omega)]; simpa using ht
      have hp' : (lo.set f (p ++ [(l.length : Int)]) ++ li)[(us.set f u').length + t]? = some q := by rw [hgc3.lu, List.getElem?_append_right (by omega)]; simpa using hq
      have hOu := hgc3.r.el _ _ _ hu' hp'
      obtain ⟨Ai, ci, rfl⟩ := hOu.slice
      have a1 : Below W3.heap.size W3 (W3.alloc (.cells #[.int .i64 (l.length : Int)] 3)) := (Below.refl _ _).alloc (Nat.le_refl _) _
      have hgA := hgc3.below a1
      have d1 : W3.cell? ⟨G, 2, none⟩ = some (.slice (some ⟨gI, 0, none⟩) li.length cI) := hgc3.head.2.2.1
      have d1a : (W3.alloc (.cells #[.int .i64 (l.length : Int)] 3)).cell? ⟨G, 2, none⟩ = some (.slice (some ⟨gI, 0, none⟩) li.length cI) := hgA.head.2.2.1
      have g0 : W3.cell? ⟨b, 1, none⟩ = some (.int .i64 (t : Int)) := cell_of_row _ _ 1 _ _ _ hbx3
      have g0a : (W3.alloc (.cells #[.int .i64 (l.length : Int)] 3)).cell? ⟨b, 1, none⟩ = some (.int .i64 (t : Int)) := cell_keep g0 a1
      have r0 : W3.cell? ⟨gI, t, none⟩ = some (.slice Ai q.length ci) := (row_cell hgc3.i ht).1
      have r0a : (W3.alloc (.cells #[.int .i64 (l.length : Int)] 3)).cell? ⟨gI, t, none⟩ = some (.slice Ai q.length ci) := cell_keep r0 a1
      have hs2 : base ≤ (W3.drew.alloc (.cells #[.int .i64 (l.length : Int)] 3)).heap.size := by have := hB3.size; have := HT.out.2.2.2; simp; omega
      have hgD : GrC (W3.drew.alloc (.cells #[.int .i64 (l.length : Int)] 3)) base G vE' (.slice (some ⟨gO, 0, none⟩) lo.length cO) (.slice (some ⟨gI, 0, none⟩) li.length cI) (l ++ [((f : Int), (t : Int), x)]) (us.set f u') is (lo.set f (p ++ [(l.length : Int)])) li := hgA.below (Below.refl _ _).drew
      have hbD : (W3.drew.alloc (.cells #[.int .i64 (l.length : Int)] 3)).heap[b]? = some (.cells #[.int .i64 (f : Int), .int .i64 (t : Int), .int .i64 x] 35 (0, 0)) := (Below.heap_alloc _ _ _ (Array.getElem?_eq_some_iff.1 hbx3).1).trans hbx3
      have hp63 : q.length ≤ 10000000 := by omega
      have htL : (t : Int) < (li.length : Int) := by omega
      have HD := Lib.hid (And.intro hgD (And.intro hs2 (And.intro hbD (And.intro hp63 (And.intro (hgD.r.el _ _ _ hu' hp') (And.intro hB3 (And.intro hu' hp')))))))
      clear hgD hs2 hbD hp63 hgA a1 hgc3 hB3 hbx3 hOu hu' hp' hq3 HQ
      obtain ⟨Qz, hQz⟩ : ∃ Qz : Act → World → Prop, ∀ a' w', Qz a' w' ↔ ((∃ T : Array Value, a' = { tmps := T, defers := [] }) ∧ ∃ i', GrC w' base G vE' (.slice (some ⟨gO, 0, none⟩) lo.length cO) (.slice (some ⟨gI, 0, none⟩) li.length cI) (l ++ [((f : Int), (t : Int), x)]) (us.set f u') (is.set t i') (lo.set f (p ++ [(l.length : Int)])) (li.set t (q ++ [(l.length : Int)])) ∧ Below base W1 w') := ⟨_, fun _ _ => Iff.rfl⟩
      have HQ := Lib.hid hQz; clear hQz
      go_wp2_with fail
      refine Code.wp_mono (Q := Exit.then Qz (fun _ _ _ => False)) ?_ ?_
      rotate_left
      · refine wp_region_T 18 (fun w' => w'.cell? ⟨G, 2, none⟩ = some (.slice (some ⟨gI, 0, none⟩) li.length cI) ∧ w'.cell? ⟨b, 1, none⟩ = some (.int .i64 (t : Int)) ∧ w'.cell? ⟨gI, t, none⟩ = some (.slice Ai q.length ci)) (by kernel_rfl) ⟨d1, g0, r0⟩ (fun hHeld => ?_)
        refine wpAnyT_take (i := 0) (v := ?_) rfl (by kernel_rfl) (by kernel_rfl) (by kernel_rfl) (by kernel_rfl) (by kernel_rfl) (fun _ _ _ h => h) (Or.inl ⟨by rfl, ?_⟩) (by assumption) ?_
        rotate_left
        · (intro w hSw; (try dsimp only at hSw); go_simp; try (with_reducible rfl))
        try simp only [Act.put, List.setIfInBounds_toArray, List.set_cons_zero, List.set_cons_succ]
        refine wpAnyT_take (i := 1) (v := ?_) rfl (by kernel_rfl) (by kernel_rfl) (by kernel_rfl) (by kernel_rfl) (by kernel_rfl) (fun _ _ _ h => h) (Or.inl ⟨by rfl, ?_⟩) (by assumption) ?_
        rotate_left
        · (intro w hSw; (try dsimp only at hSw); go_simp; try (with_reducible rfl))
        try simp only [Act.put, List.setIfInBounds_toArray, List.set_cons_zero, List.set_cons_succ]
        refine wpAnyT_take (i := 2) (v := ?_) rfl (by kernel_rfl) (by kernel_rfl) (by kernel_rfl) (by kernel_rfl) (by kernel_rfl) (fun _ _ _ h => h) (Or.inl ⟨by rfl, ?_⟩) (by assumption) ?_
        rotate_left
        · (intro w hSw; (try dsimp only at hSw); go_simp; try (with_reducible rfl))
        try simp only [Act.put, List.setIfInBounds_toArray, List.set_cons_zero, List.set_cons_succ]
        refine wpAnyT_take (i := 3) (v := ?_) rfl (by kernel_rfl) (by kernel_rfl) (by kernel_rfl) (by kernel_rfl) (by kernel_rfl) (fun _ _ _ h => h) (Or.inl ⟨by rfl, ?_⟩) (by assumption) ?_
        rotate_left
        · (intro w hSw; (try dsimp only at hSw); go_simp; try (with_reducible rfl))
        try simp only [Act.put, List.setIfInBounds_toArray, List.set_cons_zero, List.set_cons_succ]
        refine wpAnyT_take (i := 4) (v := ?_) rfl (by kernel_rfl) (by kernel_rfl) (by kernel_rfl) (by kernel_rfl) (by kernel_rfl) (fun _ _ _ h => h) (Or.inl ⟨by rfl, ?_⟩) (by assumption) ?_
        rotate_left
        · (intro w hSw; (try dsimp only at hSw); go_simp; try (with_reducible rfl))
        try simp only [Act.put, List.setIfInBounds_toArray, List.set_cons_zero, List.set_cons_succ]
        refine wpAnyT_take (i := 5) (v := ?_) rfl (by kernel_rfl) (by kernel_rfl) (by kernel_rfl) (by kernel_rfl) (by kernel_rfl) (fun _ _ _ h => h) (Or.inl ⟨by rfl, ?_⟩) (by assumption) ?_
        rotate_left
        · (intro w hSw; (try dsimp only at hSw); go_simp; try (with_reducible rfl))
        try simp only [Act.put, List.setIfInBounds_toArray, List.set_cons_zero, List.set_cons_succ]
        refine wpAnyT_take (i := 6) (v := ?_) rfl (by kernel_rfl) (by kernel_rfl) (by kernel_rfl) (by kernel_rfl) (by kernel_rfl) (fun _ _ _ h => h) (Or.inl ⟨by rfl, ?_⟩) (by assumption) ?_
        rotate_left
        · (intro w hSw; (try dsimp only at hSw); go_simp; try (with_reducible rfl))
        try simp only [Act.put, List.setIfInBounds_toArray, List.set_cons_zero, List.set_cons_succ]
        refine wpAnyT_take (i := 7) (v := ?_) rfl (by kernel_rfl) (by kernel_rfl) (by kernel_rfl) (by kernel_rfl) (by kernel_rfl) (fun _ _ _ h => h) (Or.inl ⟨by rfl, ?_⟩) (by assumption) ?_
        rotate_left
        · (intro w hSw; (try dsimp only at hSw); go_simp; try (with_reducible rfl))
        try simp only [Act.put, List.setIfInBounds_toArray, List.set_cons_zero, List.set_cons_succ]
        refine wpAnyT_take (i := 8) (v := ?_) rfl (by kernel_rfl) (by kernel_rfl) (by kernel_rfl) (by kernel_rfl) (by kernel_rfl) (fun _ _ _ h => h) (Or.inl ⟨by rfl, ?_⟩) (by assumption) ?_
        rotate_left
        · (intro w hSw; (try dsimp only at hSw); go_simp; try (with_reducible rfl))
        try simp only [Act.put, List.setIfInBounds_toArray, List.set_cons_zero, List.set_cons_succ]
        refine wpAnyT_take (i := 9) (v := ?_) rfl (by kernel_rfl) (by kernel_rfl) (by kernel_rfl) (by kernel_rfl) (by kernel_rfl) (fun _ _ _ h => h) (Or.inl ⟨by rfl, ?_⟩) (by assumption) ?_
        rotate_left
        · (intro w hSw; (try dsimp only at hSw); go_simp; try (with_reducible rfl))
        try simp only [Act.put, List.setIfInBounds_toArray, List.set_cons_zero, List.set_cons_succ]
        refine wpAnyT_take (i := 10) (v := ?_) rfl (by kernel_rfl) (by kernel_rfl) (by kernel_rfl) (by kernel_rfl) (by kernel_rfl) (fun _ _ _ h => h) (Or.inl ⟨by rfl, ?_⟩) (by assumption) ?_
        rotate_left
        · (intro w hSw; (try dsimp only at hSw); go_simp; try (with_reducible rfl))
        try simp only [Act.put, List.setIfInBounds_toArray, List.set_cons_zero, List.set_cons_succ]
        refine wpAnyT_take (i := 11) (v := ?_) rfl (by kernel_rfl) (by kernel_rfl) (by kernel_rfl) (by kernel_rfl) (by kernel_rfl) (fun _ _ _ h => h) (Or.inl ⟨by rfl, ?_⟩) (by assumption) ?_
        rotate_left
        · (intro w hSw; (try dsimp only at hSw); go_simp; try (with_reducible rfl))
        try simp only [Act.put, List.setIfInBounds_toArray, List.set_cons_zero, List.set_cons_succ]
        refine wpAnyT_take (i := 12) (v := ?_) rfl (by kernel_rfl) (by kernel_rfl) (by kernel_rfl) (by kernel_rfl) (by kernel_rfl) (fun _ _ _ h => h) (Or.inl ⟨by rfl, ?_⟩) (by assumption) ?_
        rotate_left
        · (intro w hSw; (try dsimp only at hSw); go_simp; try (with_reducible rfl))
        try simp only [Act.put, List.setIfInBounds_toArray, List.set_cons_zero, List.set_cons_succ]
        refine wpAnyT_take (i := 13) (v := ?_) rfl (by kernel_rfl) (by kernel_rfl) (by kernel_rfl) (by kernel_rfl) (by kernel_rfl) (fun _ _ _ h => h) (Or.inl ⟨by rfl, ?_⟩) (by assumption) ?_
        rotate_left
        · (intro w hSw; (try dsimp only at hSw); go_simp; try (with_reducible rfl))
        try simp only [Act.put, List.setIfInBounds_toArray, List.set_cons_zero, List.set_cons_succ]
        refine wpAnyT_take (i := 14) (v := ?_) rfl (by kernel_rfl) (by kernel_rfl) (by kernel_rfl) (by kernel_rfl) (by kernel_rfl) (fun _ _ _ h => h) (Or.inl ⟨by rfl, ?_⟩) (by assumption) ?_
        rotate_left
        · (intro w hSw; (try dsimp only at hSw); go_simp; try (with_reducible rfl))
        try simp only [Act.put, List.setIfInBounds_toArray, List.set_cons_zero, List.set_cons_succ]
        refine wpAnyT_one (i := 15) (by kernel_rfl) rfl (fun K hK => ?_)
        go_simp
        have hHeld2 : (fun w' : World => w'.cell? ⟨G, 2, none⟩ = some (.slice (some ⟨gI, 0, none⟩) li.length cI) ∧ w'.cell? ⟨b, 1, none⟩ = some (.int .i64 (t : Int)) ∧ w'.cell? ⟨gI, t, none⟩ = some (.slice Ai q.length ci)) (W3.drew.alloc (.cells #[.int .i64 (l.length : Int)] 3)) := ⟨d1a, g0a, r0a⟩
        refine hK.out _ _ (fun _ => hHeld2) ?_
        clear hK K
        try simp only [Act.put, List.setIfInBounds_toArray, List.set_cons_zero, List.set_cons_succ]
        refine wpAnyT_one (i := 16) (by kernel_rfl) rfl (fun K hK => ?_)
        refine step_append1 (by rfl) _ _ 42 3 (by rfl) 1 8 _ Tryd.underlying42 info_int rfl (by decide) (by decide) base (.slice Ai q.length ci) q.length (q.map (Value.int .i64)) (by rfl) HD.out.2.2.2.2.1 W3.drew.heap.size (by rfl) [.int .i64 (l.length : Int)] rfl (row_new W3.drew 3 [.int .i64 (l.length : Int)]) (one_i _) HD.out.2.2.2.1 HD.out.2.1 ?_
        intro v2 w2 hO2 hg2 hn2
        obtain ⟨A2, c2, rfl⟩ := own_form hO2
        have hd2 := row_cell (apart_grown HD.out.1.i (apart_type HD.out.1.i HD.out.2.2.2.2.1 (by decide)) hg2 hn2).1 ht
        have k0 := hd2.1
        have k1 := hd2.2
        have k2 : w2.cell? ⟨G, 2, none⟩ = some (.slice (some ⟨gI, 0, none⟩) li.length cI) := cell_of_row _ _ 2 _ _ _ (grown_far HD.out.2.2.2.2.1 hg2 HD.out.1.hd (by decide))
        have k3 : w2.cell? ⟨b, 1, none⟩ = some (.int .i64 (t : Int)) := cell_of_row _ _ 1 _ _ _ (grown_far HD.out.2.2.2.2.1 hg2 HD.out.2.2.1 (by decide))
        have hHeld3 : (fun w' : World => w'.cell? ⟨G, 2, none⟩ = some (.slice (some ⟨gI, 0, none⟩) li.length cI) ∧ w'.cell? ⟨b, 1, none⟩ = some (.int .i64 (t : Int)) ∧ w'.cell? ⟨gI, t, none⟩ = some (.slice Ai q.length ci)) w2 := ⟨k2, k3, k0⟩
        refine hK.out _ _ (fun _ => hHeld3) ?_
        clear hK K
        try simp only [Act.put, List.setIfInBounds_toArray, List.set_cons_zero, List.set_cons_succ]
        refine wpAnyT_take (i := 17) (v := ?_) rfl (by kernel_rfl) (by kernel_rfl) (by kernel_rfl) (by kernel_rfl) (by kernel_rfl) (fun _ _ _ h => h) (Or.inl ⟨by rfl, ?_⟩) (by assumption) ?_
        rotate_left
        · (intro w hSw; (try dsimp only at hSw); go_simp; try (with_reducible rfl))
        try simp only [Act.put, List.setIfInBounds_toArray, List.set_cons_zero, List.set_cons_succ]
        refine wpAnyT_one (i := 18) (by kernel_rfl) rfl (fun K hK => ?_)
        go_simp
        refine hK.out _ _ (fun h => absurd rfl h) ?_
        clear hK K
        refine wpAnyT_done (by kernel_rfl) ?_ _
        try simp only [Act.put, List.setIfInBounds_toArray, List.set_cons_zero, List.set_cons_succ]
        have hO3 : OwnI w2 base (.slice A2 (q.length + 1) c2) (q ++ [(l.length : Int)]) := by unfold OwnI; rw [List.length_append, List.map_append]; exact hO2
        refine (HQ.out _ _).2 ⟨⟨_, rfl⟩, _, HD.out.1.inn ht hq hO3 hg2 hn2, ?_⟩
        have hb0 := HT.out.2.2.2
        have hbs := HD.out.2.2.2.2.2.1.size
        exact ((HD.out.2.2.2.2.2.1.drew.alloc (by simp; omega) _).grown hg2 HD.out.2.1 (fun k hk => own_ge HD.out.2.2.2.2.1 hk)).setCell (p := ⟨gI, t, none⟩) (own_ge HD.out.1.i (g := gI) rfl) _
      · intro ex a' W4 hq4
        have hex : ex = .normal := by cases ex <;> first | rfl | exact (hq4 : False).elim
        subst hex
        obtain ⟨⟨TT, rfl⟩, i', hgc4, hB4⟩ := (HQ.out _ _).1 hq4
        have HF := Lib.hid (And.intro hgc4 hB4)
        clear hgc4 hB4 hq4 HQ
        go_wp2_with fail
        go_end0
        exact ⟨rfl, HT.out.2.2.1.trans HF.out.2, _, _, _, HF.out.1⟩
end Go.Proofs.YtabciepnbmliiaaDoor
