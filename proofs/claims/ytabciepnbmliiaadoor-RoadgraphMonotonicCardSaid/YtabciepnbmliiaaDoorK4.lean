/- Nodes; Reachable. -/
import Derived.Test.YtabciepnbmliiaaDoorK3
import Derived.Test.YtabciepnbmliiaaDoorMath3
set_option linter.unusedVariables false
set_option linter.unusedSimpArgs false
set_option maxRecDepth 100000
namespace Go.Proofs.YtabciepnbmliiaaDoor
open Go.RowKit Go.Lib Go.Shelf Rg Nds
attribute [local go_sem] Oper.semAt_some

theorem nodes_any (G N : Nat) (A : Option Addr) (c : Nat) (w : World) (h1 : w.cell? ⟨G, 1, none⟩ = some (.slice A N c)) :
    Calls Tryd.prog 14 #[.pointer (some ⟨G, 0, none⟩)] w fun e w' => e = .returned (.int .i64 (N : Int)) ∧ w = w' := by
  go_enter Tryd.func14, Tryd.ntmps14
  go_wp2
  go_ret
  exact ⟨rfl, rfl⟩
theorem edges_any (G n : Nat) (A : Option Addr) (c : Nat) (w : World) (h1 : w.cell? ⟨G, 0, none⟩ = some (.slice A n c)) :
    Calls Tryd.prog 15 #[.pointer (some ⟨G, 0, none⟩)] w fun e w' => e = .returned (.int .i64 (n : Int)) ∧ w = w' := by
  go_enter Tryd.func15, Tryd.ntmps15
  go_wp2
  go_ret
  exact ⟨rfl, rfl⟩
theorem gisNode_any (G N : Nat) (A : Option Addr) (c : Nat) (x : Int) (w : World) (h1 : w.cell? ⟨G, 1, none⟩ = some (.slice A N c)) :
    Calls Tryd.prog 37 #[.pointer (some ⟨G, 0, none⟩), .int .i64 x] w fun e w' => e = .returned (.bool (decide (0 ≤ x ∧ x < (N : Int)))) ∧ w = w' := by
  by_cases h0 : 0 ≤ x
  · by_cases hN : x < (N : Int)
    · go_enter Tryd.func37, Tryd.ntmps37
      go_wp2_with (go_at_call 14; refine (nodes_any _ _ _ _ _ h1).mono ?_; rintro e w' ⟨rfl, rfl⟩)
      go_ret
      exact ⟨ret_b (by simp [h0, hN]), rfl⟩
    · go_enter Tryd.func37, Tryd.ntmps37
      go_wp2_with (go_at_call 14; refine (nodes_any _ _ _ _ _ h1).mono ?_; rintro e w' ⟨rfl, rfl⟩)
      go_ret
      exact ⟨ret_b (by simp; omega), rfl⟩
  · go_enter Tryd.func37, Tryd.ntmps37
    go_wp2_with (go_at_call 14; refine (nodes_any _ _ _ _ _ h1).mono ?_; rintro e w' ⟨rfl, rfl⟩)
    go_ret
    exact ⟨ret_b (by simp; omega), rfl⟩

theorem info_bool : (Tryd.prog.info? 4).map (fun i => (i.zero, i.size, i.bytes)) = some (some (.bool false), 1, 1) := by kernel_rfl
theorem run_make_bools (w : World) (n : Nat) (hn : n ≤ 1000000) : (Instr.makeSlice 75 (.int .i64 (n : Int)) (.int .i64 (n : Int))).run Tryd.prog w = .ok (.slice (some ⟨w.heap.size, 0, none⟩) n n) (w.alloc (.cells (madeCells #[.bool false] n) 4)) := by
  obtain ⟨i0, hi, hz0, hz1, hz2⟩ := info_parts info_bool
  have h := run_make (P := Tryd.prog) w 75 4 i0 _ Tryd.underlying75 hi hz0 .i64 .i64 (n : Int) (n : Int) (by omega) (by omega) (by rw [hz2]; omega) (by omega)
  rw [hz1, Int.toNat_natCast, Nat.mul_one] at h
  exact h
theorem madeCells_at (z : Value) (n i : Nat) (h : i < n) : (madeCells #[z] n)[i]? = some z := by
  unfold madeCells
  rw [Array.getElem?_map, Array.getElem?_range, if_pos h]
  simp [Nat.mod_one]
theorem seen_new (w : World) (n : Nat) : SeenAt (w.alloc (.cells (madeCells #[.bool false] n) 4)) w.heap.size n none_ := fun i hi =>
  ⟨by
    unfold World.cell?
    rw [heap_alloc_new w _]
    simp [madeCells_at _ n i hi, none_], frozen_of_row _ _ _ _ _ (heap_alloc_new w _)⟩

section
variable {F : Fence} {n : Nat} {ops : Array Oper} {rest : List Oper} {o : Oper} {a : Act} {w : World} {Q : Exit → Act → World → Prop}
theorem wpListIn_alloc_set (hgd : o.guard = none) (ho : o.op = .alloc 53)
    (h : wpListIn F n Tryd.prog ops Q rest (a.put o.dst (.pointer (some ⟨w.heap.size, 0, none⟩))) (w.alloc (.cells (cells fun _ => false) 53))) : wpListIn F n Tryd.prog ops Q (o :: rest) a w :=
  wpListIn_runTo hgd (fun c e => by rw [ho] at e; cases e) (by simp [Oper.about, ho]) _ _ (by
    unfold execOp
    simp only [ho, Instr.alloc, Sem.run_bind, run_zero_set, Result.andThen_ok, newVar, newRow, Value.cells]
    rfl) h
theorem wpListIn_store_set (x y : Operand) (g : Nat) (p q : Nat → Bool) (hgd : o.guard = none) (ho : o.op = .store 53 x y) (hx : a.eval x = .pointer (some ⟨g, 0, none⟩)) (hy : a.eval y = .agg (cells p)) (hs : SetAt w g q)
    (h : wpListIn F n Tryd.prog ops Q rest (a.put o.dst undef) (w.setRow g (cells p))) : wpListIn F n Tryd.prog ops Q (o :: rest) a w :=
  wpListIn_plain hgd fun K hK' => by
    have hr := run_storeVar_row (P := Tryd.prog) w g 53 53 (cells q) (cells p) hs (info_set' p) (by rw [cells_size, cells_size]) (cells_one p)
    unfold Oper.wpIn
    refine ⟨by simp [Oper.about, ho], ?_⟩
    rw [Oper.semAt_plain F _ _ (by rw [ho]; intro c hc'; cases hc')]
    unfold execOp
    simp only [ho, hx, hy, Instr.storeAt, Instr.sureAddr, Sem.run_bind, Sem.run_pure, Result.andThen_ok, hr]
    exact hK' _ _ h
end

theorem free_none {N : Nat} {x : Nat} (h : x ≤ N) : (0 : Nat) + free N none_ ≤ 99999 ∨ 99999 < N := by
  have := free_le N none_; omega

set_option maxHeartbeats 4000000 in
theorem reachable_any (N : Nat) (l : List Ed3) (p : Nat → Bool) (w : World) (hE : Env w) (lo hi G : Nat) (hG : GrP w lo hi G N l) (hhi : hi ≤ w.heap.size) :
    Calls Tryd.prog 25 #[.pointer (some ⟨G, 0, none⟩), .agg (cells p)] w fun e w' => e = .returned (.agg (cells (ofP (aheadR N l (ei p))))) ∧ Below w.heap.size w w' := by
  have hF := hG.fair
  have hN := hF.hi
  have hGs := hG.lt
  obtain ⟨AE, cE, AO, cO, AI, cI, hd0, hd1, hd2, hRe, us, is, hRO, hRI⟩ := hG.head
  have hmk := fun W => run_make_bools W N (by omega)
  have s1 : SetAt (((w.alloc (.cells #[.pointer (some ⟨G, 0, none⟩)] 26)).alloc (.cells (cells p) 53)).alloc (.cells (cells fun _ => false) 53)) (w.heap.size + 1) p := by have := ((SetAt.new (w.alloc (.cells #[.pointer (some ⟨G, 0, none⟩)] 26)) p).alloc (.cells (cells fun _ => false) 53)); simpa using this
  have B3 : Below w.heap.size w (((w.alloc (.cells #[.pointer (some ⟨G, 0, none⟩)] 26)).alloc (.cells (cells p) 53)).alloc (.cells (cells fun _ => false) 53)) := (((Below.refl _ w).alloc (Nat.le_refl _) _).alloc (by simp) _).alloc (by simp; omega) _
  have B6 : Below w.heap.size w ((((((w.alloc (.cells #[.pointer (some ⟨G, 0, none⟩)] 26)).alloc (.cells (cells p) 53)).alloc (.cells (cells fun _ => false) 53)).alloc (.cells (madeCells #[.bool false] N) 4)).alloc (.cells #[.slice (some ⟨w.heap.size + 1 + 1 + 1, 0, none⟩) N N] 75)).alloc (.cells #[.slice none 0 0] 42)) := ((B3.alloc (by simp; omega) _).alloc (by simp; omega) _).alloc (by simp; omega) _
  have hd1A := cell_keep hd1 B3
  have hpA : (((w.alloc (.cells #[.pointer (some ⟨G, 0, none⟩)] 26)).alloc (.cells (cells p) 53)).alloc (.cells (cells fun _ => false) 53)).cell? ⟨w.heap.size, 0, none⟩ = some (.pointer (some ⟨G, 0, none⟩)) := (((Boxed.new w 26 _).alloc _).alloc _).cell
  have s6 : SetAt ((((((w.alloc (.cells #[.pointer (some ⟨G, 0, none⟩)] 26)).alloc (.cells (cells p) 53)).alloc (.cells (cells fun _ => false) 53)).alloc (.cells (madeCells #[.bool false] N) 4)).alloc (.cells #[.slice (some ⟨w.heap.size + 1 + 1 + 1, 0, none⟩) N N] 75)).alloc (.cells #[.slice none 0 0] 42)) (w.heap.size + 1) p := ((s1.alloc _).alloc _).alloc _
  have B7 : Below w.heap.size w (((((((w.alloc (.cells #[.pointer (some ⟨G, 0, none⟩)] 26)).alloc (.cells (cells p) 53)).alloc (.cells (cells fun _ => false) 53)).alloc (.cells (madeCells #[.bool false] N) 4)).alloc (.cells #[.slice (some ⟨w.heap.size + 1 + 1 + 1, 0, none⟩) N N] 75)).alloc (.cells #[.slice none 0 0] 42)).alloc (.cells (cells p) 53)) := B6.alloc (by simp; omega) _
  have hz7 : (((((((w.alloc (.cells #[.pointer (some ⟨G, 0, none⟩)] 26)).alloc (.cells (cells p) 53)).alloc (.cells (cells fun _ => false) 53)).alloc (.cells (madeCells #[.bool false] N) 4)).alloc (.cells #[.slice (some ⟨w.heap.size + 1 + 1 + 1, 0, none⟩) N N] 75)).alloc (.cells #[.slice none 0 0] 42)).alloc (.cells (cells p) 53)).heap.size = w.heap.size + 7 := by simp
  have r7 : SetAt (((((((w.alloc (.cells #[.pointer (some ⟨G, 0, none⟩)] 26)).alloc (.cells (cells p) 53)).alloc (.cells (cells fun _ => false) 53)).alloc (.cells (madeCells #[.bool false] N) 4)).alloc (.cells #[.slice (some ⟨w.heap.size + 1 + 1 + 1, 0, none⟩) N N] 75)).alloc (.cells #[.slice none 0 0] 42)).alloc (.cells (cells p) 53)) (w.heap.size + 2) (fun _ => false) := by have := ((((SetAt.new ((w.alloc (.cells #[.pointer (some ⟨G, 0, none⟩)] 26)).alloc (.cells (cells p) 53)) (fun _ => false)).alloc (.cells (madeCells #[.bool false] N) 4)).alloc (.cells #[.slice (some ⟨w.heap.size + 1 + 1 + 1, 0, none⟩) N N] 75)).alloc (.cells #[.slice none 0 0] 42)).alloc (.cells (cells p) 53); simpa using this
  have sn7 : SeenAt (((((((w.alloc (.cells #[.pointer (some ⟨G, 0, none⟩)] 26)).alloc (.cells (cells p) 53)).alloc (.cells (cells fun _ => false) 53)).alloc (.cells (madeCells #[.bool false] N) 4)).alloc (.cells #[.slice (some ⟨w.heap.size + 1 + 1 + 1, 0, none⟩) N N] 75)).alloc (.cells #[.slice none 0 0] 42)).alloc (.cells (cells p) 53)) (w.heap.size + 3) N none_ := by
    have h0 := seen_new (((w.alloc (.cells #[.pointer (some ⟨G, 0, none⟩)] 26)).alloc (.cells (cells p) 53)).alloc (.cells (cells fun _ => false) 53)) N
    have h1 := h0.below (n₀ := (((w.alloc (.cells #[.pointer (some ⟨G, 0, none⟩)] 26)).alloc (.cells (cells p) 53)).alloc (.cells (cells fun _ => false) 53)).heap.size + 1) (w' := (((((((w.alloc (.cells #[.pointer (some ⟨G, 0, none⟩)] 26)).alloc (.cells (cells p) 53)).alloc (.cells (cells fun _ => false) 53)).alloc (.cells (madeCells #[.bool false] N) 4)).alloc (.cells #[.slice (some ⟨w.heap.size + 1 + 1 + 1, 0, none⟩) N N] 75)).alloc (.cells #[.slice none 0 0] 42)).alloc (.cells (cells p) 53))) ((((Below.refl _ _).alloc (by simp) _).alloc (by simp) _).alloc (by simp) _) (by omega)
    simpa using h1
  have x7 : Boxed (((((((w.alloc (.cells #[.pointer (some ⟨G, 0, none⟩)] 26)).alloc (.cells (cells p) 53)).alloc (.cells (cells fun _ => false) 53)).alloc (.cells (madeCells #[.bool false] N) 4)).alloc (.cells #[.slice (some ⟨w.heap.size + 1 + 1 + 1, 0, none⟩) N N] 75)).alloc (.cells #[.slice none 0 0] 42)).alloc (.cells (cells p) 53)) (w.heap.size + 5) 42 (.slice none 0 0) := by have := (Boxed.new ((((w.alloc (.cells #[.pointer (some ⟨G, 0, none⟩)] 26)).alloc (.cells (cells p) 53)).alloc (.cells (cells fun _ => false) 53)).alloc (.cells (madeCells #[.bool false] N) 4) |>.alloc (.cells #[.slice (some ⟨w.heap.size + 1 + 1 + 1, 0, none⟩) N N] 75)) 42 (.slice none 0 0)).alloc (.cells (cells p) 53); simpa using this
  have q7 : (((((((w.alloc (.cells #[.pointer (some ⟨G, 0, none⟩)] 26)).alloc (.cells (cells p) 53)).alloc (.cells (cells fun _ => false) 53)).alloc (.cells (madeCells #[.bool false] N) 4)).alloc (.cells #[.slice (some ⟨w.heap.size + 1 + 1 + 1, 0, none⟩) N N] 75)).alloc (.cells #[.slice none 0 0] 42)).alloc (.cells (cells p) 53)).cell? ⟨w.heap.size + 1 + 1 + 1 + 1, 0, none⟩ = some (.slice (some ⟨w.heap.size + 1 + 1 + 1, 0, none⟩) N N) := by have := (((Boxed.new ((((w.alloc (.cells #[.pointer (some ⟨G, 0, none⟩)] 26)).alloc (.cells (cells p) 53)).alloc (.cells (cells fun _ => false) 53)).alloc (.cells (madeCells #[.bool false] N) 4)) 75 (.slice (some ⟨w.heap.size + 1 + 1 + 1, 0, none⟩) N N)).alloc (.cells #[.slice none 0 0] 42)).alloc (.cells (cells p) 53)).cell; simpa using this
  have p7 : (((((((w.alloc (.cells #[.pointer (some ⟨G, 0, none⟩)] 26)).alloc (.cells (cells p) 53)).alloc (.cells (cells fun _ => false) 53)).alloc (.cells (madeCells #[.bool false] N) 4)).alloc (.cells #[.slice (some ⟨w.heap.size + 1 + 1 + 1, 0, none⟩) N N] 75)).alloc (.cells #[.slice none 0 0] 42)).alloc (.cells (cells p) 53)).cell? ⟨w.heap.size, 0, none⟩ = some (.pointer (some ⟨G, 0, none⟩)) := cell_keep hpA ((((((Below.refl _ _).alloc (by simp) _).alloc (by simp) _).alloc (by simp) _).alloc (by simp) _))
  have s7 : SetAt (((((((w.alloc (.cells #[.pointer (some ⟨G, 0, none⟩)] 26)).alloc (.cells (cells p) 53)).alloc (.cells (cells fun _ => false) 53)).alloc (.cells (madeCells #[.bool false] N) 4)).alloc (.cells #[.slice (some ⟨w.heap.size + 1 + 1 + 1, 0, none⟩) N N] 75)).alloc (.cells #[.slice none 0 0] 42)).alloc (.cells (cells p) 53)) (w.heap.size + 1 + 1 + 1 + 1 + 1 + 1) p := by have := SetAt.new ((((((w.alloc (.cells #[.pointer (some ⟨G, 0, none⟩)] 26)).alloc (.cells (cells p) 53)).alloc (.cells (cells fun _ => false) 53)).alloc (.cells (madeCells #[.bool false] N) 4)).alloc (.cells #[.slice (some ⟨w.heap.size + 1 + 1 + 1, 0, none⟩) N N] 75)).alloc (.cells #[.slice none 0 0] 42)) p; simpa using this
  refine (callsIn_wide (n := 7)).1 ?_
  refine callsIn_of_wp_marks Tryd.func25 rfl trivial ?_ rfl
  simp only [Tryd.ntmps25, List.size_toArray, List.length_cons, List.length_nil, Nat.reduceAdd, Nat.reduceSub, Array.replicate_succ, Array.replicate_zero, List.push_toArray, List.append_toArray, List.nil_append, List.cons_append]
  have T := Lib.hid (And.intro hE (And.intro hG (And.intro hRe (And.intro hRO (And.intro hRI (And.intro B7 (And.intro r7 (And.intro sn7 (And.intro x7 (And.intro q7 (And.intro p7 (And.intro s7 hz7))))))))))))
  clear hE hG hRe hRO hRI B7 r7 sn7 x7 q7 p7 s7 hz7 B3 B6
  gi_wp2_with (first
    | refine wpListIn_alloc_set rfl rfl ?_
    | refine wpListIn_load_set _ _ _ rfl rfl rfl s6 ?_
    | (refine ⟨trivial, ?_⟩; gi_at_call 14; refine (callsIn_wide.2 (nodes_any _ _ _ _ _ hd1A)).mono ?_; rintro e w2 ⟨rfl, rfl⟩)
    | (refine ⟨trivial, ?_⟩; gi_at_call 43; refine (callsIn_wide.2 (each_any p _)).mono ?_; rintro e w4 ⟨rfl, rfl⟩))
  obtain ⟨hE, hG, hRe, hRO, hRI, B7, r7, sn7, x7, q7, p7, s7, hz7⟩ := T.out
  clear T hd1A hpA s6
  generalize (((((((w.alloc (.cells #[.pointer (some ⟨G, 0, none⟩)] 26)).alloc (.cells (cells p) 53)).alloc (.cells (cells fun _ => false) 53)).alloc (.cells (madeCells #[.bool false] N) 4)).alloc (.cells #[.slice (some ⟨w.heap.size + 1 + 1 + 1, 0, none⟩) N N] 75)).alloc (.cells #[.slice none 0 0] 42)).alloc (.cells (cells p) 53)) = wl at *
  obtain ⟨st, hst⟩ : ∃ st : List Int → St, ∀ q, st q = q.foldl (rstep l N) (none_, []) := ⟨_, fun _ => rfl⟩
  have hst0 : st [] = (none_, []) := by rw [hst]; rfl
  have hst1 : ∀ q x, st (q ++ [x]) = rstep l N (st q) x := fun q x => by rw [hst, hst, List.foldl_append]; rfl
  have hstN : ofP (st (ei p)).2 = ofP (aheadR N l (ei p)) := by
    rw [hst]
    funext m
    unfold ofP
    exact decide_eq_decide.2 (mem_rfold hF (ei p) (m : Int))
  have hstO : ∀ q, Out l N none_ (st q).2 (st q).1 := fun q => by rw [hst]; exact rfold_out hF q
  have HS := Lib.hid (And.intro hst0 (And.intro hst1 (And.intro hstN hstO)))
  clear hst hst0 hst1 hstN hstO
  have hfn := free_le N none_
  have hEs := hE.size
  refine wpIn_rangeFunc_ownG rfl (by decide) (gf := 54) (lb := #[.pointer (some ⟨w.heap.size + 1 + 1 + 1 + 1 + 1 + 1, 0, none⟩)]) rfl trivial (enters_of Tryd.func54 (by kernel_rfl) rfl)
    (each_stops 6 (by omega) (w.heap.size + 1 + 1 + 1 + 1 + 1 + 1) w.heap.size p wl s7 (TabAt.below hE.db B7 (by omega)) hEs (by omega)) belowK_t (belowK_b (by omega)) (Below.refl _ _) (fun _ => rfl)
    (fun (pre : List Int) W => VI N N (w.heap.size + 3) w.heap.size (w.heap.size + 5) (fun k => k = w.heap.size + 3 ∨ (Value.slice none 0 0).ownBlock = some k ∨ k = w.heap.size + 5) wl (.slice none 0 0) (st pre) W)
    (fun _ _ _ => False)
    (VI_own N N _ _ _ _ wl _ st)
    (fun _ _ _ _ _ hs _ _ => hs)
    ⟨_, x7, by rw [HS.out.1]; exact OwnI.nil _ _, by rw [HS.out.1]; exact sn7, Kept.refl _ _ _, fun b hb => .inl hb, by rw [HS.out.1]; show 0 + free N none_ ≤ _; omega, by rw [HS.out.1]; exact hfn⟩
    (fun x => { tmps := #[.pointer (some ⟨G, 0, none⟩), .agg (cells p), .pointer (some ⟨w.heap.size, 0, none⟩), .pointer (some ⟨w.heap.size + 1, 0, none⟩), .pointer (some ⟨w.heap.size + 1 + 1, 0, none⟩), .pointer (some ⟨w.heap.size + 1 + 1 + 1 + 1, 0, none⟩), .pointer (some ⟨w.heap.size + 1 + 1 + 1 + 1 + 1, 0, none⟩), .int .i64 x, .pointer (some ⟨G, 0, none⟩), .int .i64 (N : Int), .slice (some ⟨w.heap.size + 1 + 1 + 1, 0, none⟩) N N, .agg (cells p), .func (.func 54) #[] #[.pointer (some ⟨w.heap.size + 1 + 1 + 1 + 1 + 1 + 1, 0, none⟩)], .int .i64 x, undef, undef, undef, undef, undef, undef, undef, undef, undef, undef], defers := [] }) ?assign ?body ?done ?stop
  case assign =>
    intro lp x W K hK
    gi_wp2
    exact hK
  case body =>
    rintro lp pre x W ⟨vc, hbx, hOc, hsc, hKc, hbc, hlc, hfc⟩ hlt
    have hst1 := HS.out.2.1 pre x
    unfold rstep at hst1
    have hGl : GrP wl lo hi G N l := hG.below (B7.mono hhi)
    have hX : ∀ k, k < w.heap.size + 3 → ¬ (k = w.heap.size + 3 ∨ (Value.slice none 0 0).ownBlock = some k ∨ k = w.heap.size + 5) := by
      rintro k hk (q | q | q)
      · omega
      · cases q
      · omega
    have hGW := hGl.kept hKc (by omega) (fun b h1 h2 => hX b (by omega))
    obtain ⟨AE2, cE2, AO2, cO2, AI2, cI2, he0, he1, he2, hRe2, _⟩ := hGW.head
    have hKs := hKc.size
    have hp : W.cell? ⟨w.heap.size, 0, none⟩ = some (.pointer (some ⟨G, 0, none⟩)) := hKc.cell p7 (by show w.heap.size < _; omega) (hX _ (by show w.heap.size < _; omega))
    have hq : W.cell? ⟨w.heap.size + 1 + 1 + 1 + 1, 0, none⟩ = some (.slice (some ⟨w.heap.size + 1 + 1 + 1, 0, none⟩) N N) := hKc.cell q7 (by show w.heap.size + 4 < _; omega) (by
      rintro (q | q | q)
      · simp only at q; omega
      · cases q
      · simp only at q; omega)
    have hcx := hbx.cell
    have hfx := hbx.frozen
    have hcl : ∀ k, (k = w.heap.size + 3 ∨ vc.ownBlock = some k ∨ k = w.heap.size + 5) → ∀ o, W.heap[k]? = some o → o.isCells = true := by
      rintro k (rfl | q | rfl) o ho
      · exact cells_of_cell (hsc 0 (by have := hF.lo; omega)).1 o ho
      · obtain ⟨cur, hcur⟩ := own_type hOc q
        rw [hcur] at ho; cases ho; rfl
      · rw [hbx] at ho; cases ho; rfl
    have hin : ∀ k, k < wl.heap.size → (k = w.heap.size + 3 ∨ vc.ownBlock = some k ∨ k = w.heap.size + 5) → (k = w.heap.size + 3 ∨ (Value.slice none 0 0).ownBlock = some k ∨ k = w.heap.size + 5) := by
      rintro k hk (q | q | q)
      · exact .inl q
      · rcases hbc k q with r | r
        · exact .inr (.inl r)
        · omega
      · exact .inr (.inr q)
    by_cases hx : 0 ≤ x ∧ x < (N : Int)
    · rw [if_pos hx] at hst1
      obtain ⟨u, rfl⟩ : ∃ u : Nat, x = (u : Int) := ⟨x.toNat, by omega⟩
      have hd : decide (0 ≤ (u : Int) ∧ (u : Int) < (N : Int)) = true := decide_eq_true hx
      have huN : u < N := by omega
      have hcall := visit_any N l hF N u (st pre).1 (st pre).2 W lo hi G (w.heap.size + 1 + 1 + 1) N w.heap.size vc huN (free_le _ _) hlc hGW (by omega) hsc (by omega) (by omega) hOc (by omega) (fun b hb => by
        rcases hbc b hb with r | r
        · cases r
        · exact ⟨by omega, by omega⟩)
      obtain ⟨M, S', hdf, hout, _, _⟩ := dfs_out hF N (u : Int) (st pre).1 (st pre).2 ⟨by omega, by omega⟩ (free_le _ _)
      have hdf' : dfs l N (u : Int) (st pre) = (S', (st pre).2 ++ M) := hdf
      have hfree2 := out_free hout
      have hbl1 : w.heap.size + 5 < W.heap.size := hbx.lt
      have hbne1 : ¬ XV (w.heap.size + 1 + 1 + 1) vc (w.heap.size + 5) := by
        rintro (q | q)
        · omega
        · exact (hbx.not_row (by decide) hOc) q.symm
      have T := Lib.hid (And.intro hbx (And.intro hOc (And.intro hsc (And.intro hKc (And.intro hbc (And.intro hlc (And.intro hfc (And.intro hGW (And.intro hRe2 (And.intro hcl (And.intro hin (And.intro hdf' (And.intro hfree2 (And.intro hst1 (And.intro hz7 hKs)))))))))))))))
      clear hOc hsc hKc hbc hlc hfc hGW hRe2 hcl hin hdf hdf' hfree2 hout hst1 hx hz7 hKs
      gi_wp2_with (first
        | (refine ⟨trivial, ?_⟩; gi_at_call 37; refine (CallsIn.inRound lp (callsIn_wide.2 (gisNode_any _ _ _ _ _ _ he1))).mono ?_; rintro e w2 ⟨rfl, rfl⟩)
        | (refine ⟨trivial, ?_⟩; gi_at_call 44; refine (CallsIn.inRound lp (callsIn_wide.2 hcall)).mono ?_; rintro e w2 ⟨v2, rfl, hO2, hs2, hK2, hb2'⟩; obtain ⟨A2, c2, rfl⟩ := hO2.slice; have hbx2 : Boxed w2 (w.heap.size + 5) 42 vc := hK2.at hbx hbl1 hbne1; have hcx2 := hbx2.cell; have hfx2 := hbx2.frozen))
      obtain ⟨hbx, hOc, hsc, hKc, hbc, hlc, hfc, hGW, hRe2, hcl, hin, hdf, hfree2, hst1, hz7, hKs⟩ := T.out
      have kW : Kept (fun k => k = w.heap.size + 3 ∨ vc.ownBlock = some k ∨ k = w.heap.size + 5) W.heap.size W (w2.setCell ⟨w.heap.size + 5, 0, none⟩ (.slice A2 (dfs l N (u : Int) (st pre)).2.length c2)) :=
        Kept.setCell (hK2.mono (Nat.le_refl _) (fun k _ q => q.elim .inl (fun q => .inr (.inl q)))) (p := ⟨w.heap.size + 5, 0, none⟩) (fun _ => .inr (.inr rfl)) _
      have hne2 : ∀ g, (Value.slice A2 (dfs l N (u : Int) (st pre)).2.length c2).ownBlock = some g → g ≠ w.heap.size + 5 := fun g hg => by
        rintro rfl
        exact (hbx2.not_row (by decide) hO2) hg.symm
      refine ⟨kW.keepsFrom rfl hcl, (kW.mono hKs hin).below (by omega) (fun k hk => hX k (by omega)), ?_⟩
      show VI N N _ _ _ _ wl _ (st (pre ++ [(u : Int)])) _
      rw [hst1]
      refine ⟨_, hbx2.set _, own_kept hO2 (fun g hg => Below.heap_setCell _ _ _ _ (hne2 g hg)), hs2.to (Below.heap_setCell _ _ _ _ (by simp only; omega)), hKc.trans (kW.mono hKs hin), fun b hb => ?_, ?_, ?_⟩
      · rcases hb2' b hb with r | r
        · exact hbc b r
        · exact .inr (by omega)
      · rw [hdf]; simp only [List.length_append]; omega
      · exact free_le _ _
    · rw [if_neg hx] at hst1
      have hd : decide (0 ≤ x ∧ x < (N : Int)) = false := decide_eq_false hx
      have T := Lib.hid (And.intro hbx (And.intro hOc (And.intro hsc (And.intro hKc (And.intro hbc (And.intro hlc (And.intro hfc hst1)))))))
      clear hOc hsc hKc hbc hlc hfc hGW hRe2 hcl hin hst1 hx hz7 hKs
      gi_wp2_with (refine ⟨trivial, ?_⟩; gi_at_call 37; refine (CallsIn.inRound lp (callsIn_wide.2 (gisNode_any _ _ _ _ _ _ he1))).mono ?_; rintro e w2 ⟨rfl, rfl⟩)
      obtain ⟨hbx, hOc, hsc, hKc, hbc, hlc, hfc, hst1⟩ := T.out
      refine ⟨KeepsFrom.refl _ _, Below.refl _ _, ?_⟩
      show VI N N _ _ _ _ wl _ (st (pre ++ [x])) _
      rw [hst1]
      exact ⟨vc, hbx, hOc, hsc, hKc, hbc, hlc, hfc⟩
  case done =>
    rintro D ys W hD rfl ⟨vc, hbx, hOc, hsc, hKc, hbc, hlc, hfc⟩ hK
    have hN2 := HS.out.2.2.1
    generalize st (ei p) = s at *
    obtain ⟨S2, L2⟩ := s
    dsimp only at hOc hsc hlc hfc hN2
    have HN2 := Lib.hid hN2; clear hN2
    obtain ⟨Ac, cc, rfl⟩ := hOc.slice
    have hrd := hOc.rd
    have hcx := hbx.cell
    have hKs := hKc.size
    have hX : ∀ k, k < w.heap.size + 3 → ¬ (k = w.heap.size + 3 ∨ (Value.slice none 0 0).ownBlock = some k ∨ k = w.heap.size + 5) := by
      rintro k hk (q | q | q)
      · omega
      · cases q
      · omega
    have r2 : SetAt W (w.heap.size + 2) (fun _ => false) := hKc.at r7 (by omega) (hX _ (by omega))
    have hBW : Below w.heap.size w W := B7.trans (hKc.below (by omega) (fun k hk => hX k (by omega)))
    have hDlt : D < W.heap.size := (Array.getElem?_eq_some_iff.1 hK).1
    have T := Lib.hid (And.intro hz7 (And.intro hKs (And.intro hlc hBW)))
    clear hz7 hKs hlc hBW hOc hsc hKc
    gi_wp2_with (first
      | (refine ⟨trivial, ?_⟩; gi_at_call 26; refine (callsIn_wide.2 (of_any Ac cc L2.length L2 _ hrd (by have := T.out.2.2.1; omega))).mono ?_; rintro e w2 ⟨rfl, b2⟩; have r3 := r2.below b2 r2.lt)
      | refine wpListIn_store_set _ _ _ _ _ rfl rfl rfl rfl r3 ?_)
    obtain ⟨hz7, hKs, hlc, hBW⟩ := T.out
    have hb3 : Below w.heap.size w (w2.setRow (w.heap.size + 1 + 1) (cells (ofP L2))) := below_setRow (hBW.trans (b2.mono hBW.size)) (by omega) _
    have hK2 : (w2.setRow (w.heap.size + 1 + 1) (cells (ofP L2))).heap[D]? = some (.deferred (some [])) := by
      show (w2.heap.modify _ _)[D]? = _
      rw [Array.getElem?_modify, if_neg (by omega), b2.block D hDlt]
      exact hK
    refine ⟨by simp, .inl ⟨_, _, rfl, run_takeDeferred hK2, ?_⟩⟩
    have hend : SetAt ((w2.setRow (w.heap.size + 1 + 1) (cells (ofP L2))).putObj D (.deferred none)) (w.heap.size + 1 + 1) (ofP L2) := ((grownBy_putObj' _ D _).block _ (r3.row (q := ofP L2)).lt (fun e => by injection e; omega)).trans r3.row
    refine ⟨_, results_cell_row Tryd.results25 _ _ _ _ _ _ _ rfl hend Tryd.underlying53 rfl (info_set' _), ?_⟩
    refine ⟨by rw [HN2.out], ?_⟩
    exact hb3.trans (belowK_b (w := w) (Nat.le_refl _) _ D _ _ (by omega) hK2 rfl rfl)
  case stop =>
    rintro D c pre W _ _ h _
    exact h.elim
end Go.Proofs.YtabciepnbmliiaaDoor
