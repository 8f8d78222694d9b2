/- take: at most so many elements of a node's edges. -/
import Derived.Test.YtabciepnbmliiaaDoorK2
set_option linter.unusedVariables false
set_option linter.unusedSimpArgs false
set_option maxRecDepth 100000
namespace Go.Proofs.YtabciepnbmliiaaDoor
open Go.RowKit Go.Lib Go.Shelf Rg

/-- What take gathers: the box bo holds a slice of its own, the box bm the number most. -/
def TakeSt (w : World) (base bo bm : Nat) (most : Int) (xs : List Int) : Prop :=
  ∃ v, w.heap[bo]? = some (.cells #[v] 42 (0, 0)) ∧ OwnI w base v xs ∧ w.heap[bm]? = some (.cells #[.int .i64 most] 3 (0, 0)) ∧ bo < base ∧ bm < base ∧ bo ≠ bm
theorem heap_of_setCell0 {w : World} {g : Nat} {u v : Value} {T : TypeId} (h : w.heap[g]? = some (.cells #[u] T (0, 0))) : (w.setCell ⟨g, 0, none⟩ v).heap[g]? = some (.cells #[v] T (0, 0)) := by
  unfold World.setCell
  simp [h]
  have := (Array.getElem?_eq_some_iff.1 h).1
  simp [World.putObj, this, Array.getElem_modify, (Array.getElem?_eq_some_iff.1 h).2]
set_option maxHeartbeats 2000000 in
theorem takeF_any (w : World) (base bo bm : Nat) (most : Int) (xs : List Int) (y : Int) (h : TakeSt w base bo bm most xs) (hn : xs.length ≤ 1000) (hbase : base ≤ w.heap.size) :
    Calls Tryd.prog 41 #[.int .i64 y, .pointer (some ⟨bo, 0, none⟩), .pointer (some ⟨bm, 0, none⟩)] w fun e w' => e = .returned (.bool (decide (((xs.length + 1 : Nat) : Int) < most))) ∧ TakeSt w' base bo bm most (xs ++ [y]) ∧ Kept (fun k => k = bo) base w w' := by
  obtain ⟨v, hbo, hO, hbm, hob, hmb, hne⟩ := h
  have HO := Lib.hid (And.intro hO (And.intro hbo hbm))
  have HI := Lib.hid (And.intro hob (And.intro hmb hne))
  have c0 := cell_of_row _ _ 0 _ _ _ hbo
  have f0 := frozen_of_row _ _ 0 _ _ hbo
  have c1 := cell_of_row _ _ 0 _ _ _ hbm
  clear hO hbo hbm hob hmb hne
  go_enter Tryd.func41, Tryd.ntmps41
  go_wp2_with (at_builtin; go_loud (refine wpList_push _ _ base _ xs y rfl rfl rfl rfl HO.out.1 (by omega) hbase ?_; intro v' w2 hO2 hb2; obtain ⟨A2, k2, hv⟩ := hO2.slice; rw [List.length_append, List.length_singleton] at hv; subst hv; have k0 := (hb2.block bo HI.out.1).trans HO.out.2.1; have k1 := (hb2.block bm HI.out.2.1).trans HO.out.2.2; have q0 := heap_of_setCell0 (v := .slice A2 (xs.length + 1) k2) k0; have q1 : (w2.setCell ⟨bo, 0, none⟩ (.slice A2 (xs.length + 1) k2)).heap[bm]? = some (.cells #[.int .i64 most] 3 (0, 0)) := (Below.heap_setCell w2 ⟨bo, 0, none⟩ _ bm (fun e => HI.out.2.2 e.symm)).trans k1; have HZ := Lib.hid (And.intro hO2 (And.intro hb2 (And.intro q0 q1))); have d0 := cell_of_row _ _ 0 _ _ _ k0; have d1 := frozen_of_row _ _ 0 _ _ k0; have d2 := cell_of_row _ _ 0 _ _ _ q0; have d3 := cell_of_row _ _ 0 _ _ _ q1; clear hO2 hb2 k0 k1 q0 q1))
  go_ret
  refine ⟨ret_b (by simp), ⟨_, HZ.out.2.2.1, own_kept HZ.out.1 (fun g hg => Below.heap_setCell w2 ⟨bo, 0, none⟩ _ g (fun e => ?_)), HZ.out.2.2.2, HI.out.1, HI.out.2.1, HI.out.2.2⟩, ((Kept.of_below (fun k => k = bo) HZ.out.2.1).setCell (p := ⟨bo, 0, none⟩) (fun _ => rfl) _)⟩
  have := own_ge HZ.out.1 hg
  have := HI.out.1
  dsimp only at e
  omega

/-- The elements of a node's list, as far as take wants them: a valid node. -/
theorem getD_take_succ (zs : List Int) (k : Nat) (hk : k < zs.length) : zs.take (k + 1) = zs.take k ++ [zs.getD k 0] := take_next zs k hk
set_option maxHeartbeats 4000000 in
theorem eachT_in (base bo bm b1 b2 ab N c c2 v : Nat) (most : Int) (B : Option Addr) (zs : List Int) (w : World) (hv : v < N) (hmost : 1 ≤ most)
    (h1 : w.cell? ⟨b1, 0, none⟩ = some (.int .i64 (v : Int))) (h2 : w.cell? ⟨b2, 0, none⟩ = some (.slice (some ⟨ab, 0, none⟩) N c)) (h3 : w.cell? ⟨ab, v, none⟩ = some (.slice B zs.length c2)) (hr : Rd w B zs.length zs)
    (hB : ∀ ad, B = some ad → 0 < zs.length → ad.block < base ∧ ¬ ad.block = bo) (hlen : zs.length ≤ 1000) (hT : TakeSt w base bo bm most []) (hbase : base ≤ w.heap.size) :
    Calls Tryd.prog 53 #[.func (.func 41) #[] #[.pointer (some ⟨bo, 0, none⟩), .pointer (some ⟨bm, 0, none⟩)], .pointer (some ⟨b1, 0, none⟩), .pointer (some ⟨b2, 0, none⟩)] w fun e w' => (∃ v, e = .returned v) ∧ TakeSt w' base bo bm most (zs.take most.toNat) ∧ Kept (fun k => k = bo) base w w' := by
  have hvn : decide ((v : Int) < 0) = false := decide_eq_false (by omega)
  have hvN : decide ((N : Int) ≤ (v : Int)) = false := decide_eq_false (by omega)
  have HT := Lib.hid hT
  have HRd := Lib.hid hr
  have HB := Lib.hid hB
  have hvN2 : decide (N ≤ v) = false := decide_eq_false (by omega)
  clear hT hr hB
  go_enter Tryd.func53, Tryd.ntmps53
  go_wp2_with fail
  go_loopw [19] (fun i wr => ∃ k : Nat, i = .int .i64 k ∧ k ≤ zs.length ∧ (k : Int) < most ∧ Hid (TakeSt wr base bo bm most (zs.take k)) ∧ Hid (Kept (fun k => k = bo) base w wr)) (fun i _ => zs.length - (RowKit.intOf i).toNat)
  case atStart => exact ⟨0, rfl, by omega, by omega, HT.out, Kept.refl _ _ _⟩
  case round =>
    obtain ⟨k, rfl, hk, hkm, hJ, hK⟩ := hrel
    clear h1 h2 h3 hvn hvN hvN2 hv
    by_cases hlt : k < zs.length
    · have hkI : (k : Int) < (zs.length : Int) := by omega
      obtain ⟨ad, rfl, hc⟩ := (hK.out.rd HRd.out HB.out).at_ hlt
      have HX := Lib.hid (take_next zs k hlt)
      have hw : base ≤ wr.heap.size := by have := hK.out.size; omega
      have htl : (zs.take k).length = k := by rw [List.length_take]; omega
      have hy := takeF_any wr base bo bm most (zs.take k) (zs.getD k 0) hJ.out (by omega) hw
      rw [htl] at hy
      have HY := Lib.hid hy
      generalize zs.getD k 0 = x at *
      clear hw htl hy
      go_wp2_with fail
      refine HY.out.mono ?_
      rintro e w2 ⟨rfl, hT2, hK2⟩
      rw [← HX.out] at hT2
      have HK2 := Lib.hid (And.intro (hK.out.trans hK2) hT2)
      clear hT2 hK2 HX HY hJ hK hc
      by_cases hm : ((k + 1 : Nat) : Int) < most
      · rw [decide_eq_true hm]
        go_wp2_with fail
        go_roundw
        case rel => exact ⟨k + 1, by go_num, by omega, hm, HK2.out.2, HK2.out.1⟩
        case measure => simp [RowKit.intOf]; omega
      · rw [decide_eq_false hm]
        go_wp2_with fail
        refine bodyPost_ret (results_none rfl _ _ _) rfl ?_
        have hk1 : most.toNat = k + 1 := by omega
        rw [hk1]
        exact ⟨⟨_, rfl⟩, HK2.out.2, HK2.out.1⟩
    · have hkI : ¬ (k : Int) < (zs.length : Int) := by omega
      have hend : zs.take k = zs.take most.toNat := by rw [List.take_of_length_le (by omega), List.take_of_length_le (by omega)]
      rw [hend] at hJ
      go_wp2_with fail
      go_end0
      exact ⟨⟨_, rfl⟩, hJ.out, hK.out⟩
/-- No node: nothing. -/
theorem eachT_out (base bo bm b1 b2 N c : Nat) (A : Option Addr) (most node : Int) (w : World) (hv : ¬ (0 ≤ node ∧ node < N)) (hN : N ≤ 1000000)
    (h1 : w.cell? ⟨b1, 0, none⟩ = some (.int .i64 node)) (h2 : w.cell? ⟨b2, 0, none⟩ = some (.slice A N c)) (hT : TakeSt w base bo bm most []) (zs : List Int) (hz : zs = []) :
    Calls Tryd.prog 53 #[.func (.func 41) #[] #[.pointer (some ⟨bo, 0, none⟩), .pointer (some ⟨bm, 0, none⟩)], .pointer (some ⟨b1, 0, none⟩), .pointer (some ⟨b2, 0, none⟩)] w fun e w' => (∃ v, e = .returned v) ∧ TakeSt w' base bo bm most (zs.take most.toNat) ∧ Kept (fun k => k = bo) base w w' := by
  subst hz
  have HT := Lib.hid hT
  clear hT
  by_cases h0 : node < 0
  · go_enter Tryd.func53, Tryd.ntmps53
    go_wp2_with fail
    refine bodyPost_ret (results_none rfl _ _ _) rfl ?_
    simp only [List.take_nil]
    exact ⟨⟨_, rfl⟩, HT.out, Kept.refl _ _ _⟩
  · have hn : (N : Int) ≤ node := by omega
    clear hv
    go_enter Tryd.func53, Tryd.ntmps53
    go_wp2_with fail
    refine bodyPost_ret (results_none rfl _ _ _) rfl ?_
    exact ⟨⟨_, rfl⟩, HT.out, Kept.refl _ _ _⟩
/-- take, of a sequence whose call is told for every way to gather. -/
theorem take_any (b1 b2 : Nat) (most : Int) (zs : List Int) (w : World) (hb1 : b1 < w.heap.size) (hb2 : b2 < w.heap.size)
    (hs : ∀ w' : World, Below w.heap.size w w' → TakeSt w' (w.heap.size + 2) (w.heap.size + 1) w.heap.size most [] → w.heap.size + 2 ≤ w'.heap.size →
      Calls Tryd.prog 53 #[.func (.func 41) #[] #[.pointer (some ⟨w.heap.size + 1, 0, none⟩), .pointer (some ⟨w.heap.size, 0, none⟩)], .pointer (some ⟨b1, 0, none⟩), .pointer (some ⟨b2, 0, none⟩)] w' fun e w2 => (∃ v, e = .returned v) ∧ TakeSt w2 (w.heap.size + 2) (w.heap.size + 1) w.heap.size most (zs.take most.toNat) ∧ Kept (fun k => k = w.heap.size + 1) (w.heap.size + 2) w' w2) :
    Calls Tryd.prog 22 #[.func (.func 53) #[] #[.pointer (some ⟨b1, 0, none⟩), .pointer (some ⟨b2, 0, none⟩)], .int .i64 most] w fun e w' => ∃ v, e = .returned v ∧ OwnI w' w.heap.size v (zs.take most.toNat) ∧ Below w.heap.size w w' := by
  have hmf : ∀ (fn : Fn) (first cap : Array Value) (w : World), (Instr.makeFunc fn first cap).run Tryd.prog w = .ok (.func fn first cap) w := fun _ _ _ _ => rfl
  have hb : Below w.heap.size w ((w.alloc (.cells #[.int .i64 most] 3)).alloc (.cells #[.slice none 0 0] 42)) := ((Below.refl w.heap.size w).alloc (Nat.le_refl _) _).alloc (by simp) _
  have k0 : ((w.alloc (.cells #[.int .i64 most] 3)).alloc (.cells #[.slice none 0 0] 42)).heap[w.heap.size + 1]? = some (.cells #[.slice none 0 0] 42 (0, 0)) := by
    have := heap_alloc_new (w.alloc (.cells #[.int .i64 most] 3)) (.cells #[.slice none 0 0] 42)
    simpa using this
  have k1 : ((w.alloc (.cells #[.int .i64 most] 3)).alloc (.cells #[.slice none 0 0] 42)).heap[w.heap.size]? = some (.cells #[.int .i64 most] 3 (0, 0)) :=
    (((Below.refl (w.heap.size + 1) (w.alloc (.cells #[.int .i64 most] 3))).alloc (by simp) _).block _ (by omega)).trans (heap_alloc_new w _)
  have hst : TakeSt ((w.alloc (.cells #[.int .i64 most] 3)).alloc (.cells #[.slice none 0 0] 42)) (w.heap.size + 2) (w.heap.size + 1) w.heap.size most [] :=
    ⟨_, k0, OwnI.nil _ _, k1, by omega, by omega, by omega⟩
  have HQ := Lib.hid (And.intro (hs _ hb hst (by simp)) hb)
  have hnf : ∀ w : World, Sem.run Tryd.prog (binOp BinOp.eql 46 (.func (.func 53) #[] #[.pointer (some ⟨b1, 0, none⟩), .pointer (some ⟨b2, 0, none⟩)]) .nilFunc) w = .ok (.bool false) w := fun _ => rfl
  clear hs hst k0 k1 hb
  go_enter Tryd.func22, Tryd.ntmps22
  go_wp2_with fail
  refine HQ.out.1.mono ?_
  rintro e w2 ⟨⟨v, rfl⟩, hT, hK⟩
  obtain ⟨v2, hb2, hO, _⟩ := hT
  have HO := Lib.hid (And.intro hO hK)
  have c0 := cell_of_row _ _ 0 _ _ _ hb2
  clear hO hK hb2
  go_wp2_with fail
  go_ret
  exact ⟨_, rfl, own_mono HO.out.1 (by omega), HQ.out.2.trans (HO.out.2.below (m := w.heap.size) (by omega) (fun k hk => by omega))⟩
end Go.Proofs.YtabciepnbmliiaaDoor
