/- The reference: Has, Same, Out, Back, In. -/
import Derived.Test.YtabciepnbmliiaaDoorW1
set_option linter.unusedVariables false
set_option maxRecDepth 100000
set_option linter.unusedSimpArgs false
namespace Go.Proofs.YtabciepnbmliiaaDoor
open Go.RowKit Go.Lib Rg

theorem rhas_any (A : Option Addr) (c n : Nat) (xs : List Int) (y : Int) (w : World) (hr : Rd w A n xs) (hn : n ≤ 9223372036854775807) :
    Calls Tryd.prog 47 #[.slice A n c, .int .i64 y] w fun e w' => e = .returned (.bool (decide (y ∈ xs))) ∧ w = w' := by
  have hl1 : n ≤ xs.length := Nat.le_of_eq hr.1
  have hl2 : xs.length ≤ n := Nat.le_of_eq hr.1.symm
  go_enter Tryd.func47, Tryd.ntmps47
  go_wp2
  go_loop [5] (fun i => ∃ k : Nat, i = .int .i64 k ∧ k ≤ n ∧ y ∉ xs.take k) (fun i => n - (RowKit.intOf i).toNat)
  case atStart => exact ⟨0, rfl, by omega, by simp⟩
  case round =>
    obtain ⟨k, rfl, hk, hno⟩ := hrel
    by_cases hlt : k < n
    · obtain ⟨ad, rfl, hc⟩ := hr.at_ hlt
      have ht := take_next xs k (by omega)
      have hm : xs.getD k 0 ∈ xs := by rw [List.getD_eq_getElem?_getD, List.getElem?_eq_getElem (by omega)]; simp
      generalize xs.getD k 0 = x at hc ht hm
      have HT := Lib.hid ht; clear ht
      have HM := Lib.hid hm; clear hm
      have HN := Lib.hid hno; clear hno
      clear hr
      by_cases hx : x = y
      · subst hx
        go_wp2
        go_ret
        exact ⟨ret_b (by simpa using HM.out), rfl⟩
      · have hxb : (x == y) = false := by simpa using hx
        go_wp2
        go_round
        case rel =>
          refine ⟨k + 1, by go_num, by omega, ?_⟩
          rw [HT.out, List.mem_append, List.mem_singleton]
          rintro (h | h)
          · exact HN.out h
          · exact hx h.symm
        case measure => simp [RowKit.intOf]; omega
    · have HN := Lib.hid hno; clear hno
      clear hr
      go_wp2
      go_ret
      refine ⟨ret_b ?_, rfl⟩
      have := HN.out
      rw [List.take_of_length_le (by omega)] at this
      simpa using this

theorem rsame_any (A B : Option Addr) (c d n m : Nat) (xs ys : List Int) (w : World) (hr : Rd w A n xs) (hs : Rd w B m ys) (hn : n ≤ 9223372036854775807) (hm : m ≤ 9223372036854775807) :
    Calls Tryd.prog 21 #[.slice A n c, .slice B m d] w fun e w' => e = .returned (.bool (decide (xs = ys))) ∧ Below w.heap.size w w' := by
  have hl1 : n ≤ xs.length := Nat.le_of_eq hr.1
  have hl2 : xs.length ≤ n := Nat.le_of_eq hr.1.symm
  have hm1 : m ≤ ys.length := Nat.le_of_eq hs.1
  have hm2 : ys.length ≤ m := Nat.le_of_eq hs.1.symm
  by_cases hnm : n = m
  · obtain rfl : m = n := hnm.symm
    go_enter Tryd.func21, Tryd.ntmps21
    go_wp2
    go_loopw [5] (fun i w' => ∃ k : Nat, i = .int .i64 k ∧ k ≤ m ∧ xs.take k = ys.take k ∧ Below w.heap.size w w') (fun i _ => m - (RowKit.intOf i).toNat)
    case atStart => exact ⟨0, rfl, by omega, by simp, Below.refl _ _⟩
    case round =>
      obtain ⟨k, rfl, hk, he, hb⟩ := hrel
      have HE := Lib.hid he; clear he
      by_cases hlt : k < m
      · obtain ⟨ad, rfl, hc⟩ := (hr.below hb).at_ hlt
        obtain ⟨bd, rfl, hd⟩ := (hs.below hb).at_ hlt
        have ht := take_next xs k (by omega)
        have hu := take_next ys k (by omega)
        have hX : xs.getD k 0 = xs[k]'(by omega) := by rw [List.getD_eq_getElem?_getD, List.getElem?_eq_getElem (by omega)]; rfl
        have hY : ys.getD k 0 = ys[k]'(by omega) := by rw [List.getD_eq_getElem?_getD, List.getElem?_eq_getElem (by omega)]; rfl
        generalize hx : xs.getD k 0 = x at hc ht hX
        generalize hy : ys.getD k 0 = y at hd hu hY
        have HT := Lib.hid ht; clear ht
        have HU := Lib.hid hu; clear hu
        have HX := Lib.hid hX; clear hX
        have HY := Lib.hid hY; clear hY
        clear hr hs hx hy
        by_cases hxy : x = y
        · subst hxy
          go_wp2
          go_quiet (fail)
          go_wp2
          go_roundw
          case rel => exact ⟨k + 1, by go_num, by omega, by rw [HT.out, HU.out, HE.out], hb.trans (below_drewN (Below.refl _ _) _)⟩
          case measure => simp [RowKit.intOf]; omega
        · have hxb : (x != y) = true := by simpa using hxy
          go_wp2
          go_quiet (fail)
          go_wp2
          go_ret
          refine ⟨ret_b ?_, hb.trans (below_drewN (Below.refl _ _) _)⟩
          symm
          rw [decide_eq_false_iff_not]
          intro e
          subst e
          exact hxy (HX.out.trans HY.out.symm)
      · clear hr hs
        go_wp2
        go_ret
        refine ⟨ret_b ?_, hb⟩
        have := HE.out
        rw [List.take_of_length_le (by omega), List.take_of_length_le (by omega)] at this
        simpa using this
  · have hnb : ((n : Int) != (m : Int)) = true := by simp; omega
    have hne : xs ≠ ys := fun e => by subst e; omega
    have HE := Lib.hid hne; clear hne
    go_enter Tryd.func21, Tryd.ntmps21
    go_wp2
    go_ret
    exact ⟨ret_b (by simpa using HE.out), Below.refl _ _⟩


theorem rout_any (A : Option Addr) (c n : Nat) (l : List Ed3) (node : Int) (w : World) (hr : Re w A n l) (hn : n ≤ 100000) :
    Calls Tryd.prog 19 #[.slice A n c, .int .i64 node] w (Gives w (outs l node)) := by
  have hl1 : n ≤ l.length := Nat.le_of_eq hr.1
  have hl2 : l.length ≤ n := Nat.le_of_eq hr.1.symm
  have hfin := Lib.hid (show outsTo l node n = outs l node from by unfold outs; rw [hr.1])
  go_enter Tryd.func19, Tryd.ntmps19
  go_wp2
  go_loopw [5, 6] (fun v i w' => ∃ k : Nat, i = .int .i64 k ∧ k ≤ n ∧ OwnI w' w.heap.size v (outsTo l node k) ∧ Below w.heap.size w w') (fun _ i _ => n - (RowKit.intOf i).toNat)
  case atStart => exact ⟨0, rfl, by omega, OwnI.nil _ _, Below.refl _ _⟩
  case round =>
    obtain ⟨k, rfl, hk, hown, hb⟩ := hrel
    have hz := hb.size
    by_cases hlt : k < n
    · obtain ⟨ad, rfl, hc, _, _⟩ := (hr.below hb).at_ hlt
      have hs := Lib.hid (outsTo_succ l node k)
      have hlen := outsTo_length l node k
      generalize l.getD k (0, 0, 0) = x at hc hs
      obtain ⟨x0, x1, x2⟩ := x
      generalize outsTo l node k = L at hown hs hlen
      by_cases hx : x0 = node
      · subst hx
        have HS : Hid (outsTo l x0 (k + 1) = L ++ [(k : Int)]) := Lib.hid (by rw [hs.out, if_pos rfl])
        clear hr hs
        go_wp2_with (at_builtin; refine wpList_push _ _ w.heap.size _ _ _ rfl rfl rfl rfl hown (by omega) (by omega) ?_; intro v2 w2 hown2 hb2)
        go_roundw
        case rel => exact ⟨k + 1, by go_num, by omega, by rw [HS.out]; exact hown2, hb.trans hb2⟩
        case measure => simp [RowKit.intOf]; omega
      · have hxb : (x0 == node) = false := by simpa using hx
        have HS : Hid (outsTo l node (k + 1) = L) := Lib.hid (by rw [hs.out, if_neg hx])
        clear hr hs
        go_wp2
        go_roundw
        case rel => exact ⟨k + 1, by go_num, by omega, by rw [HS.out]; exact hown, hb⟩
        case measure => simp [RowKit.intOf]; omega
    · obtain rfl : k = n := by omega
      clear hr
      go_wp2
      go_ret
      have := hown.gives hb
      rw [hfin.out] at this
      exact this

theorem row_new (w : World) (T : TypeId) (cs : List Value) : ∀ j u, cs[j]? = some u → (w.alloc (.cells cs.toArray T)).cell? ⟨w.heap.size, j, none⟩ = some u := fun j u hj => by
  rw [cell_of_row _ _ j _ _ _ (heap_alloc_new w _)]; simpa using hj
theorem one3 (a b c : Int) : ∀ u ∈ [Value.int .i64 a, .int .i64 b, .int .i64 c], u.oneCell' = true := by simp [Value.oneCell']
theorem OwnE.push {w' : World} {base : Nat} {v' : Value} {l : List Ed3} {x : Ed3} (h : w'.ownsRow base 35 3 v' (l.length + 1) (ecs l ++ [.int .i64 x.1, .int .i64 x.2.1, .int .i64 x.2.2])) : OwnE w' base v' (l ++ [x]) := by
  unfold OwnE ecs
  rw [List.length_append, List.flatMap_append]
  exact h
set_option maxHeartbeats 1000000 in
theorem rback_any (A : Option Addr) (c n : Nat) (l : List Ed3) (w : World) (hr : Re w A n l) (hn : n ≤ 100000) :
    Calls Tryd.prog 40 #[.slice A n c] w fun e w' => ∃ A' c', e = .returned (.slice A' (back l).length c') ∧ Re w' A' (back l).length (back l) ∧ Below w.heap.size w w' := by
  have hl1 : n ≤ l.length := Nat.le_of_eq hr.1
  have hl2 : l.length ≤ n := Nat.le_of_eq hr.1.symm
  have hfin := Lib.hid (show back (l.take n) = back l from by rw [List.take_of_length_le hl2])
  go_enter Tryd.func40, Tryd.ntmps40
  go_wp2
  go_loopw [3, 4] (fun v i w' => ∃ k : Nat, i = .int .i64 k ∧ k ≤ n ∧ OwnE w' w.heap.size v (back (l.take k)) ∧ Below w.heap.size w w') (fun _ i _ => n - (RowKit.intOf i).toNat)
  case atStart => exact ⟨0, rfl, by omega, OwnE.nil _ _, Below.refl _ _⟩
  case round =>
    obtain ⟨k, rfl, hk, hown, hb⟩ := hrel
    have hz := hb.size
    by_cases hlt : k < n
    · obtain ⟨ad, rfl, hc0, hc1, hc2⟩ := (hr.below hb).at_ hlt
      have hs := Lib.hid (back_take l k (by omega))
      have hlen : (back (l.take k)).length ≤ n := by unfold back; rw [List.length_map, List.length_take]; omega
      generalize l.getD k (0, 0, 0) = x at hc0 hc1 hc2 hs
      obtain ⟨x0, x1, x2⟩ := x
      generalize back (l.take k) = L at hown hs hlen
      have e0 : wr.drew.cell? (ad.add (k * 3)) = some (.int .i64 x0) := hc0
      have e1 : wr.drew.cell? ⟨(ad.add (k * 3)).block, (ad.add (k * 3)).off + 1, none⟩ = some (.int .i64 x1) := hc1
      have e2 : wr.drew.cell? ⟨(ad.add (k * 3)).block, (ad.add (k * 3)).off + 2, none⟩ = some (.int .i64 x2) := hc2
      obtain ⟨vA, vc, rfl⟩ := hown.slice
      have hO := Lib.hid (show (wr.drew.alloc (.cells #[.int .i64 x1, .int .i64 x0, .int .i64 x2] 35)).ownsRow w.heap.size 35 3 (.slice vA L.length vc) L.length (ecs L) from World.ownsRow.alloc (own_below hown ((Below.refl _ _).drew)) _)
      have hbA := Lib.hid (show Below w.heap.size w (wr.drew.alloc (.cells #[.int .i64 x1, .int .i64 x0, .int .i64 x2] 35)) from hb.drew.alloc hz _)
      have hsz : w.heap.size ≤ (wr.drew.alloc (.cells #[.int .i64 x1, .int .i64 x0, .int .i64 x2] 35)).heap.size := hbA.out.size
      have hsz' := Lib.hid hsz
      have hL63 := Lib.hid (show L.length ≤ 10000000 from by omega)
      clear hr hown hc0 hc1 hc2 hb hsz
      go_wp2_with fail
      go_region_law (refine step_append1 rfl _ _ 22 35 rfl 3 24 _ Tryd.underlying22 info_edge rfl (by decide) (by decide) w.heap.size (.slice vA L.length vc) L.length (ecs L) rfl hO.out wr.drew.heap.size rfl [.int .i64 x1, .int .i64 x0, .int .i64 x2] rfl (row_new wr.drew 35 [.int .i64 x1, .int .i64 x0, .int .i64 x2]) (one3 x1 x0 x2) hL63.out hsz'.out ?_; intro v2 w2 hO2 hg2 _)
      all_goals (
        have hP : OwnE w2 w.heap.size v2 (L ++ [turn (x0, x1, x2)]) := OwnE.push (x := (x1, x0, x2)) hO2
        have hB2 : Below w.heap.size w w2 := hbA.out.grown hg2 hsz'.out (fun k hk => (World.ownsRow.lt hO.out k hk).1)
        have HP := Lib.hid hP
        have HB := Lib.hid hB2
        clear hP hB2 hO2 hg2
        go_wp2_with fail
        go_roundw
        case rel => exact ⟨k + 1, by go_num, by omega, by rw [hs.out]; exact HP.out, HB.out⟩
        case measure => simp [RowKit.intOf]; omega)
    · obtain rfl : k = n := by omega
      clear hr
      go_wp2
      go_ret
      obtain ⟨vA, vc, rfl⟩ := hown.slice
      rw [hfin.out] at hown ⊢
      exact ⟨_, _, rfl, hown.re, hb⟩

theorem rin_any (A : Option Addr) (c n : Nat) (l : List Ed3) (node : Int) (w : World) (hr : Re w A n l) (hn : n ≤ 100000) :
    Calls Tryd.prog 20 #[.slice A n c, .int .i64 node] w (Gives w (outs (back l) node)) := by
  have hlb : (back l).length ≤ 100000 := by unfold back; rw [List.length_map]; have := hr.1; omega
  have HB := Lib.hid (rback_any A c n l w hr hn)
  have HO := Lib.hid (fun (A' : Option Addr) (c' : Nat) (w' : World) (h : Re w' A' (back l).length (back l)) => rout_any A' c' _ (back l) node w' h hlb)
  clear hr
  go_enter Tryd.func20, Tryd.ntmps20
  go_wp2_with (first | (go_at_call 40; refine HB.out.mono ?_; rintro e w1 ⟨A', c', rfl, h1, b1⟩) | (go_at_call 19; refine (HO.out A' c' w1 h1).mono ?_; rintro e w2 ⟨A2, c2, rfl, h2, b2⟩))
  go_ret
  exact ⟨_, _, rfl, h2, then_ b1 b2⟩
end Go.Proofs.YtabciepnbmliiaaDoor
