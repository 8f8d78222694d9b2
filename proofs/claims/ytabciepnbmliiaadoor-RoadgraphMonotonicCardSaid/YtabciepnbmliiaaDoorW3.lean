/- The reference: Wrong. -/
import Derived.Test.YtabciepnbmliiaaDoorW2
set_option linter.unusedVariables false
set_option maxRecDepth 100000
set_option linter.unusedSimpArgs false
namespace Go.Proofs.YtabciepnbmliiaaDoor
open Go.RowKit Go.Lib Rg

theorem run_load_list (w : World) (T : TypeId) (p : Addr) (cs : List Value) (hagg : (isAgg T).run Tryd.prog w = .ok true w) (hsz : (sizeOf T).run Tryd.prog w = .ok cs.length w) (hc : ∀ j v, cs[j]? = some v → w.cell? (p.add j) = some v) : (loadVar T p).run Tryd.prog w = .ok (.agg cs.toArray) w := by
  have hl : (loadCells p cs.length).run Tryd.prog w = .ok cs.toArray w := run_loadCells_list (P := Tryd.prog) w p cs hc
  simp [loadVar, Sem.run_bind, hagg, hsz, hl]
theorem wpList_load_list {ops : Array Oper} {rest : List Oper} {o : Oper} {a : Act} {w : World} {Q : Exit → Act → World → Prop} (hgd : o.guard = none) (T : TypeId) (x : Operand) (ho : o.op = .load T x) (p : Addr) (hx : a.eval x = .pointer (some p)) (cs : List Value)
    (hr : (loadVar T p).run Tryd.prog w = .ok (.agg cs.toArray) w) (h : wpList Tryd.prog ops Q rest (a.put o.dst (.agg cs.toArray)) w) : wpList Tryd.prog ops Q (o :: rest) a w :=
  wpList_plain hgd fun K hK => by
    unfold Oper.wp execOp
    simp only [ho, hx, Instr.loadAt, Instr.sureAddr, Sem.run_bind, Sem.run_pure, Result.andThen_ok, hr]
    exact hK _ _ h
theorem load_edge {w : World} {p : Addr} {e : Ed3} (h : T3 w p e) : (loadVar 35 p).run Tryd.prog w = .ok (.agg #[.int .i64 e.1, .int .i64 e.2.1, .int .i64 e.2.2]) w :=
  run_load_list w 35 p [.int .i64 e.1, .int .i64 e.2.1, .int .i64 e.2.2] (by kernel_rfl) (by kernel_rfl) fun j v hv => by
    match j, hv with
    | 0, hv => simp at hv; subst hv; rw [add_zero']; exact h.1
    | 1, hv => simp at hv; subst hv; exact h.2.1
    | 2, hv => simp at hv; subst hv; exact h.2.2
    | j + 3, hv => simp at hv
theorem wrong_at {N : Int} {l : List Ed3} {k : Nat} (hN : 1 ≤ N) (hM : N ≤ 4096) (hl : l.length ≤ 16384) (hk : k < l.length) {e : Ed3} (he : l.getD k (0, 0, 0) = e) (hb : edgeOk N e = false) : wrong N l = 1 := by
  unfold wrong
  rw [if_neg (by omega), if_neg (by omega), if_pos]
  rw [List.all_eq_false]
  exact ⟨e, he ▸ getD_mem_e l k hk, by rw [hb]; simp⟩
theorem wrong_none {N : Int} {l : List Ed3} (hN : 1 ≤ N) (hM : N ≤ 4096) (hl : l.length ≤ 16384) (ha : l.all (edgeOk N) = true) : wrong N l = 0 := by
  unfold wrong
  rw [if_neg (by omega), if_neg (by omega), if_neg (by rw [ha]; simp)]
set_option maxHeartbeats 2000000 in
theorem rwrong_any (A : Option Addr) (c n : Nat) (l : List Ed3) (N : Int) (w : World) (hr : Re w A n l) (hn : n ≤ 9223372036854775807) :
    Calls Tryd.prog 12 #[.int .i64 N, .slice A n c] w fun e w' => e = .returned (.int .i64 (wrong N l)) ∧ Below w.heap.size w w' := by
  have hl1 : n ≤ l.length := Nat.le_of_eq hr.1
  have hl2 : l.length ≤ n := Nat.le_of_eq hr.1.symm
  by_cases t1 : N < 1
  · have hw := Lib.hid (show wrong N l = 1 from by unfold wrong; rw [if_pos (.inl t1)])
    clear hr
    go_enter Tryd.func12, Tryd.ntmps12
    go_wp2
    go_ret
    exact ⟨ret_i hw.out.symm, Below.refl _ _⟩
  by_cases t2 : 4096 < N
  · have hw := Lib.hid (show wrong N l = 1 from by unfold wrong; rw [if_pos (.inr t2)])
    clear hr
    go_enter Tryd.func12, Tryd.ntmps12
    go_wp2
    go_ret
    exact ⟨ret_i hw.out.symm, Below.refl _ _⟩
  by_cases t3 : (16384 : Int) < (n : Int)
  · have hw := Lib.hid (show wrong N l = 3 from by unfold wrong; rw [if_neg (by omega), if_pos (by omega)])
    clear hr
    go_enter Tryd.func12, Tryd.ntmps12
    go_wp2
    go_ret
    exact ⟨ret_i hw.out.symm, Below.refl _ _⟩
  go_enter Tryd.func12, Tryd.ntmps12
  go_wp2
  go_loopw [5] (fun i w' => ∃ k : Nat, i = .int .i64 k ∧ k ≤ n ∧ (l.take k).all (edgeOk N) = true ∧ Below w.heap.size w w') (fun i _ => n - (RowKit.intOf i).toNat)
  case atStart => exact ⟨0, rfl, by omega, by simp, Below.refl _ _⟩
  case round =>
    obtain ⟨k, rfl, hk, hall, hb⟩ := hrel
    have hA := Lib.hid hall
    clear hall
    by_cases hlt : k < n
    · obtain ⟨ad, rfl, h3⟩ := (hr.below hb).at_ hlt
      obtain ⟨hc0, hc1, hc2⟩ := h3
      have hs := Lib.hid (take_next_e l k (by omega))
      have hbad := Lib.hid (fun (hb : edgeOk N (l.getD k (0, 0, 0)) = false) => wrong_at (N := N) (l := l) (k := k) (by omega) (by omega) (by omega) (by omega) rfl hb)
      generalize l.getD k (0, 0, 0) = x at hc0 hc1 hc2 hs hbad
      obtain ⟨x0, x1, x2⟩ := x
      have hgen := Lib.hid (show edgeOk N (x0, x1, x2) = (decide (0 ≤ x0) && decide (x0 < N) && decide (0 ≤ x1) && decide (x1 < N) && (decide (x2 = inf) || decide (1 ≤ x2) && decide (x2 ≤ 1048576))) from rfl)
      have hb1 := Lib.hid (hb.alloc hb.size (.cells #[.int .i64 x0, .int .i64 x1, .int .i64 x2] 35))
      have e0 : wr.cell? (ad.add (k * 3)) = some (.int .i64 x0) := hc0
      have e1 : wr.cell? ⟨(ad.add (k * 3)).block, (ad.add (k * 3)).off + 1, none⟩ = some (.int .i64 x1) := hc1
      have e2 : wr.cell? ⟨(ad.add (k * 3)).block, (ad.add (k * 3)).off + 2, none⟩ = some (.int .i64 x2) := hc2
      clear hr hc0 hc1 hc2 hb
      by_cases u1 : x0 < 0
      · have hw := Lib.hid (hbad.out (by rw [hgen.out]; rw [decide_eq_false (show ¬ 0 ≤ x0 from by omega)]; simp))
        clear hgen hbad
        go_wp2_with fail
        go_ret
        exact ⟨ret_i hw.out.symm, hb1.out⟩
      by_cases u2 : N ≤ x0
      · have hw := Lib.hid (hbad.out (by rw [hgen.out]; rw [decide_eq_false (show ¬ x0 < N from by omega)]; simp))
        clear hgen hbad
        go_wp2_with fail
        go_ret
        exact ⟨ret_i hw.out.symm, hb1.out⟩
      by_cases u3 : x1 < 0
      · have hw := Lib.hid (hbad.out (by rw [hgen.out]; rw [decide_eq_false (show ¬ 0 ≤ x1 from by omega)]; simp))
        clear hgen hbad
        go_wp2_with fail
        go_ret
        exact ⟨ret_i hw.out.symm, hb1.out⟩
      by_cases u4 : N ≤ x1
      · have hw := Lib.hid (hbad.out (by rw [hgen.out]; rw [decide_eq_false (show ¬ x1 < N from by omega)]; simp))
        clear hgen hbad
        go_wp2_with fail
        go_ret
        exact ⟨ret_i hw.out.symm, hb1.out⟩
      by_cases u5 : x2 = 4611686018427387904
      · have hw := Lib.hid (show edgeOk N (x0, x1, x2) = true from by rw [hgen.out, decide_eq_true (show 0 ≤ x0 from by omega), decide_eq_true (show x0 < N from by omega), decide_eq_true (show 0 ≤ x1 from by omega), decide_eq_true (show x1 < N from by omega)]; rw [decide_eq_true u5]; simp)
        clear hgen hbad
        have u6 : (x2 != 4611686018427387904) = false := by simp [u5]
        clear u5
        go_wp2_with fail
        go_roundw
        case rel => exact ⟨k + 1, by go_num, by omega, by rw [hs.out, List.all_append, hA.out]; simpa using hw.out, hb1.out⟩
        case measure => simp [RowKit.intOf]; omega
      have u6 : (x2 != 4611686018427387904) = true := by simp [u5]
      by_cases u7 : x2 < 1
      · have hw := Lib.hid (hbad.out (by rw [hgen.out]; rw [decide_eq_false u5, decide_eq_false (show ¬ 1 ≤ x2 from by omega)]; simp))
        clear hgen hbad u5
        go_wp2_with fail
        go_ret
        exact ⟨ret_i hw.out.symm, hb1.out⟩
      by_cases u8 : 1048576 < x2
      · have hw := Lib.hid (hbad.out (by rw [hgen.out]; rw [decide_eq_false u5, decide_eq_false (show ¬ x2 ≤ 1048576 from by omega)]; simp))
        clear hgen hbad u5
        go_wp2_with fail
        go_ret
        exact ⟨ret_i hw.out.symm, hb1.out⟩
      have hw := Lib.hid (show edgeOk N (x0, x1, x2) = true from by rw [hgen.out, decide_eq_true (show 0 ≤ x0 from by omega), decide_eq_true (show x0 < N from by omega), decide_eq_true (show 0 ≤ x1 from by omega), decide_eq_true (show x1 < N from by omega)]; rw [decide_eq_true (show 1 ≤ x2 from by omega), decide_eq_true (show x2 ≤ 1048576 from by omega)]; simp)
      clear hgen hbad
      clear u5
      go_wp2_with fail
      go_roundw
      case rel => exact ⟨k + 1, by go_num, by omega, by rw [hs.out, List.all_append, hA.out]; simpa using hw.out, hb1.out⟩
      case measure => simp [RowKit.intOf]; omega
    · have hw := Lib.hid (wrong_none (N := N) (l := l) (by omega) (by omega) (by omega) (by have := hA.out; rwa [List.take_of_length_le (by omega)] at this))
      clear hr
      go_wp2
      go_ret
      exact ⟨ret_i hw.out.symm, hb⟩
end Go.Proofs.YtabciepnbmliiaaDoor
