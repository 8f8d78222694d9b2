/- The code: readWords, readLine, mayFollow. -/
import Derived.Test.YtjklpikopgihgaaGreatDoorKD
set_option linter.unusedVariables false
set_option maxRecDepth 100000
set_option linter.unusedSimpArgs false
namespace Go.Proofs.YtjklpikopgihgaaGreatDoor
open Go.RowKit Go.Lib Cf

theorem find_first {p : Nat → Bool} : ∀ (n s k : Nat), s ≤ k → k < s + n → p k = true → (∀ j, s ≤ j → j < k → p j = false) → (List.range' s n).find? p = some k
  | 0, s, k, h1, h2, _, _ => by omega
  | n + 1, s, k, h1, h2, hp, hno => by
    rw [List.range'_succ]
    by_cases e : s = k
    · subst e; rw [List.find?_cons_of_pos hp]
    · rw [List.find?_cons_of_neg (by rw [hno s (Nat.le_refl _) (by omega)]; decide)]
      exact find_first n (s + 1) k (by omega) (by omega) hp fun j hj1 hj2 => hno j (by omega) hj2
theorem paramOf_at {k : Nat} (hk : k < 10) {x : Bs} (h : word k = x) (hno : ∀ j, j < k → word j ≠ x) : paramOf x = k := by
  unfold paramOf
  rw [List.range_eq_range', find_first 10 0 k (by omega) (by omega) (by simp [h]) fun j _ hj => by simp [hno j hj]]
  rfl
theorem paramOf_none {x : Bs} (hno : ∀ j, j < 10 → word j ≠ x) : paramOf x = 10 := by
  unfold paramOf
  rw [List.find?_eq_none.2 fun j hj => by simp [hno j (by simpa using hj)]]
  rfl
set_option maxHeartbeats 8000000 in
theorem rw_rest (B gc gw : Nat) (c : Cfg) (r : List Bs) (b : Bool) (w : World)
    (C : CfP w B gc c) (H : WdP w gw r b) (hBw : B ≤ gw) (hB9 : 9 ≤ B) (hE : Env w) (hr : Wl r) (x1 : hd r ≠ wdCentres) (x2 : hd r ≠ wdNode) (x3 : hd r ≠ wdEdge) (x4 : hd r ≠ wdUnit) (x5 : hd r ≠ wdPlan) :
    Calls Tryz.prog 87 #[.pointer (some ⟨gc, 0, none⟩), .pointer (some ⟨gw, 0, none⟩)] w (RwPost B gc gw c r b w) := by
  unfold RwPost
  have HX := Lib.hid (next_any B gw r b w H hBw hr.1)
  have hr1 := Lib.hid hr.tl
  have hE' := Lib.hid hE
  have hm := Lib.hid (show mWords c (r, b) = if paramOf (hd r) < 10 then (setN c (paramOf (hd r)) (mNum (tl r, b)).1, 6 + (paramOf (hd r) : Int), (mNum (tl r, b)).2) else (c, 0, (tl r, b)) from by unfold mWords; simp only; rw [if_neg x1, if_neg x2, if_neg x3, if_neg x4, if_neg x5])
  have C' := Lib.hid C
  generalize hd r = x at *
  generalize tl r = r1 at *
  have t1 : (x == [99, 101, 110, 116, 114, 101, 115]) = false := by rw [beq_eq_false_iff_ne]; exact x1
  have t2 : (x == [110, 111, 100, 101]) = false := by rw [beq_eq_false_iff_ne]; exact x2
  have t3 : (x == [101, 100, 103, 101]) = false := by rw [beq_eq_false_iff_ne]; exact x3
  have t4 : (x == [117, 110, 105, 116]) = false := by rw [beq_eq_false_iff_ne]; exact x4
  have t5 : (x == [112, 108, 97, 110]) = false := by rw [beq_eq_false_iff_ne]; exact x5
  have hEw := hE
  clear hE H C x1 x2 x3 x4 x5
  go_enter Tryz.func87, Tryz.ntmps87
  go_wp2_with fail
  refine HX.out.mono ?_
  rintro e w1 ⟨rfl, L1⟩
  have hE1 := Lib.hid (hE'.out.keep (L1.bel.mono hB9))
  have L1' := Lib.hid L1
  have C1' := Lib.hid (C'.out.words L1.kt)
  clear L1 HX hE'
  go_wp2_with fail
  refine (parameters_any w1).mono ?_
  rintro e w2 ⟨Aq, cq, rfl, hPs, _, b2⟩
  have hPs' := Lib.hid hPs
  have L2 := Lib.hid (L1'.out.below hBw b2)
  have C2 := Lib.hid (C1'.out.below b2)
  have hE2 := Lib.hid (hE1.out.of b2)
  clear hPs b2 t1 t2 t3 t4 t5
  go_wp2_with fail
  go_loopw [87] (fun i w' => ∃ k : Nat, i = .int .i64 (k : Int) ∧ k ≤ 10 ∧ (∀ j, j < k → word j ≠ x) ∧ Below w2.heap.size w2 w') (fun i _ => 10 - (RowKit.intOf i).toNat)
  case atStart => exact ⟨0, rfl, by omega, fun j hj => absurd hj (by omega), Below.refl _ _⟩
  case round =>
    obtain ⟨k, rfl, hk, hno, hB⟩ := hrel
    have hno' := Lib.hid hno
    have hB' := Lib.hid hB
    clear hno hB
    by_cases hlt : k < 10
    · have e1 : (k : Int) < 10 := by omega
      have e2 : (0 : Int) ≤ (k : Int) := by omega
      have hle := (hPs'.out.below hB'.out).load hlt
      obtain ⟨nm, hnm⟩ : ∃ nm, word k = nm := ⟨_, rfl⟩
      obtain ⟨lo, hi, hb⟩ : ∃ lo hi, bounds k = (lo, hi) := ⟨_, _, rfl⟩
      obtain ⟨gf, hgf⟩ : ∃ gf, getF k = gf := ⟨_, rfl⟩
      obtain ⟨pf, hpf⟩ : ∃ pf, putF k = pf := ⟨_, rfl⟩
      have hnm' := Lib.hid hnm
      have hrun : ∀ args w, Sem.run Tryz.prog (callFunc pf args) w = Result.ok (Next.enter pf args) w := fun args w => by rw [← hpf]; exact run_putF k hlt args w
      have HP := Lib.hid (fun (z : Int) (w' : World) (h : CfP w' B gc c) => show Calls Tryz.prog pf #[.pointer (some ⟨gc, 0, none⟩), .int .i64 z] w' (fun e w'' => (∃ u, e = .returned u) ∧ CfP w'' B gc (setN c k z) ∧ Below B w' w'' ∧ Kt cfgTs w' w'') from hpf ▸ put_any k hlt B gc c z w' h)
      unfold parCells at hle
      rw [hnm, hb, hgf, hpf] at hle
      simp only at hle
      clear hnm hb hgf hpf
      have hnew := heap_alloc_new wr (.cells #[.string ⟨nm.toArray⟩, .int .i64 lo, .int .i64 hi, .func (.func gf) #[] #[], .func (.func pf) #[] #[]] 67)
      have hBa : Below wr.heap.size wr (wr.alloc (.cells #[.string ⟨nm.toArray⟩, .int .i64 lo, .int .i64 hi, .func (.func gf) #[] #[], .func (.func pf) #[] #[]] 67)) := (Below.refl _ _).alloc (Nat.le_refl _) _
      have BV := Lib.hid (then_ hB'.out hBa)
      have x0 : (wr.alloc (.cells #[.string ⟨nm.toArray⟩, .int .i64 lo, .int .i64 hi, .func (.func gf) #[] #[], .func (.func pf) #[] #[]] 67)).cell? ⟨wr.heap.size, 0, none⟩ = some (.string ⟨nm.toArray⟩) := by rw [cell_of_row _ _ 0 _ _ _ hnew]; rfl
      have hnew' := Lib.hid hnew
      clear hnew hBa
      by_cases q : nm = x
      · have t1 : (nm == x) = true := by simp [q]
        have t2 : (nm != x) = false := by simp [q]
        have hpo := paramOf_at hlt (hnm'.out.trans q) hno'.out
        have hm := Lib.hid (show mWords c (r, b) = (setN c k (mNum (r1, b)).1, 6 + (k : Int), (mNum (r1, b)).2) from by rw [hm.out, hpo, if_pos hlt])
        have H1 := Lib.hid (fun w' (h : Left B gw r1 b w w') => number_any B gw r1 b w' h.wd hBw hB9 (hEw.keep (h.bel.mono hB9)) hr1.out)
        obtain ⟨z, s1, s2, hz⟩ : ∃ z s1 s2, mNum (r1, b) = (z, (s1, s2)) := ⟨_, _, _, rfl⟩
        rw [hz] at hm H1
        clear q hz hpo
        go_wp2_with (refine wpList_load_list rfl 67 _ rfl (Aq.add (k * 5)) rfl [.string ⟨nm.toArray⟩, .int .i64 lo, .int .i64 hi, .func (.func gf) #[] #[], .func (.func pf) #[] #[]] hle ?_)
        clear hle x0
        generalize wr.alloc (.cells #[.string ⟨nm.toArray⟩, .int .i64 lo, .int .i64 hi, .func (.func gf) #[] #[], .func (.func pf) #[] #[]] 67) = V at BV hnew' ⊢
        generalize wr.heap.size = gV at hnew' ⊢
        have hdr : Below V.heap.size V V.drew := (Below.refl _ _).drew
        have Lw := (L2.out.below hBw BV.out).below hBw hdr
        have Cw := (C2.out.below BV.out).below hdr
        have hn1 := (hdr.block _ (Array.getElem?_eq_some_iff.1 hnew'.out).1).trans hnew'.out
        have d1 : V.drew.cell? ⟨gV, 4, none⟩ = some (.func (.func pf) #[] #[]) := by rw [cell_of_row _ _ 4 _ _ _ hn1]; rfl
        clear hdr
        go_region_law (first
          | (go_simp; go_at_call 97; refine (H1.out _ Lw).mono ?_; rintro e w4 ⟨rfl, L4⟩; have Cw := Cw.words L4.kt; have Lw4 := Lw.after L4; have hn2 := L4.kt _ _ _ _ hn1 (by decide); have d2 : w4.cell? ⟨gV, 4, none⟩ = some (.func (.func pf) #[] #[]) := by (rw [cell_of_row _ _ 4 _ _ _ hn2]; rfl))
          | (go_simp; refine (HP.out z _ Cw).mono ?_; rintro e w5 ⟨⟨u5, rfl⟩, C5, b5, k5⟩))
        all_goals (
          have hend := Lib.hid (show CfP w5 B gc (setN c k z) ∧ WdP w5 gw s1 s2 ∧ Below B w w5 from ⟨C5, wd_cfg Lw4.wd k5, Lw4.bel.trans b5⟩)
          clear C5 b5 k5 Lw4 L4 Lw Cw d1 d2 hn1 hn2
          go_wp2
          go_ret
          rw [hm.out]
          exact ⟨rfl, hend.out⟩)
      · have t1 : (nm == x) = false := by simp [q]
        have t2 : (nm != x) = true := by simp [q]
        have hst := Lib.hid (show ∀ j, j < k + 1 → word j ≠ x from fun j hj => by
          by_cases e : j < k
          · exact hno'.out j e
          · obtain rfl : j = k := by omega
            rw [hnm'.out]; exact q)
        clear q
        go_wp2_with (refine wpList_load_list rfl 67 _ rfl (Aq.add (k * 5)) rfl [.string ⟨nm.toArray⟩, .int .i64 lo, .int .i64 hi, .func (.func gf) #[] #[], .func (.func pf) #[] #[]] hle ?_)
        go_roundw
        case rel => exact ⟨k + 1, by go_num, by omega, hst.out, BV.out⟩
        case measure => simp [RowKit.intOf]; omega
    · obtain rfl : k = 10 := by omega
      have hm := Lib.hid (show mWords c (r, b) = (c, 0, (r1, b)) from by rw [hm.out, paramOf_none hno'.out]; rfl)
      have hend := Lib.hid (show CfP wr B gc c ∧ WdP wr gw r1 b ∧ Below B w wr from ⟨C2.out.below hB'.out, (L2.out.below hBw hB'.out).wd, (L2.out.below hBw hB'.out).bel⟩)
      go_wp2
      go_ret
      rw [hm.out]
      exact ⟨rfl, hend.out⟩

theorem readWords_any (B gc gw : Nat) (c : Cfg) (r : List Bs) (b : Bool) (w : World)
    (C : CfP w B gc c) (H : WdP w gw r b) (hBw : B ≤ gw) (hB9 : 9 ≤ B) (hE : Env w) (hr : Wl r) (hlen : Lens c) :
    Calls Tryz.prog 87 #[.pointer (some ⟨gc, 0, none⟩), .pointer (some ⟨gw, 0, none⟩)] w (RwPost B gc gw c r b w) := by
  by_cases x1 : hd r = wdCentres
  · exact rw_centres B gc gw c r b w C H hBw hB9 hE hr hlen x1
  by_cases x2 : hd r = wdNode
  · exact rw_node B gc gw c r b w C H hBw hB9 hE hr hlen x2
  by_cases x3 : hd r = wdEdge
  · exact rw_edge B gc gw c r b w C H hBw hB9 hE hr hlen x3
  by_cases x4 : hd r = wdUnit
  · exact rw_unit B gc gw c r b w C H hBw hB9 hE hr hlen x4
  by_cases x5 : hd r = wdPlan
  · exact rw_plan B gc gw c r b w C H hBw hB9 hE hr hlen x5
  exact rw_rest B gc gw c r b w C H hBw hB9 hE hr x1 x2 x3 x4 x5
end Go.Proofs.YtjklpikopgihgaaGreatDoor
