/- The law on Reachable: walk. -/
import Derived.Test.YtabciepnbmliiaaDoorKV
set_option linter.unusedVariables false
set_option linter.unusedSimpArgs false
set_option maxRecDepth 100000
namespace Go.Proofs.YtabciepnbmliiaaDoor
open Go.RowKit Go.Lib Go.Shelf Rg Nds

theorem exec_load_mid {o : Oper} {ρ : Operand → Value} {x : Operand} {g off : Nat} {p : Nat → Bool} {w : World} (ho : o.op = .load 53 x) (hx : ρ x = .pointer (some ⟨g, off, none⟩)) (hl : (loadVar 53 ⟨g, off, none⟩).run Tryd.prog w = .ok (.agg (cells p)) w) : (execOp ρ o).run Tryd.prog w = .ok (.value (.agg (cells p))) w := by
  unfold execOp
  simp only [ho, hx, Instr.loadAt, Instr.sureAddr, Sem.run_bind, Sem.run_pure, Result.andThen_ok, hl]
theorem ahead_ei {N : Nat} {l : List Ed3} (hF : FairR N l) (xs : List Int) : ei (ofP (aheadR N l xs)) = aheadR N l xs :=
  ei_sorted_self (ahead_sorted N l xs) (fun x hx => by have := mem_nodesOf.1 hx; have := hF.hi; omega)
theorem ahead_of {N : Nat} {l : List Ed3} (hF : FairR N l) (xs : List Int) : aheadR N l (ei (ofP xs)) = aheadR N l xs := by
  refine sorted_same (ahead_sorted N l _) (ahead_sorted N l _) fun m => ?_
  rw [mem_ahead hF, mem_ahead hF]
  have hN := hF.hi
  constructor
  · rintro ⟨s, h1, h2, h3, h4⟩
    have := (mem_ei _ _).1 h1
    refine ⟨s, ?_, h2, h3, h4⟩
    have h5 := this.2.2
    unfold ofP at h5
    rw [decide_eq_true_iff, show ((s.toNat : Nat) : Int) = s by omega] at h5
    exact h5
  · rintro ⟨s, h1, h2, h3, h4⟩
    refine ⟨s, (mem_ei _ _).2 ⟨h2, by omega, ?_⟩, h2, h3, h4⟩
    unfold ofP
    rw [decide_eq_true_iff, show ((s.toNat : Nat) : Int) = s by omega]
    exact h1
theorem net_box {W : World} {N : Int} {a : Option Addr} {k cap : Nat} : (W.alloc (.cells #[.int .i64 N, .slice a k cap] 24)).heap[W.heap.size]? = some (.cells #[.int .i64 N, .slice a k cap] 24 (0, 0)) := heap_alloc_new W _

set_option maxHeartbeats 2000000 in
theorem lawReach (v : Value) (N : Int) (l : List Ed3) (A : Option Addr) (n c : Nat) (xs : List Int) (W : World) (hn : NetIn W v N l) (hr : Rd W A n xs) (hl : n ≤ 9223372036854775807) (hi : ∀ z ∈ xs, I64 z) (hE : Env W) :
    Calls Tryd.prog 5 #[v, .slice A n c] W fun e w' => e = .returned (.bool true) ∧ Below W.heap.size W w' := by
  obtain ⟨a, cap, rfl, hre, hcap, hcm⟩ := hn.ex
  have b0 : Below W.heap.size W (W.alloc (.cells #[.int .i64 N, .slice a l.length cap] 24)) := (Below.refl W.heap.size W).alloc (Nat.le_refl _) _
  have hn0 := hn.below b0
  have hw0 := wakes_any _ (hE.of b0)
  have HW := Lib.hid hw0
  have HB0 := Lib.hid b0
  have HN := Lib.hid hn0
  have HA := Lib.hid (And.intro hre (And.intro hr hE))
  clear hw0 b0 hn0 hn hr hE hi hre
  have hbx := net_box (W := W) (N := N) (a := a) (k := l.length) (cap := cap)
  go_enter Tryd.func5, Tryd.ntmps5
  go_wp2_with fail
  refine HW.out.mono ?_
  rintro e w0 ⟨rfl, hB0⟩
  have h1 := (hB0.block _ (Array.getElem?_eq_some_iff.1 hbx).1).trans hbx
  have hn1 := HN.out.below hB0
  have B0 := then_ HB0.out hB0
  have c0 := cell_of_row _ _ 0 _ _ _ h1
  have c1 := cell_of_row _ _ 1 _ _ _ h1
  have HB := Lib.hid (And.intro B0 (And.intro h1 hn1))
  clear hB0 B0 h1 hn1 HW HB0 HN hbx
  go_wp2_with fail
  refine (made_any _ N l w0 HB.out.2.2).mono ?_
  rintro e w1 ⟨hB1, hm⟩
  have hs1 := small_any _ N l w1 (HB.out.2.2.below hB1)
  have h1 := (hB1.block _ (Array.getElem?_eq_some_iff.1 HB.out.2.1).1).trans HB.out.2.1
  have c0 := cell_of_row _ _ 0 _ _ _ h1
  have c1 := cell_of_row _ _ 1 _ _ _ h1
  have HS1 := Lib.hid hs1
  have HB1 := Lib.hid (And.intro (then_ HB.out.1 hB1) h1)
  clear hs1 hB1 h1
  rcases hm with ⟨hwr, rfl⟩ | ⟨hwr, lo, G, rfl, hlo, hG⟩
  · cases q : (decide (N ≤ 12) && decide (l.length ≤ 40)) with
    | true =>
      have hs := HS1.out
      rw [q] at hs
      go_wp2_with (go_at_call 18; refine hs.mono ?_; rintro e w2 ⟨rfl, b2⟩; have HB2 := Lib.hid (then_ HB1.out.1 b2); clear b2)
      go_ret
      exact ⟨rfl, HB2.out⟩
    | false =>
      have hs := HS1.out
      rw [q] at hs
      go_wp2_with (go_at_call 18; refine hs.mono ?_; rintro e w2 ⟨rfl, b2⟩; have HB2 := Lib.hid (then_ HB1.out.1 b2); clear b2)
      go_ret
      exact ⟨rfl, HB2.out⟩
  · have hF := fair_iff.1 hwr
    have hN1 := hF.lo
    obtain ⟨N, rfl⟩ : ∃ k : Nat, N = (k : Int) := ⟨N.toNat, by omega⟩
    rw [Int.toNat_natCast] at hG
    have HG := Lib.hid hG
    have HF := Lib.hid hF
    clear hwr hlo hG
    cases q : (decide ((N : Int) ≤ 12) && decide (l.length ≤ 40)) with
    | false =>
      have hs := HS1.out
      rw [q] at hs
      go_wp2_with (go_at_call 18; refine hs.mono ?_; rintro e w2 ⟨rfl, b2⟩; have HB2 := Lib.hid (then_ HB1.out.1 b2); clear b2)
      go_ret
      exact ⟨rfl, HB2.out⟩
    | true =>
    have hs := HS1.out
    rw [q] at hs
    by_cases hn20 : (20 : Int) < (n : Int)
    · go_wp2_with (go_at_call 18; refine hs.mono ?_; rintro e w2 ⟨rfl, b2⟩; have HB2 := Lib.hid (then_ HB1.out.1 b2); clear b2)
      go_ret
      exact ⟨rfl, HB2.out⟩
    · have hxl : (aheadR N l xs).length ≤ 9223372036854775807 := by have := hF.hi; have := ahead_few (N := N) (l := l) xs; omega
      have HEq := Lib.hid (ahead_ei hF xs)
      have HAo := Lib.hid (ahead_of hF xs)
      have HAg := Lib.hid (ahead_again hF xs)
      have HL := Lib.hid (show (ei (ofP (aheadR N l xs))).length ≤ 9223372036854775807 ∧ (aheadR N l xs).length ≤ 9223372036854775807 from ⟨by rw [ahead_ei hF xs]; exact hxl, hxl⟩)
      clear hF hxl
      go_wp2_with (go_at_call 18; refine hs.mono ?_; rintro e w2 ⟨rfl, b2⟩; have HB2 := Lib.hid b2; clear b2)
      have B2 := then_ HB1.out.1 HB2.out
      refine (of_any A c n xs w2 (HA.out.2.1.below B2) hl).mono ?_
      rintro e w3 ⟨rfl, b3⟩
      have B3 := then_ HB2.out b3
      have HB3 := Lib.hid B3
      clear B2 B3 b3
      go_wp2_with fail
      refine (reachable_any N l (ofP xs) w3 (HA.out.2.2.of (then_ HB1.out.1 HB3.out)) lo w1.heap.size G (HG.out.below HB3.out) HB3.out.size).mono ?_
      rintro e w4 ⟨rfl, b4⟩
      rw [HAo.out]
      have HB4 := Lib.hid (then_ HB3.out b4)
      clear b4
      have h00 : SetAt (w4.alloc (.cells (cells fun _ => false) 53)) w4.heap.size (fun _ => false) := SetAt.new w4 _
      go_wp2_with (first | refine wpList_alloc_set rfl rfl ?_ | refine wpList_store_set _ _ _ _ _ rfl rfl rfl rfl h00 ?_)
      have b5 : Below w1.heap.size w1 ((w4.alloc (.cells (cells fun _ => false) 53)).setRow w4.heap.size (cells (ofP (aheadR N l xs)))) := below_setRow (HB4.out.alloc HB4.out.size _) HB4.out.size _
      have h7 : SetAt ((w4.alloc (.cells (cells fun _ => false) 53)).setRow w4.heap.size (cells (ofP (aheadR N l xs)))) w4.heap.size (ofP (aheadR N l xs)) := h00.row
      clear h00
      generalize (w4.alloc (.cells (cells fun _ => false) 53)).setRow w4.heap.size (cells (ofP (aheadR N l xs))) = w0 at *
      generalize w4.heap.size = s7 at *
      have HB01 := Lib.hid b5
      have H7 := Lib.hid h7
      have HZ := Lib.hid b5.size
      have hBW := then_ HB1.out.1 b5
      have HBW := Lib.hid hBW
      have h1 := (b5.block _ (Array.getElem?_eq_some_iff.1 HB1.out.2).1).trans HB1.out.2
      have HS := Lib.hid (fun w' (hb : Below w0.heap.size w0 w') => show Below w0.heap.size w0 w' ∧ w'.cell? ⟨W.heap.size, 0, none⟩ = some (.int .i64 (N : Int)) ∧ w'.cell? ⟨W.heap.size, 1, none⟩ = some (.slice a l.length cap) from by
        have h2 := (hb.block _ (Array.getElem?_eq_some_iff.1 h1).1).trans h1
        exact ⟨hb, cell_of_row _ _ 0 _ _ _ h2, cell_of_row _ _ 1 _ _ _ h2⟩)
      have HE := Lib.hid (fun w' (hb : Below w0.heap.size w0 w') => HA.out.2.2.of (then_ hBW hb))
      have HR := Lib.hid (And.intro (fun w' (hb : Below w0.heap.size w0 w') => HA.out.1.below (then_ hBW hb)) (fun w' (hb : Below w0.heap.size w0 w') => HA.out.2.1.below (then_ hBW hb)))
      clear b5 h7 hBW h1
      refine wp_region_held_drew (S := fun w' => Below w0.heap.size w0 w' ∧ w'.cell? ⟨W.heap.size, 0, none⟩ = some (.int .i64 (N : Int)) ∧ w'.cell? ⟨W.heap.size, 1, none⟩ = some (.slice a l.length cap)) (by kernel_rfl) (HS.out _ (Below.refl _ _).drew) (fun hHeld => ?_)
      refine wpAnyH_take (i := 0) (v := .agg (cells (ofP (aheadR N l xs)))) rfl (by kernel_rfl) (by kernel_rfl) (by kernel_rfl) (fun _ _ _ h => h) (Or.inl ⟨by rfl, fun w hw => exec_load_mid (g := s7) (off := 0) rfl rfl (run_loadVar_row w s7 53 53 (cells (ofP (aheadR N l xs))) (0, 0) _ (H7.out.below hw.1 H7.out.lt) Tryd.underlying53 rfl (info_set' _))⟩) (by assumption) ?_
      try simp only [Act.put, List.setIfInBounds_toArray, List.set_cons_zero, List.set_cons_succ]
      refine wpAnyH_take (i := 2) (v := ?_) rfl (by kernel_rfl) (by kernel_rfl) (by kernel_rfl) (fun _ _ _ h => h) (Or.inl ⟨by rfl, ?_⟩) (by assumption) ?_
      rotate_left
      · (intro w hSw; (try dsimp only at hSw); go_simp; try (with_reducible rfl))
      try simp only [Act.put, List.setIfInBounds_toArray, List.set_cons_zero, List.set_cons_succ]
      refine wpAnyH_take (i := 3) (v := ?_) rfl (by kernel_rfl) (by kernel_rfl) (by kernel_rfl) (fun _ _ _ h => h) (Or.inl ⟨by rfl, ?_⟩) (by assumption) ?_
      rotate_left
      · (intro w hSw; (try dsimp only at hSw); go_simp; try (with_reducible rfl))
      try simp only [Act.put, List.setIfInBounds_toArray, List.set_cons_zero, List.set_cons_succ]
      refine wpAnyH_take (i := 4) (v := ?_) rfl (by kernel_rfl) (by kernel_rfl) (by kernel_rfl) (fun _ _ _ h => h) (Or.inl ⟨by rfl, ?_⟩) (by assumption) ?_
      rotate_left
      · (intro w hSw; (try dsimp only at hSw); go_simp; try (with_reducible rfl))
      try simp only [Act.put, List.setIfInBounds_toArray, List.set_cons_zero, List.set_cons_succ]
      refine wpAnyH_take (i := 5) (v := ?_) rfl (by kernel_rfl) (by kernel_rfl) (by kernel_rfl) (fun _ _ _ h => h) (Or.inl ⟨by rfl, ?_⟩) (by assumption) ?_
      rotate_left
      · (intro w hSw; (try dsimp only at hSw); go_simp; try (with_reducible rfl))
      try simp only [Act.put, List.setIfInBounds_toArray, List.set_cons_zero, List.set_cons_succ]
      refine wpAnyH_take (i := 6) (v := ?_) rfl (by kernel_rfl) (by kernel_rfl) (by kernel_rfl) (fun _ _ _ h => h) (Or.inl ⟨by rfl, ?_⟩) (by assumption) ?_
      rotate_left
      · (intro w hSw; (try dsimp only at hSw); go_simp; try (with_reducible rfl))
      try simp only [Act.put, List.setIfInBounds_toArray, List.set_cons_zero, List.set_cons_succ]
      refine wpAnyH_ready (rs := [1]) (by kernel_rfl) (by simp) ?_
      refine AllReadyH.cons rfl (fun K hK => ?_) AllReadyH.nil
      go_simp
      go_at_call 27
      refine (list_any (ofP (aheadR N l xs)) _ (HE.out _ hHeld.1)).mono ?_
      rintro e w2 ⟨A2, c2, rfl, hr2, b2⟩
      have B2 := hHeld.1.trans (b2.mono hHeld.1.size)
      have R2 := Lib.hid hr2; clear hr2
      refine hK.out _ _ (HS.out _ B2) (fun hHeld => ?_)
      clear hK K
      try simp only [Act.put, List.setIfInBounds_toArray, List.set_cons_zero, List.set_cons_succ]
      refine wpAnyH_ready (rs := [7]) (by kernel_rfl) (by simp) ?_
      refine AllReadyH.cons rfl (fun K hK => ?_) AllReadyH.nil
      go_simp
      go_at_call 28
      refine (rahead_any a A cap c l.length n N l xs _ (HR.out.1 _ hHeld.1) (HR.out.2 _ hHeld.1) HF.out (by omega)).mono ?_
      rintro e w3 ⟨v3, rfl, hO3, b3⟩
      obtain ⟨A3, c3, rfl⟩ := hO3.slice
      have R3 := Lib.hid hO3.rd
      have R2b := Lib.hid (R2.out.below b3)
      have B3 := hHeld.1.trans (b3.mono hHeld.1.size)
      refine hK.out _ _ (HS.out _ B3) (fun hHeld => ?_)
      clear hK K
      try simp only [Act.put, List.setIfInBounds_toArray, List.set_cons_zero, List.set_cons_succ]
      refine wpAnyH_ready (rs := [8]) (by kernel_rfl) (by simp) ?_
      refine AllReadyH.cons rfl (fun K hK => ?_) AllReadyH.nil
      go_simp
      go_at_call 21
      refine (rsame_any A2 A3 c2 c3 _ _ _ _ _ R2b.out R3.out (by have := HL.out.1; omega) (by have := HL.out.2; omega)).mono ?_
      rintro e w4 ⟨rfl, b4⟩
      have hd : decide (ei (ofP (aheadR N l xs)) = aheadR N l xs) = true := decide_eq_true HEq.out
      rw [hd]
      have B4 := hHeld.1.trans (b4.mono hHeld.1.size)
      refine hK.out _ _ (HS.out _ B4) (fun hHeld => ?_)
      clear hK K
      try simp only [Act.put, List.setIfInBounds_toArray, List.set_cons_zero, List.set_cons_succ]
      refine wpAnyH_take (i := 9) (v := ?_) rfl (by kernel_rfl) (by kernel_rfl) (by kernel_rfl) (fun _ _ _ h => h) (Or.inl ⟨by rfl, ?_⟩) (by assumption) ?_
      rotate_left
      · (intro w hSw; (try dsimp only at hSw); go_simp; try (with_reducible rfl))
      try simp only [Act.put, List.setIfInBounds_toArray, List.set_cons_zero, List.set_cons_succ]
      refine wpAnyH_take (i := 10) (v := ?_) rfl (by kernel_rfl) (by kernel_rfl) (by kernel_rfl) (fun _ _ _ h => h) (Or.inl ⟨by rfl, ?_⟩) (by assumption) ?_
      rotate_left
      · (intro w hSw; (try dsimp only at hSw); go_simp; try (with_reducible rfl))
      try simp only [Act.put, List.setIfInBounds_toArray, List.set_cons_zero, List.set_cons_succ]
      refine wpAnyH_take (i := 11) (v := .agg (cells (ofP (aheadR N l xs)))) rfl (by kernel_rfl) (by kernel_rfl) (by kernel_rfl) (fun _ _ _ h => h) (Or.inl ⟨by rfl, fun w hw => exec_load_mid (g := s7) (off := 0) rfl rfl (run_loadVar_row w s7 53 53 (cells (ofP (aheadR N l xs))) (0, 0) _ (H7.out.below hw.1 H7.out.lt) Tryd.underlying53 rfl (info_set' _))⟩) (by assumption) ?_
      try simp only [Act.put, List.setIfInBounds_toArray, List.set_cons_zero, List.set_cons_succ]
      refine wpAnyH_take (i := 13) (v := .agg (cells (ofP (aheadR N l xs)))) rfl (by kernel_rfl) (by kernel_rfl) (by kernel_rfl) (fun _ _ _ h => h) (Or.inl ⟨by rfl, fun w hw => exec_load_mid (g := s7) (off := 0) rfl rfl (run_loadVar_row w s7 53 53 (cells (ofP (aheadR N l xs))) (0, 0) _ (H7.out.below hw.1 H7.out.lt) Tryd.underlying53 rfl (info_set' _))⟩) (by assumption) ?_
      try simp only [Act.put, List.setIfInBounds_toArray, List.set_cons_zero, List.set_cons_succ]
      refine wpAnyH_ready (rs := [12]) (by kernel_rfl) (by simp) ?_
      refine AllReadyH.cons rfl (fun K hK => ?_) AllReadyH.nil
      go_simp
      go_at_call 25
      refine (reachable_any N l (ofP (aheadR N l xs)) _ (HE.out _ hHeld.1) lo w1.heap.size G (HG.out.below (hHeld.1.mono HZ.out |> fun h => Below.trans HB01.out h)) (by have := hHeld.1.size; have := HZ.out; omega)).mono ?_
      rintro e w5 ⟨rfl, b5⟩
      rw [HEq.out, HAg.out]
      have B5 := hHeld.1.trans (b5.mono hHeld.1.size)
      refine hK.out _ _ (HS.out _ B5) (fun hHeld => ?_)
      clear hK K
      try simp only [Act.put, List.setIfInBounds_toArray, List.set_cons_zero, List.set_cons_succ]
      refine wpAnyH_ready (rs := [14]) (by kernel_rfl) (by simp) ?_
      refine AllReadyH.cons rfl (fun K hK => ?_) AllReadyH.nil
      go_simp
      go_at_call 29
      refine (equal_any (ofP (aheadR N l xs)) (ofP (aheadR N l xs)) _).mono ?_
      rintro e w6 ⟨rfl, b6⟩
      have hd2 : decide (els (ofP (aheadR N l xs)) = els (ofP (aheadR N l xs))) = true := decide_eq_true rfl
      rw [hd2]
      have B6 := hHeld.1.trans (b6.mono hHeld.1.size)
      refine hK.out _ _ (HS.out _ B6) (fun hHeld => ?_)
      clear hK K
      try simp only [Act.put, List.setIfInBounds_toArray, List.set_cons_zero, List.set_cons_succ]
      refine wpAnyH_take (i := 15) (v := ?_) rfl (by kernel_rfl) (by kernel_rfl) (by kernel_rfl) (fun _ _ _ h => h) (Or.inl ⟨by rfl, ?_⟩) (by assumption) ?_
      rotate_left
      · (intro w hSw; (try dsimp only at hSw); go_simp; try (with_reducible rfl))
      try simp only [Act.put, List.setIfInBounds_toArray, List.set_cons_zero, List.set_cons_succ]
      refine wpAnyH_take (i := 16) (v := ?_) rfl (by kernel_rfl) (by kernel_rfl) (by kernel_rfl) (fun _ _ _ h => h) (Or.inl ⟨by rfl, ?_⟩) (by assumption) ?_
      rotate_left
      · (intro w hSw; (try dsimp only at hSw); go_simp; try (with_reducible rfl))
      try simp only [Act.put, List.setIfInBounds_toArray, List.set_cons_zero, List.set_cons_succ]
      refine wpAnyH_done (by kernel_rfl) ?_ _
      try simp only [Act.put, List.setIfInBounds_toArray, List.set_cons_zero, List.set_cons_succ]
      have HFin := Lib.hid (then_ HBW.out hHeld.1)
      clear hHeld
      go_wp2_with fail
      go_ret
      exact ⟨rfl, HFin.out⟩
end Go.Proofs.YtabciepnbmliiaaDoor
