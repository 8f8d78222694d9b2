/- The law on Reverse: walk. -/
import Derived.Test.YtabciepnbmliiaaDoorV3
import Derived.Test.YtabciepnbmliiaaDoorKF
set_option linter.unusedVariables false
set_option linter.unusedSimpArgs false
set_option maxRecDepth 100000
namespace Go.Proofs.YtabciepnbmliiaaDoor
open Go.RowKit Go.Lib Go.Shelf Rg Nds

theorem keepH {w w' : World} {g : Nat} {o : Obj} (h : w.heap[g]? = some o) (b : Below w.heap.size w w') : w'.heap[g]? = some o := (b.block _ (Array.getElem?_eq_some_iff.1 h).1).trans h
theorem has_ahead {N : Nat} {l : List Ed3} (hF : FairR N l) (xs : List Int) (b : Int) : hasB (ofP (aheadR N l xs)) b = decide (b ∈ aheadR N l xs) := by
  unfold hasB ofP
  rw [Bool.eq_iff_iff]
  simp only [Bool.and_eq_true, decide_eq_true_eq]
  constructor
  · rintro ⟨⟨h0, h1⟩, h⟩
    rw [show ((b.toNat : Nat) : Int) = b by omega] at h
    exact h
  · intro h
    have h1 := mem_nodesOf.1 h
    have := hF.hi
    refine ⟨⟨by omega, by omega⟩, ?_⟩
    rw [show ((b.toNat : Nat) : Int) = b by omega]
    exact h
theorem back_at {l : List Ed3} {k : Nat} (hk : k < l.length) : (back l).getD k (0, 0, 0) = turn (l.getD k (0, 0, 0)) := by
  unfold back
  rw [List.getD_eq_getElem?_getD, List.getD_eq_getElem?_getD, List.getElem?_map, List.getElem?_eq_getElem hk]
  rfl

set_option maxHeartbeats 20000000 in
theorem lawRev (v : Value) (N : Int) (l : List Ed3) (s t : Int) (W : World) (hn : NetIn W v N l) (hs : I64 s) (ht : I64 t) (hE : Env W) :
    Calls Tryd.prog 7 #[v, .int .i64 s, .int .i64 t] W fun e w' => e = .returned (.bool true) ∧ Below W.heap.size W w' := by
  clear hs ht
  obtain ⟨a, cap, rfl, hre, hcap, hcm⟩ := hn.ex
  have b0 : Below W.heap.size W (W.alloc (.cells #[.int .i64 N, .slice a l.length cap] 24)) := (Below.refl W.heap.size W).alloc (Nat.le_refl _) _
  have hn0 := hn.below b0
  have hw0 := wakes_any _ (hE.of b0)
  have HW := Lib.hid hw0
  have HB0 := Lib.hid b0
  have HN := Lib.hid hn0
  have HA := Lib.hid (And.intro hre hE)
  clear hw0 b0 hn0 hn hE hre
  have hbx := net_box (W := W) (N := N) (a := a) (k := l.length) (cap := cap)
  go_enter Tryd.func7, Tryd.ntmps7
  go_wp2_with fail
  refine HW.out.mono ?_
  rintro e w0 ⟨rfl, hB0⟩
  have h1 := (hB0.block _ (Array.getElem?_eq_some_iff.1 hbx).1).trans hbx
  have hn1 := HN.out.below hB0
  have B0 := then_ HB0.out hB0
  have c0 := cell_of_row _ _ 0 _ _ _ h1
  have c1 := cell_of_row _ _ 1 _ _ _ h1
  have HB := Lib.hid (And.intro B0 (And.intro h1 hn1))
  clear hB0 B0 h1 hn1 HW HB0 HN hbx
  go_wp2_with fail
  refine (made_any _ N l w0 HB.out.2.2).mono ?_
  rintro e w1 ⟨hB1, hm⟩
  have hs1 := small_any _ N l w1 (HB.out.2.2.below hB1)
  have h1 := (hB1.block _ (Array.getElem?_eq_some_iff.1 HB.out.2.1).1).trans HB.out.2.1
  have c0 := cell_of_row _ _ 0 _ _ _ h1
  have c1 := cell_of_row _ _ 1 _ _ _ h1
  have HS1 := Lib.hid hs1
  have HB1 := Lib.hid (And.intro (then_ HB.out.1 hB1) h1)
  clear hs1 hB1 h1
  rcases hm with ⟨hwr, rfl⟩ | ⟨hwr, lo, G, rfl, hlo, hG⟩
  · cases q : (decide (N ≤ 12) && decide (l.length ≤ 40)) with
    | true =>
      have hs := HS1.out
      rw [q] at hs
      go_wp2_with (go_at_call 18; refine hs.mono ?_; rintro e w2 ⟨rfl, b2⟩; have HB2 := Lib.hid (then_ HB1.out.1 b2); clear b2)
      go_ret
      exact ⟨rfl, HB2.out⟩
    | false =>
      have hs := HS1.out
      rw [q] at hs
      go_wp2_with (go_at_call 18; refine hs.mono ?_; rintro e w2 ⟨rfl, b2⟩; have HB2 := Lib.hid (then_ HB1.out.1 b2); clear b2)
      go_ret
      exact ⟨rfl, HB2.out⟩
  · have hF := fair_iff.1 hwr
    have hN1 := hF.lo
    obtain ⟨N, rfl⟩ : ∃ k : Nat, N = (k : Int) := ⟨N.toNat, by omega⟩
    rw [Int.toNat_natCast] at hG
    have HG := Lib.hid hG
    have HF := Lib.hid hF
    clear hwr hlo hG
    cases q : (decide ((N : Int) ≤ 12) && decide (l.length ≤ 40)) with
    | false =>
      have hs := HS1.out
      rw [q] at hs
      go_wp2_with (go_at_call 18; refine hs.mono ?_; rintro e w2 ⟨rfl, b2⟩; have HB2 := Lib.hid (then_ HB1.out.1 b2); clear b2)
      go_ret
      exact ⟨rfl, HB2.out⟩
    | true =>
    have hs := HS1.out
    rw [q] at hs
    have HRv := Lib.hid (show hasB (ofP (aheadR N l (ei (ofP [s])))) t = hasB (ofP (aheadR N (back l) (ei (ofP [t])))) s from by
      rw [ahead_of hF, ahead_of hF.back, has_ahead hF, has_ahead hF.back]
      exact decide_eq_decide.2 (ahead_back_any hF s t))
    have hl := hF.few
    clear hF
    go_wp2_with (go_at_call 18; refine hs.mono ?_; rintro e w0 ⟨rfl, b2⟩; have HB2 := Lib.hid b2; clear b2)
    refine (reverse_any N l w0 lo w1.heap.size G (HG.out.below HB2.out) HB2.out.size).mono ?_
    rintro e w2 ⟨b3, G2, rfl, hG2⟩
    have HG2 := Lib.hid hG2
    have hbl : (back l).length = l.length := back_length l
    have HBL := Lib.hid hbl
    have HB3 := Lib.hid (then_ HB2.out b3)
    have hBW := then_ HB1.out.1 HB3.out
    have HBW := Lib.hid hBW
    have h1 := (HB3.out.block _ (Array.getElem?_eq_some_iff.1 HB1.out.2).1).trans HB1.out.2
    have HS := Lib.hid (fun w' (hb : Below w2.heap.size w2 w') => show Below w2.heap.size w2 w' ∧ w'.cell? ⟨W.heap.size, 0, none⟩ = some (.int .i64 (N : Int)) ∧ w'.cell? ⟨W.heap.size, 1, none⟩ = some (.slice a l.length cap) from by
      have h2 := (hb.block _ (Array.getElem?_eq_some_iff.1 h1).1).trans h1
      exact ⟨hb, cell_of_row _ _ 0 _ _ _ h2, cell_of_row _ _ 1 _ _ _ h2⟩)
    have HR := Lib.hid (fun w' (hb : Below w2.heap.size w2 w') => HA.out.1.below (then_ hBW hb))
    have HE := Lib.hid (fun w' (hb : Below w2.heap.size w2 w') => HA.out.2.of (then_ hBW hb))
    have HBs := Lib.hid b3.size
    clear hBW h1 hs hG2 hbl b3
    go_wp2_with fail
    refine wp_region_held_drew (S := fun w' => Below w2.heap.size w2 w' ∧ w'.cell? ⟨W.heap.size, 0, none⟩ = some (.int .i64 (N : Int)) ∧ w'.cell? ⟨W.heap.size, 1, none⟩ = some (.slice a l.length cap)) (by kernel_rfl) (HS.out _ (Below.refl _ _).drew) (fun hHeld => ?_)
    refine wpAnyH_take (i := 0) (v := ?_) rfl (by kernel_rfl) (by kernel_rfl) (by kernel_rfl) (fun _ _ _ h => h) (Or.inl ⟨by rfl, ?_⟩) (by assumption) ?_
    rotate_left
    · (intro w hSw; (try dsimp only at hSw); go_simp; try (with_reducible rfl))
    try simp only [Act.put, List.setIfInBounds_toArray, List.set_cons_zero, List.set_cons_succ, List.getElem_toArray, List.getElem_cons_zero, List.getElem_cons_succ]
    refine wpAnyH_take (i := 1) (v := ?_) rfl (by kernel_rfl) (by kernel_rfl) (by kernel_rfl) (fun _ _ _ h => h) (Or.inl ⟨by rfl, ?_⟩) (by assumption) ?_
    rotate_left
    · (intro w hSw; (try dsimp only at hSw); go_simp; try (with_reducible rfl))
    try simp only [Act.put, List.setIfInBounds_toArray, List.set_cons_zero, List.set_cons_succ, List.getElem_toArray, List.getElem_cons_zero, List.getElem_cons_succ]
    refine wpAnyH_take (i := 2) (v := ?_) rfl (by kernel_rfl) (by kernel_rfl) (by kernel_rfl) (fun _ _ _ h => h) (Or.inl ⟨by rfl, ?_⟩) (by assumption) ?_
    rotate_left
    · (intro w hSw; (try dsimp only at hSw); go_simp; try (with_reducible rfl))
    try simp only [Act.put, List.setIfInBounds_toArray, List.set_cons_zero, List.set_cons_succ, List.getElem_toArray, List.getElem_cons_zero, List.getElem_cons_succ]
    refine wpAnyH_take (i := 3) (v := ?_) rfl (by kernel_rfl) (by kernel_rfl) (by kernel_rfl) (fun _ _ _ h => h) (Or.inl ⟨by rfl, ?_⟩) (by assumption) ?_
    rotate_left
    · (intro w hSw; (try dsimp only at hSw); go_simp; try (with_reducible rfl))
    try simp only [Act.put, List.setIfInBounds_toArray, List.set_cons_zero, List.set_cons_succ, List.getElem_toArray, List.getElem_cons_zero, List.getElem_cons_succ]
    refine wpAnyH_take (i := 5) (v := ?_) rfl (by kernel_rfl) (by kernel_rfl) (by kernel_rfl) (fun _ _ _ h => h) (Or.inl ⟨by rfl, ?_⟩) (by assumption) ?_
    rotate_left
    · (intro w hSw; (try dsimp only at hSw); go_simp; try (with_reducible rfl))
    try simp only [Act.put, List.setIfInBounds_toArray, List.set_cons_zero, List.set_cons_succ, List.getElem_toArray, List.getElem_cons_zero, List.getElem_cons_succ]
    refine wpAnyH_take (i := 6) (v := ?_) rfl (by kernel_rfl) (by kernel_rfl) (by kernel_rfl) (fun _ _ _ h => h) (Or.inl ⟨by rfl, ?_⟩) (by assumption) ?_
    rotate_left
    · (intro w hSw; (try dsimp only at hSw); go_simp; try (with_reducible rfl))
    try simp only [Act.put, List.setIfInBounds_toArray, List.set_cons_zero, List.set_cons_succ, List.getElem_toArray, List.getElem_cons_zero, List.getElem_cons_succ]
    refine wpAnyH_ready (rs := [4]) (by kernel_rfl) (by simp) ?_
    refine AllReadyH.cons rfl (fun K hK => ?_) AllReadyH.nil
    go_simp
    go_at_call 14
    obtain ⟨AE, cE, AO, cO, AI, cI, hd0, hd1, _⟩ := (HG2.out.below hHeld.1).head
    refine (nodes_any G2 N _ _ _ hd1).mono ?_
    rintro e w' ⟨rfl, rfl⟩
    clear hd0 hd1
    refine hK.out _ _ (hHeld) (fun hHeld => ?_)
    clear hK K
    try simp only [Act.put, List.setIfInBounds_toArray, List.set_cons_zero, List.set_cons_succ, List.getElem_toArray, List.getElem_cons_zero, List.getElem_cons_succ]
    refine wpAnyH_take (i := 7) (v := ?_) rfl (by kernel_rfl) (by kernel_rfl) (by kernel_rfl) (fun _ _ _ h => h) (Or.inl ⟨by rfl, ?_⟩) (by assumption) ?_
    rotate_left
    · (intro w hSw; (try dsimp only at hSw); go_simp; try (with_reducible rfl))
    try simp only [Act.put, List.setIfInBounds_toArray, List.set_cons_zero, List.set_cons_succ, List.getElem_toArray, List.getElem_cons_zero, List.getElem_cons_succ]
    refine wpAnyH_take (i := 8) (v := ?_) rfl (by kernel_rfl) (by kernel_rfl) (by kernel_rfl) (fun _ _ _ h => h) (Or.inl ⟨by rfl, ?_⟩) (by assumption) ?_
    rotate_left
    · (intro w hSw; (try dsimp only at hSw); go_simp; try (with_reducible rfl))
    try simp only [Act.put, List.setIfInBounds_toArray, List.set_cons_zero, List.set_cons_succ, List.getElem_toArray, List.getElem_cons_zero, List.getElem_cons_succ]
    refine wpAnyH_take (i := 9) (v := ?_) rfl (by kernel_rfl) (by kernel_rfl) (by kernel_rfl) (fun _ _ _ h => h) (Or.inl ⟨by rfl, ?_⟩) (by assumption) ?_
    rotate_left
    · (intro w hSw; (try dsimp only at hSw); go_simp; try (with_reducible rfl))
    try simp only [Act.put, List.setIfInBounds_toArray, List.set_cons_zero, List.set_cons_succ, List.getElem_toArray, List.getElem_cons_zero, List.getElem_cons_succ]
    refine wpAnyH_take (i := 10) (v := ?_) rfl (by kernel_rfl) (by kernel_rfl) (by kernel_rfl) (fun _ _ _ h => h) (Or.inl ⟨by rfl, ?_⟩) (by assumption) ?_
    rotate_left
    · (intro w hSw; (try dsimp only at hSw); go_simp; try (with_reducible rfl))
    try simp only [Act.put, List.setIfInBounds_toArray, List.set_cons_zero, List.set_cons_succ, List.getElem_toArray, List.getElem_cons_zero, List.getElem_cons_succ]
    refine wpAnyH_take (i := 12) (v := ?_) rfl (by kernel_rfl) (by kernel_rfl) (by kernel_rfl) (fun _ _ _ h => h) (Or.inl ⟨by rfl, ?_⟩) (by assumption) ?_
    rotate_left
    · (intro w hSw; (try dsimp only at hSw); go_simp; try (with_reducible rfl))
    try simp only [Act.put, List.setIfInBounds_toArray, List.set_cons_zero, List.set_cons_succ, List.getElem_toArray, List.getElem_cons_zero, List.getElem_cons_succ]
    refine wpAnyH_take (i := 13) (v := ?_) rfl (by kernel_rfl) (by kernel_rfl) (by kernel_rfl) (fun _ _ _ h => h) (Or.inl ⟨by rfl, ?_⟩) (by assumption) ?_
    rotate_left
    · (intro w hSw; (try dsimp only at hSw); go_simp; try (with_reducible rfl))
    try simp only [Act.put, List.setIfInBounds_toArray, List.set_cons_zero, List.set_cons_succ, List.getElem_toArray, List.getElem_cons_zero, List.getElem_cons_succ]
    refine wpAnyH_take (i := 14) (v := ?_) rfl (by kernel_rfl) (by kernel_rfl) (by kernel_rfl) (fun _ _ _ h => h) (Or.inl ⟨by rfl, ?_⟩) (by assumption) ?_
    rotate_left
    · (intro w hSw; (try dsimp only at hSw); go_simp; try (with_reducible rfl))
    try simp only [Act.put, List.setIfInBounds_toArray, List.set_cons_zero, List.set_cons_succ, List.getElem_toArray, List.getElem_cons_zero, List.getElem_cons_succ]
    refine wpAnyH_ready (rs := [11]) (by kernel_rfl) (by simp) ?_
    refine AllReadyH.cons rfl (fun K hK => ?_) AllReadyH.nil
    go_simp
    go_at_call 15
    obtain ⟨AE, cE, AO, cO, AI, cI, hd0, hd1, _⟩ := (HG2.out.below hHeld.1).head
    rw [HBL.out] at hd0
    refine (edges_any G2 l.length _ _ _ hd0).mono ?_
    rintro e w' ⟨rfl, rfl⟩
    clear hd0 hd1
    refine hK.out _ _ (hHeld) (fun hHeld => ?_)
    clear hK K
    try simp only [Act.put, List.setIfInBounds_toArray, List.set_cons_zero, List.set_cons_succ, List.getElem_toArray, List.getElem_cons_zero, List.getElem_cons_succ]
    refine wpAnyH_take (i := 15) (v := ?_) rfl (by kernel_rfl) (by kernel_rfl) (by kernel_rfl) (fun _ _ _ h => h) (Or.inl ⟨by rfl, ?_⟩) (by assumption) ?_
    rotate_left
    · (intro w hSw; (try dsimp only at hSw); go_simp; try (with_reducible rfl))
    try simp only [Act.put, List.setIfInBounds_toArray, List.set_cons_zero, List.set_cons_succ, List.getElem_toArray, List.getElem_cons_zero, List.getElem_cons_succ]
    refine wpAnyH_take (i := 16) (v := ?_) rfl (by kernel_rfl) (by kernel_rfl) (by kernel_rfl) (fun _ _ _ h => h) (Or.inl ⟨by rfl, ?_⟩) (by assumption) ?_
    rotate_left
    · (intro w hSw; (try dsimp only at hSw); go_simp; try (with_reducible rfl))
    try simp only [Act.put, List.setIfInBounds_toArray, List.set_cons_zero, List.set_cons_succ, List.getElem_toArray, List.getElem_cons_zero, List.getElem_cons_succ]
    refine wpAnyH_done (by kernel_rfl) ?_ _
    try simp only [Act.put, List.setIfInBounds_toArray, List.set_cons_zero, List.set_cons_succ, List.getElem_toArray, List.getElem_cons_zero, List.getElem_cons_succ]
    have HBa := Lib.hid hHeld.1
    have c0 := hHeld.2.1
    have c1 := hHeld.2.2
    clear hHeld
    go_wp2_with fail
    refine (reverse_any N (back l) _ w0.heap.size w2.heap.size G2 (HG2.out.below HBa.out) HBa.out.size).mono ?_
    rintro e w3 ⟨b4, G3, rfl, hG3⟩
    rw [back_back] at hG3
    have HG3 := Lib.hid hG3
    have HB4 := Lib.hid (HBa.out.trans (b4.mono HBa.out.size))
    have HBs3 := Lib.hid b4.size
    clear b4 hG3 c0 c1
    have c1 := (HS.out _ HB4.out).2.2
    go_wp2_with fail
    go_loopw [55] (fun i W' => ∃ k : Nat, i = .int .i64 k ∧ k ≤ l.length ∧ Hid (Below w3.heap.size w3 W')) (fun i _ => l.length - (RowKit.intOf i).toNat)
    case atStart => exact ⟨0, rfl, by omega, Below.refl _ _⟩
    case round =>
      obtain ⟨k, rfl, hk, hB⟩ := hrel
      have HBr := Lib.hid (HB4.out.trans (hB.out.mono HB4.out.size))
      by_cases hlt : k < l.length
      · have hkI : (k : Int) < (l.length : Int) := by omega
        obtain ⟨ad, hAd, hc0, hc1, hc2⟩ := (HR.out _ HBr.out).at_ hlt
        subst hAd
        have hbk := back_at hlt
        have hg2 := fun w' (hb : Below wr.heap.size wr w') => HG2.out.below (HBr.out.trans (hb.mono HBr.out.size))
        have hg3 := fun w' (hb : Below wr.heap.size wr w') => HG3.out.below (hB.out.trans (hb.mono hB.out.size))
        have HEd2 := Lib.hid (fun w' (hb : Below wr.heap.size wr w') => by
          obtain ⟨AE, cE, AO, cO, AI, cI, hd0, _, _, hRe, _⟩ := (hg2 w' hb).head
          have := edge_in G2 AE cE k (back l) w' hd0 hRe (by rw [HBL.out]; exact hl) (by rw [HBL.out]; exact hlt)
          rw [hbk] at this
          exact this)
        have HEd3 := Lib.hid (fun w' (hb : Below wr.heap.size wr w') => by
          obtain ⟨AE, cE, AO, cO, AI, cI, hd0, _, _, hRe, _⟩ := (hg3 w' hb).head
          exact edge_in G3 AE cE k l w' hd0 hRe hl hlt)
        clear hg2 hg3 hbk
        unfold ed turn at HEd2
        unfold ed at HEd3
        generalize l.getD k (0, 0, 0) = x at *
        obtain ⟨x0, x1, x2⟩ := x
        have e0 : wr.cell? (ad.add (k * 3)) = some (.int .i64 x0) := hc0
        have e1 : wr.cell? ⟨(ad.add (k * 3)).block, (ad.add (k * 3)).off + 1, none⟩ = some (.int .i64 x1) := hc1
        have e2 : wr.cell? ⟨(ad.add (k * 3)).block, (ad.add (k * 3)).off + 2, none⟩ = some (.int .i64 x2) := hc2
        clear hc0 hc1 hc2
        dsimp only at HEd2 HEd3
        have HB0 := Lib.hid (show Below wr.heap.size wr (wr.alloc (.cells #[.int .i64 x0, .int .i64 x1, .int .i64 x2] 35)) from (Below.refl _ _).alloc (Nat.le_refl _) _)
        go_wp2_with fail
        refine (HEd2.out _ HB0.out).mono ?_
        rintro e w4 ⟨rfl, b5⟩
        have m0 := keepH (heap_alloc_new wr (.cells #[.int .i64 x0, .int .i64 x1, .int .i64 x2] 35)) b5
        have HM0 := Lib.hid (keepH m0 ((Below.refl w4.heap.size w4).alloc (Nat.le_refl _) (.cells #[.int .i64 x1, .int .i64 x0, .int .i64 x2] 35)))
        have b6 := then_ HB0.out b5
        have HB5 := Lib.hid (b6.alloc b6.size (.cells #[.int .i64 x1, .int .i64 x0, .int .i64 x2] 35))
        clear b5 b6 m0
        go_wp2_with fail
        refine (HEd3.out _ HB5.out).mono ?_
        rintro e w5 ⟨rfl, b7⟩
        have m0 := keepH (keepH HM0.out b7) ((Below.refl w5.heap.size w5).alloc (Nat.le_refl _) (.cells #[.int .i64 x0, .int .i64 x1, .int .i64 x2] 35))
        have m1 := keepH (keepH (heap_alloc_new w4 (.cells #[.int .i64 x1, .int .i64 x0, .int .i64 x2] 35)) b7) ((Below.refl w5.heap.size w5).alloc (Nat.le_refl _) (.cells #[.int .i64 x0, .int .i64 x1, .int .i64 x2] 35))
        have m2 := heap_alloc_new w5 (.cells #[.int .i64 x0, .int .i64 x1, .int .i64 x2] 35)
        have p0 := cell_of_row _ _ 0 _ _ _ m0
        have p1 := cell_of_row _ _ 1 _ _ _ m0
        have p2 := cell_of_row _ _ 2 _ _ _ m0
        have q0 := cell_of_row _ _ 0 _ _ _ m1
        have q1 := cell_of_row _ _ 1 _ _ _ m1
        have q2 := cell_of_row _ _ 2 _ _ _ m1
        have b6 := then_ HB5.out b7
        have HB6 := Lib.hid (hB.out.trans ((b6.alloc b6.size (.cells #[.int .i64 x0, .int .i64 x1, .int .i64 x2] 35)).mono hB.out.size))
        clear b6 b7 m0 m1 m2 e0 e1 e2
        go_wp2_with fail
        go_roundw
        case rel => exact ⟨k + 1, by go_num, by omega, HB6.out⟩
        case measure => simp [RowKit.intOf]; omega
      · obtain rfl : k = l.length := by omega
        go_wp2_with fail
        refine (of_any (some ⟨wr.heap.size, 0, none⟩) 1 1 [s] _ (ints_new wr [s] (by simp)) (by decide)).mono ?_
        rintro e w4 ⟨rfl, b5⟩
        have HB5 := Lib.hid (HBr.out.trans ((then_ ((Below.refl wr.heap.size wr).alloc (Nat.le_refl _) (.cells #[.int .i64 s] 3)) b5).mono HBr.out.size))
        clear b5
        go_wp2_with fail
        refine (reachable_any N l (ofP [s]) w4 (HE.out _ HB5.out) lo w1.heap.size G (HG.out.below (then_ HB3.out HB5.out)) (then_ HB3.out HB5.out).size).mono ?_
        rintro e w5 ⟨rfl, b6⟩
        have HB6 := Lib.hid (HB5.out.trans (b6.mono HB5.out.size))
        clear b6
        go_wp2_with fail
        refine (has_any (ofP (aheadR N l (ei (ofP [s])))) t w5).mono ?_
        rintro e w6 ⟨rfl, b7⟩
        rw [HRv.out]
        have HB7 := Lib.hid (HB6.out.trans (b7.mono HB6.out.size))
        clear b7
        go_wp2_with fail
        refine (of_any (some ⟨w6.heap.size, 0, none⟩) 1 1 [t] _ (ints_new w6 [t] (by simp)) (by decide)).mono ?_
        rintro e w7 ⟨rfl, b8⟩
        have HB8 := Lib.hid (HB7.out.trans ((then_ ((Below.refl w6.heap.size w6).alloc (Nat.le_refl _) (.cells #[.int .i64 t] 3)) b8).mono HB7.out.size))
        clear b8
        go_wp2_with fail
        refine (reachable_any N (back l) (ofP [t]) w7 (HE.out _ HB8.out) w0.heap.size w2.heap.size G2 (HG2.out.below HB8.out) HB8.out.size).mono ?_
        rintro e w8 ⟨rfl, b9⟩
        have HB9 := Lib.hid (HB8.out.trans (b9.mono HB8.out.size))
        clear b9
        go_wp2_with fail
        refine (has_any (ofP (aheadR N (back l) (ei (ofP [t])))) s w8).mono ?_
        rintro e w9 ⟨rfl, b10⟩
        generalize hasB (ofP (aheadR N (back l) (ei (ofP [t])))) s = q at *
        have HBz := Lib.hid (then_ HBW.out (HB9.out.trans (b10.mono HB9.out.size)))
        clear b10 HRv
        go_wp2_with fail
        go_ret
        exact ⟨by simp, HBz.out⟩
end Go.Proofs.YtabciepnbmliiaaDoor
