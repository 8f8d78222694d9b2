/- The law on Adjacency: walk. -/
import Derived.Test.YtabciepnbmliiaaDoorV3
import Derived.Test.YtabciepnbmliiaaDoorKU
set_option linter.unusedVariables false
set_option linter.unusedSimpArgs false
set_option maxRecDepth 100000
namespace Go.Proofs.YtabciepnbmliiaaDoor
open Go.RowKit Go.Lib Go.Shelf Rg Nds

theorem keepH2 {w w' : World} {g : Nat} {o : Obj} (h : w.heap[g]? = some o) (b : Below w.heap.size w w') : w'.heap[g]? = some o := (b.block _ (Array.getElem?_eq_some_iff.1 h).1).trans h

theorem Rd.take {w : World} {A : Option Addr} {n : Nat} {xs : List Int} (h : Rd w A n xs) (k : Nat) : Rd w A (xs.take k).length (xs.take k) := by
  have hle : (xs.take k).length ≤ n := by have := h.1; rw [List.length_take]; omega
  refine ⟨rfl, fun hn => ?_⟩
  obtain ⟨ad, e, h1, h2⟩ := h.2 (by omega)
  refine ⟨ad, e, h1, fun j hj => ?_⟩
  rw [h2 j (by have := h.1; omega)]
  have hjk : j < k := by rw [List.length_take] at hj; omega
  simp [List.getD_eq_getElem?_getD, List.getElem?_take, hjk]

set_option maxHeartbeats 20000000 in
theorem lawAdj (v : Value) (N : Int) (l : List Ed3) (node : Int) (m : Nat) (W : World) (hn : NetIn W v N l) (hnode : I64 node) (hm : m < 256) (hE : Env W) :
    Calls Tryd.prog 4 #[v, .int .i64 node, .int .u8 (m : Int)] W fun e w' => e = .returned (.bool true) ∧ Below W.heap.size W w' := by
  clear hnode
  obtain ⟨a, cap, rfl, hre, hcap, hcm⟩ := hn.ex
  have b0 : Below W.heap.size W (W.alloc (.cells #[.int .i64 N, .slice a l.length cap] 24)) := (Below.refl W.heap.size W).alloc (Nat.le_refl _) _
  have hn0 := hn.below b0
  have hw0 := wakes_any _ (hE.of b0)
  have HW := Lib.hid hw0
  have HB0 := Lib.hid b0
  have HN := Lib.hid hn0
  have HA := Lib.hid (And.intro hre hE)
  clear hw0 b0 hn0 hn hE hre
  have hbx := net_box (W := W) (N := N) (a := a) (k := l.length) (cap := cap)
  go_enter Tryd.func4, Tryd.ntmps4
  go_wp2_with fail
  refine HW.out.mono ?_
  rintro e w0 ⟨rfl, hB0⟩
  have h1 := (hB0.block _ (Array.getElem?_eq_some_iff.1 hbx).1).trans hbx
  have hn1 := HN.out.below hB0
  have B0 := then_ HB0.out hB0
  have c0 := cell_of_row _ _ 0 _ _ _ h1
  have c1 := cell_of_row _ _ 1 _ _ _ h1
  have HB := Lib.hid (And.intro B0 (And.intro h1 hn1))
  clear hB0 B0 h1 hn1 HW HB0 HN hbx
  go_wp2_with fail
  refine (made_any _ N l w0 HB.out.2.2).mono ?_
  rintro e w1 ⟨hB1, hm⟩
  have hs1 := small_any _ N l w1 (HB.out.2.2.below hB1)
  have h1 := (hB1.block _ (Array.getElem?_eq_some_iff.1 HB.out.2.1).1).trans HB.out.2.1
  have c0 := cell_of_row _ _ 0 _ _ _ h1
  have c1 := cell_of_row _ _ 1 _ _ _ h1
  have HS1 := Lib.hid hs1
  have HB1 := Lib.hid (And.intro (then_ HB.out.1 hB1) h1)
  clear hs1 hB1 h1
  rcases hm with ⟨hwr, rfl⟩ | ⟨hwr, lo, G, rfl, hlo, hG⟩
  · cases q : (decide (N ≤ 12) && decide (l.length ≤ 40)) with
    | true =>
      have hs := HS1.out
      rw [q] at hs
      go_wp2_with (go_at_call 18; refine hs.mono ?_; rintro e w2 ⟨rfl, b2⟩; have HB2 := Lib.hid (then_ HB1.out.1 b2); clear b2)
      go_ret
      exact ⟨rfl, HB2.out⟩
    | false =>
      have hs := HS1.out
      rw [q] at hs
      go_wp2_with (go_at_call 18; refine hs.mono ?_; rintro e w2 ⟨rfl, b2⟩; have HB2 := Lib.hid (then_ HB1.out.1 b2); clear b2)
      go_ret
      exact ⟨rfl, HB2.out⟩
  · have hF := fair_iff.1 hwr
    have hN1 := hF.lo
    obtain ⟨N, rfl⟩ : ∃ k : Nat, N = (k : Int) := ⟨N.toNat, by omega⟩
    rw [Int.toNat_natCast] at hG
    have HG := Lib.hid hG
    have HF := Lib.hid hF
    clear hwr hlo hG
    cases q : (decide ((N : Int) ≤ 12) && decide (l.length ≤ 40)) with
    | false =>
      have hs := HS1.out
      rw [q] at hs
      go_wp2_with (go_at_call 18; refine hs.mono ?_; rintro e w2 ⟨rfl, b2⟩; have HB2 := Lib.hid (then_ HB1.out.1 b2); clear b2)
      go_ret
      exact ⟨rfl, HB2.out⟩
    | true =>
    have hs := HS1.out
    rw [q] at hs
    have hl40 : l.length ≤ 40 := by
      simp only [Bool.and_eq_true, decide_eq_true_eq] at q
      exact q.2
    have HL := Lib.hid hl40
    have HFw := Lib.hid (And.intro (outs_few l node) (by have := outs_few (back l) node; rw [back_length] at this; exact this))
    clear hF hl40 q
    go_wp2_with (go_at_call 18; refine hs.mono ?_; rintro e w0 ⟨rfl, b2⟩; have HB2 := Lib.hid b2; clear b2)
    have hBW := then_ HB1.out.1 HB2.out
    have h1 := keepH2 HB1.out.2 HB2.out
    have HS := Lib.hid (fun w' (hb : Below w0.heap.size w0 w') => show Below w0.heap.size w0 w' ∧ w'.cell? ⟨W.heap.size, 1, none⟩ = some (.slice a l.length cap) from ⟨hb, cell_of_row _ _ 1 _ _ _ (keepH2 h1 hb)⟩)
    have HR := Lib.hid (fun w' (hb : Below w0.heap.size w0 w') => HA.out.1.below (then_ hBW hb))
    have HBW := Lib.hid hBW
    have HG2 := Lib.hid (fun w' (hb : Below w0.heap.size w0 w') => And.intro (HG.out.below (then_ HB2.out hb)) (then_ HB2.out hb).size)
    clear hBW h1 hs
    refine wp_region_held_drew (S := fun w' => Below w0.heap.size w0 w' ∧ w'.cell? ⟨W.heap.size, 1, none⟩ = some (.slice a l.length cap)) (by kernel_rfl) (HS.out _ (Below.refl _ _).drew) (fun hHeld => ?_)
    refine wpAnyH_take (i := 0) (v := ?_) rfl (by kernel_rfl) (by kernel_rfl) (by kernel_rfl) (fun _ _ _ h => h) (Or.inl ⟨by rfl, ?_⟩) (by assumption) ?_
    rotate_left
    · (intro w hSw; (try dsimp only at hSw); go_simp; try (with_reducible rfl))
    try simp only [Act.put, List.setIfInBounds_toArray, List.set_cons_zero, List.set_cons_succ, List.getElem_toArray, List.getElem_cons_zero, List.getElem_cons_succ]
    refine wpAnyH_take (i := 1) (v := ?_) rfl (by kernel_rfl) (by kernel_rfl) (by kernel_rfl) (fun _ _ _ h => h) (Or.inl ⟨by rfl, ?_⟩) (by assumption) ?_
    rotate_left
    · (intro w hSw; (try dsimp only at hSw); go_simp; try (with_reducible rfl))
    try simp only [Act.put, List.setIfInBounds_toArray, List.set_cons_zero, List.set_cons_succ, List.getElem_toArray, List.getElem_cons_zero, List.getElem_cons_succ]
    refine wpAnyH_take (i := 2) (v := ?_) rfl (by kernel_rfl) (by kernel_rfl) (by kernel_rfl) (fun _ _ _ h => h) (Or.inl ⟨by rfl, ?_⟩) (by assumption) ?_
    rotate_left
    · (intro w hSw; (try dsimp only at hSw); go_simp; try (with_reducible rfl))
    try simp only [Act.put, List.setIfInBounds_toArray, List.set_cons_zero, List.set_cons_succ, List.getElem_toArray, List.getElem_cons_zero, List.getElem_cons_succ]
    refine wpAnyH_take (i := 4) (v := ?_) rfl (by kernel_rfl) (by kernel_rfl) (by kernel_rfl) (fun _ _ _ h => h) (Or.inl ⟨by rfl, ?_⟩) (by assumption) ?_
    rotate_left
    · (intro w hSw; (try dsimp only at hSw); go_simp; try (with_reducible rfl))
    try simp only [Act.put, List.setIfInBounds_toArray, List.set_cons_zero, List.set_cons_succ, List.getElem_toArray, List.getElem_cons_zero, List.getElem_cons_succ]
    refine wpAnyH_take (i := 5) (v := ?_) rfl (by kernel_rfl) (by kernel_rfl) (by kernel_rfl) (fun _ _ _ h => h) (Or.inl ⟨by rfl, ?_⟩) (by assumption) ?_
    rotate_left
    · (intro w hSw; (try dsimp only at hSw); go_simp; try (with_reducible rfl))
    try simp only [Act.put, List.setIfInBounds_toArray, List.set_cons_zero, List.set_cons_succ, List.getElem_toArray, List.getElem_cons_zero, List.getElem_cons_succ]
    refine wpAnyH_take (i := 6) (v := ?_) rfl (by kernel_rfl) (by kernel_rfl) (by kernel_rfl) (fun _ _ _ h => h) (Or.inl ⟨by rfl, ?_⟩) (by assumption) ?_
    rotate_left
    · (intro w hSw; (try dsimp only at hSw); go_simp; try (with_reducible rfl))
    try simp only [Act.put, List.setIfInBounds_toArray, List.set_cons_zero, List.set_cons_succ, List.getElem_toArray, List.getElem_cons_zero, List.getElem_cons_succ]
    refine wpAnyH_ready (rs := [3]) (by kernel_rfl) (by simp) ?_
    refine AllReadyH.cons rfl (fun K hK => ?_) AllReadyH.nil
    go_simp
    go_at_call 19
    refine (rout_own a cap _ l node _ (HR.out _ hHeld.1) (by have := HL.out; omega)).mono ?_
    rintro e w1 ⟨v9, rfl, hr9, b9⟩
    obtain ⟨A9, c9, rfl⟩ := hr9.slice
    have HC9 := Lib.hid hr9.cap.2
    have R9 := Lib.hid hr9.rd
    have B := hHeld.1.trans (b9.mono hHeld.1.size)
    clear hr9 b9
    refine hK.out _ _ (HS.out _ B) (fun hHeld => ?_)
    clear hK K
    try simp only [Act.put, List.setIfInBounds_toArray, List.set_cons_zero, List.set_cons_succ, List.getElem_toArray, List.getElem_cons_zero, List.getElem_cons_succ]
    refine wpAnyH_ready (rs := [7]) (by kernel_rfl) (by simp) ?_
    refine AllReadyH.cons rfl (fun K hK => ?_) AllReadyH.nil
    go_simp
    go_at_call 20
    refine (rin_any a cap _ l node _ (HR.out _ hHeld.1) (by have := HL.out; omega)).mono ?_
    rintro e w2 ⟨A10, c10, rfl, hr10, b10⟩
    have R9 := Lib.hid (R9.out.below b10)
    have R10 := Lib.hid hr10
    have B := hHeld.1.trans (b10.mono hHeld.1.size)
    clear hr10 b10
    refine hK.out _ _ (HS.out _ B) (fun hHeld => ?_)
    clear hK K
    try simp only [Act.put, List.setIfInBounds_toArray, List.set_cons_zero, List.set_cons_succ, List.getElem_toArray, List.getElem_cons_zero, List.getElem_cons_succ]
    refine wpAnyH_take (i := 8) (v := ?_) rfl (by kernel_rfl) (by kernel_rfl) (by kernel_rfl) (fun _ _ _ h => h) (Or.inl ⟨by rfl, ?_⟩) (by assumption) ?_
    rotate_left
    · (intro w hSw; (try dsimp only at hSw); go_simp; try (with_reducible rfl))
    try simp only [Act.put, List.setIfInBounds_toArray, List.set_cons_zero, List.set_cons_succ, List.getElem_toArray, List.getElem_cons_zero, List.getElem_cons_succ]
    refine wpAnyH_take (i := 9) (v := ?_) rfl (by kernel_rfl) (by kernel_rfl) (by kernel_rfl) (fun _ _ _ h => h) (Or.inl ⟨by rfl, ?_⟩) (by assumption) ?_
    rotate_left
    · (intro w hSw; (try dsimp only at hSw); go_simp; try (with_reducible rfl))
    try simp only [Act.put, List.setIfInBounds_toArray, List.set_cons_zero, List.set_cons_succ, List.getElem_toArray, List.getElem_cons_zero, List.getElem_cons_succ]
    refine wpAnyH_done (by kernel_rfl) ?_ _
    try simp only [Act.put, List.setIfInBounds_toArray, List.set_cons_zero, List.set_cons_succ, List.getElem_toArray, List.getElem_cons_zero, List.getElem_cons_succ]
    have HB3 := Lib.hid hHeld.1
    clear hHeld
    go_wp2_with fail
    have hM : 1 ≤ 1 + (m : Int) % 8 ∧ 1 + (m : Int) % 8 ≤ 8 := by omega
    generalize 1 + (m : Int) % 8 = most at *
    have HM := Lib.hid hM
    obtain ⟨zs, hzs⟩ : ∃ zs, (outs l node).take most.toNat = zs := ⟨_, rfl⟩
    have hzl : min most ((outs l node).length : Int) = ((zs.length : Nat) : Int) := by rw [← hzs, List.length_take]; omega
    have hzc : zs.length ≤ c9 := by rw [← hzs, List.length_take]; have := HC9.out; omega
    have hz8 : zs.length ≤ 8 := by rw [← hzs, List.length_take]; omega
    have HZ := Lib.hid (And.intro hzs (And.intro hzl hz8))
    clear hzs hzl hz8
    clear hM
    generalize w2 = wz at *
    refine wp_region_held_drew (S := fun w' => Below wz.heap.size wz w') (by kernel_rfl) ((Below.refl _ _).drew) (fun hHeld => ?_)
    refine wpAnyH_take (i := 0) (v := ?_) rfl (by kernel_rfl) (by kernel_rfl) (by kernel_rfl) (fun _ _ _ h => h) (Or.inl ⟨by rfl, ?_⟩) (by assumption) ?_
    rotate_left
    · (intro w hSw; (try dsimp only at hSw); go_simp; try (with_reducible rfl))
    try simp only [Act.put, List.setIfInBounds_toArray, List.set_cons_zero, List.set_cons_succ, List.getElem_toArray, List.getElem_cons_zero, List.getElem_cons_succ]
    refine wpAnyH_take (i := 1) (v := ?_) rfl (by kernel_rfl) (by kernel_rfl) (by kernel_rfl) (fun _ _ _ h => h) (Or.inl ⟨by rfl, ?_⟩) (by assumption) ?_
    rotate_left
    · (intro w hSw; (try dsimp only at hSw); go_simp; try (with_reducible rfl))
    try simp only [Act.put, List.setIfInBounds_toArray, List.set_cons_zero, List.set_cons_succ, List.getElem_toArray, List.getElem_cons_zero, List.getElem_cons_succ]
    refine wpAnyH_take (i := 4) (v := ?_) rfl (by kernel_rfl) (by kernel_rfl) (by kernel_rfl) (fun _ _ _ h => h) (Or.inl ⟨by rfl, ?_⟩) (by assumption) ?_
    rotate_left
    · (intro w hSw; (try dsimp only at hSw); go_simp; try (with_reducible rfl))
    try simp only [Act.put, List.setIfInBounds_toArray, List.set_cons_zero, List.set_cons_succ, List.getElem_toArray, List.getElem_cons_zero, List.getElem_cons_succ]
    refine wpAnyH_ready (rs := [2]) (by kernel_rfl) (by simp) ?_
    refine AllReadyH.cons rfl (fun K hK => ?_) AllReadyH.nil
    go_simp
    go_at_call 23
    have hG := HG2.out _ (HB3.out.trans (hHeld.mono HB3.out.size))
    refine (outE_seq _ lo _ G N l node hG.1 hG.2 (by have := HL.out; omega)).mono ?_
    rintro e w4 ⟨b1, b2, rfl, b4, hq⟩
    have SQ := Lib.hid hq
    have B := hHeld.trans (b4.mono hHeld.size)
    clear b4 hq hG
    refine hK.out _ _ (B) (fun hHeld => ?_)
    clear hK K
    try simp only [Act.put, List.setIfInBounds_toArray, List.set_cons_zero, List.set_cons_succ, List.getElem_toArray, List.getElem_cons_zero, List.getElem_cons_succ]
    refine wpAnyH_ready (rs := [3]) (by kernel_rfl) (by simp) ?_
    refine AllReadyH.cons rfl (fun K hK => ?_) AllReadyH.nil
    go_simp
    go_at_call 22
    refine (takeS_all SQ.out (by have := HL.out; have := HFw.out.1; omega)).mono ?_
    rintro e w4 ⟨AT, cT, rfl, hT, b4⟩
    have RT := Lib.hid hT
    have B := hHeld.trans (b4.mono hHeld.size)
    clear b4 hT SQ
    refine hK.out _ _ (B) (fun hHeld => ?_)
    clear hK K
    try simp only [Act.put, List.setIfInBounds_toArray, List.set_cons_zero, List.set_cons_succ, List.getElem_toArray, List.getElem_cons_zero, List.getElem_cons_succ]
    refine wpAnyH_ready (rs := [5]) (by kernel_rfl) (by simp) ?_
    refine AllReadyH.cons rfl (fun K hK => ?_) AllReadyH.nil
    go_simp
    go_at_call 21
    refine (rsame_any _ _ _ _ _ _ _ _ _ RT.out (R9.out.below (hHeld)) (by have := HL.out; have := HFw.out.1; have := HFw.out.2; (try rw [List.length_take]); omega) (by have := HL.out; have := HFw.out.1; have := HFw.out.2; (try rw [List.length_take]); omega)).mono ?_
    rintro e w4 ⟨rfl, b4⟩
    rw [decide_eq_true (Eq.refl _)]
    have B := hHeld.trans (b4.mono hHeld.size)
    clear b4 RT
    refine hK.out _ _ (B) (fun hHeld => ?_)
    clear hK K
    try simp only [Act.put, List.setIfInBounds_toArray, List.set_cons_zero, List.set_cons_succ, List.getElem_toArray, List.getElem_cons_zero, List.getElem_cons_succ]
    refine wpAnyH_take (i := 6) (v := ?_) rfl (by kernel_rfl) (by kernel_rfl) (by kernel_rfl) (fun _ _ _ h => h) (Or.inl ⟨by rfl, ?_⟩) (by assumption) ?_
    rotate_left
    · (intro w hSw; (try dsimp only at hSw); go_simp; try (with_reducible rfl))
    try simp only [Act.put, List.setIfInBounds_toArray, List.set_cons_zero, List.set_cons_succ, List.getElem_toArray, List.getElem_cons_zero, List.getElem_cons_succ]
    refine wpAnyH_take (i := 7) (v := ?_) rfl (by kernel_rfl) (by kernel_rfl) (by kernel_rfl) (fun _ _ _ h => h) (Or.inl ⟨by rfl, ?_⟩) (by assumption) ?_
    rotate_left
    · (intro w hSw; (try dsimp only at hSw); go_simp; try (with_reducible rfl))
    try simp only [Act.put, List.setIfInBounds_toArray, List.set_cons_zero, List.set_cons_succ, List.getElem_toArray, List.getElem_cons_zero, List.getElem_cons_succ]
    refine wpAnyH_take (i := 8) (v := ?_) rfl (by kernel_rfl) (by kernel_rfl) (by kernel_rfl) (fun _ _ _ h => h) (Or.inl ⟨by rfl, ?_⟩) (by assumption) ?_
    rotate_left
    · (intro w hSw; (try dsimp only at hSw); go_simp; try (with_reducible rfl))
    try simp only [Act.put, List.setIfInBounds_toArray, List.set_cons_zero, List.set_cons_succ, List.getElem_toArray, List.getElem_cons_zero, List.getElem_cons_succ]
    refine wpAnyH_take (i := 11) (v := ?_) rfl (by kernel_rfl) (by kernel_rfl) (by kernel_rfl) (fun _ _ _ h => h) (Or.inl ⟨by rfl, ?_⟩) (by assumption) ?_
    rotate_left
    · (intro w hSw; (try dsimp only at hSw); go_simp; try (with_reducible rfl))
    try simp only [Act.put, List.setIfInBounds_toArray, List.set_cons_zero, List.set_cons_succ, List.getElem_toArray, List.getElem_cons_zero, List.getElem_cons_succ]
    refine wpAnyH_ready (rs := [9]) (by kernel_rfl) (by simp) ?_
    refine AllReadyH.cons rfl (fun K hK => ?_) AllReadyH.nil
    go_simp
    go_at_call 24
    have hG := HG2.out _ (HB3.out.trans (hHeld.mono HB3.out.size))
    refine (inE_seq _ lo _ G N l node hG.1 hG.2 (by have := HL.out; omega)).mono ?_
    rintro e w4 ⟨b1, b2, rfl, b4, hq⟩
    have SQ := Lib.hid hq
    have B := hHeld.trans (b4.mono hHeld.size)
    clear b4 hq hG
    refine hK.out _ _ (B) (fun hHeld => ?_)
    clear hK K
    try simp only [Act.put, List.setIfInBounds_toArray, List.set_cons_zero, List.set_cons_succ, List.getElem_toArray, List.getElem_cons_zero, List.getElem_cons_succ]
    refine wpAnyH_ready (rs := [10]) (by kernel_rfl) (by simp) ?_
    refine AllReadyH.cons rfl (fun K hK => ?_) AllReadyH.nil
    go_simp
    go_at_call 22
    refine (takeS_all SQ.out (by have := HL.out; have := HFw.out.2; omega)).mono ?_
    rintro e w4 ⟨AT, cT, rfl, hT, b4⟩
    have RT := Lib.hid hT
    have B := hHeld.trans (b4.mono hHeld.size)
    clear b4 hT SQ
    refine hK.out _ _ (B) (fun hHeld => ?_)
    clear hK K
    try simp only [Act.put, List.setIfInBounds_toArray, List.set_cons_zero, List.set_cons_succ, List.getElem_toArray, List.getElem_cons_zero, List.getElem_cons_succ]
    refine wpAnyH_ready (rs := [12]) (by kernel_rfl) (by simp) ?_
    refine AllReadyH.cons rfl (fun K hK => ?_) AllReadyH.nil
    go_simp
    go_at_call 21
    refine (rsame_any _ _ _ _ _ _ _ _ _ RT.out (R10.out.below (hHeld)) (by have := HL.out; have := HFw.out.1; have := HFw.out.2; (try rw [List.length_take]); omega) (by have := HL.out; have := HFw.out.1; have := HFw.out.2; (try rw [List.length_take]); omega)).mono ?_
    rintro e w4 ⟨rfl, b4⟩
    rw [decide_eq_true (Eq.refl _)]
    have B := hHeld.trans (b4.mono hHeld.size)
    clear b4 RT
    refine hK.out _ _ (B) (fun hHeld => ?_)
    clear hK K
    try simp only [Act.put, List.setIfInBounds_toArray, List.set_cons_zero, List.set_cons_succ, List.getElem_toArray, List.getElem_cons_zero, List.getElem_cons_succ]
    refine wpAnyH_take (i := 13) (v := ?_) rfl (by kernel_rfl) (by kernel_rfl) (by kernel_rfl) (fun _ _ _ h => h) (Or.inl ⟨by rfl, ?_⟩) (by assumption) ?_
    rotate_left
    · (intro w hSw; (try dsimp only at hSw); go_simp; try (with_reducible rfl))
    try simp only [Act.put, List.setIfInBounds_toArray, List.set_cons_zero, List.set_cons_succ, List.getElem_toArray, List.getElem_cons_zero, List.getElem_cons_succ]
    refine wpAnyH_take (i := 14) (v := ?_) rfl (by kernel_rfl) (by kernel_rfl) (by kernel_rfl) (fun _ _ _ h => h) (Or.inl ⟨by rfl, ?_⟩) (by assumption) ?_
    rotate_left
    · (intro w hSw; (try dsimp only at hSw); go_simp; try (with_reducible rfl))
    try simp only [Act.put, List.setIfInBounds_toArray, List.set_cons_zero, List.set_cons_succ, List.getElem_toArray, List.getElem_cons_zero, List.getElem_cons_succ]
    refine wpAnyH_take (i := 15) (v := ?_) rfl (by kernel_rfl) (by kernel_rfl) (by kernel_rfl) (fun _ _ _ h => h) (Or.inl ⟨by rfl, ?_⟩) (by assumption) ?_
    rotate_left
    · (intro w hSw; (try dsimp only at hSw); go_simp; try (with_reducible rfl))
    try simp only [Act.put, List.setIfInBounds_toArray, List.set_cons_zero, List.set_cons_succ, List.getElem_toArray, List.getElem_cons_zero, List.getElem_cons_succ]
    refine wpAnyH_take (i := 16) (v := ?_) rfl (by kernel_rfl) (by kernel_rfl) (by kernel_rfl) (fun _ _ _ h => h) (Or.inl ⟨by rfl, ?_⟩) (by assumption) ?_
    rotate_left
    · (intro w hSw; (try dsimp only at hSw); go_simp; try (with_reducible rfl))
    try simp only [Act.put, List.setIfInBounds_toArray, List.set_cons_zero, List.set_cons_succ, List.getElem_toArray, List.getElem_cons_zero, List.getElem_cons_succ]
    refine wpAnyH_take (i := 18) (v := ?_) rfl (by kernel_rfl) (by kernel_rfl) (by kernel_rfl) (fun _ _ _ h => h) (Or.inl ⟨by rfl, ?_⟩) (by assumption) ?_
    rotate_left
    · (intro w hSw; (try dsimp only at hSw); go_simp; try (with_reducible rfl))
    try simp only [Act.put, List.setIfInBounds_toArray, List.set_cons_zero, List.set_cons_succ, List.getElem_toArray, List.getElem_cons_zero, List.getElem_cons_succ]
    refine wpAnyH_take (i := 20) (v := ?_) rfl (by kernel_rfl) (by kernel_rfl) (by kernel_rfl) (fun _ _ _ h => h) (Or.inl ⟨by rfl, ?_⟩) (by assumption) ?_
    rotate_left
    · (intro w hSw; (try dsimp only at hSw); go_simp; try (with_reducible rfl))
    try simp only [Act.put, List.setIfInBounds_toArray, List.set_cons_zero, List.set_cons_succ, List.getElem_toArray, List.getElem_cons_zero, List.getElem_cons_succ]
    refine wpAnyH_take (i := 21) (v := ?_) rfl (by kernel_rfl) (by kernel_rfl) (by kernel_rfl) (fun _ _ _ h => h) (Or.inl ⟨by rfl, ?_⟩) (by assumption) ?_
    rotate_left
    · (intro w hSw; (try dsimp only at hSw); go_simp; try (with_reducible rfl))
    try simp only [Act.put, List.setIfInBounds_toArray, List.set_cons_zero, List.set_cons_succ, List.getElem_toArray, List.getElem_cons_zero, List.getElem_cons_succ]
    refine wpAnyH_take (i := 22) (v := ?_) rfl (by kernel_rfl) (by kernel_rfl) (by kernel_rfl) (fun _ _ _ h => h) (Or.inl ⟨by rfl, ?_⟩) (by assumption) ?_
    rotate_left
    · (intro w hSw; (try dsimp only at hSw); go_simp; try (with_reducible rfl))
    try simp only [Act.put, List.setIfInBounds_toArray, List.set_cons_zero, List.set_cons_succ, List.getElem_toArray, List.getElem_cons_zero, List.getElem_cons_succ]
    refine wpAnyH_take (i := 23) (v := ?_) rfl (by kernel_rfl) (by kernel_rfl) (by kernel_rfl) (fun _ _ _ h => h) (Or.inl ⟨by rfl, ?_⟩) (by assumption) ?_
    rotate_left
    · (intro w hSw; (try dsimp only at hSw); go_simp; try (with_reducible rfl))
    try simp only [Act.put, List.setIfInBounds_toArray, List.set_cons_zero, List.set_cons_succ, List.getElem_toArray, List.getElem_cons_zero, List.getElem_cons_succ]
    refine wpAnyH_take (i := 24) (v := ?_) rfl (by kernel_rfl) (by kernel_rfl) (by kernel_rfl) (fun _ _ _ h => h) (Or.inl ⟨by rfl, ?_⟩) (by assumption) ?_
    rotate_left
    · (intro w hSw; (try dsimp only at hSw); go_simp; try (with_reducible rfl))
    try simp only [Act.put, List.setIfInBounds_toArray, List.set_cons_zero, List.set_cons_succ, List.getElem_toArray, List.getElem_cons_zero, List.getElem_cons_succ]
    rw [HZ.out.2.1]
    refine wpAnyH_take (i := 25) (v := ?_) rfl (by kernel_rfl) (by kernel_rfl) (by kernel_rfl) (fun _ _ _ h => h) (Or.inl ⟨by rfl, ?_⟩) (by assumption) ?_
    rotate_left
    · (intro w hSw; (try dsimp only at hSw); go_simp; try (with_reducible rfl))
    try simp only [Act.put, List.setIfInBounds_toArray, List.set_cons_zero, List.set_cons_succ, List.getElem_toArray, List.getElem_cons_zero, List.getElem_cons_succ]
    refine wpAnyH_ready (rs := [17]) (by kernel_rfl) (by simp) ?_
    refine AllReadyH.cons rfl (fun K hK => ?_) AllReadyH.nil
    go_simp
    go_at_call 23
    have hG := HG2.out _ (HB3.out.trans (hHeld.mono HB3.out.size))
    refine (outE_seq _ lo _ G N l node hG.1 hG.2 (by have := HL.out; omega)).mono ?_
    rintro e w4 ⟨b1, b2, rfl, b4, hq⟩
    have SQ := Lib.hid hq
    have B := hHeld.trans (b4.mono hHeld.size)
    clear b4 hq hG
    refine hK.out _ _ (B) (fun hHeld => ?_)
    clear hK K
    try simp only [Act.put, List.setIfInBounds_toArray, List.set_cons_zero, List.set_cons_succ, List.getElem_toArray, List.getElem_cons_zero, List.getElem_cons_succ]
    refine wpAnyH_ready (rs := [19]) (by kernel_rfl) (by simp) ?_
    refine AllReadyH.cons rfl (fun K hK => ?_) AllReadyH.nil
    go_simp
    go_at_call 22
    have hk := takeS_any SQ.out HM.out.1
    rw [HZ.out.1] at hk
    refine hk.mono ?_
    rintro e w4 ⟨AT, cT, rfl, hT, b4⟩
    have RT := Lib.hid hT
    have B := hHeld.trans (b4.mono hHeld.size)
    clear b4 hT SQ hk
    refine hK.out _ _ (B) (fun hHeld => ?_)
    clear hK K
    try simp only [Act.put, List.setIfInBounds_toArray, List.set_cons_zero, List.set_cons_succ, List.getElem_toArray, List.getElem_cons_zero, List.getElem_cons_succ]
    refine wpAnyH_ready (rs := [26]) (by kernel_rfl) (by simp) ?_
    refine AllReadyH.cons rfl (fun K hK => ?_) AllReadyH.nil
    go_simp
    go_at_call 21
    have hz9 := (R9.out.below hHeld).take most.toNat
    rw [HZ.out.1] at hz9
    refine (rsame_any _ _ _ _ _ _ _ _ _ RT.out hz9 (by have := HZ.out.2.2; omega) (by have := HZ.out.2.2; omega)).mono ?_
    rintro e w4 ⟨rfl, b4⟩
    rw [decide_eq_true (Eq.refl _)]
    have B := hHeld.trans (b4.mono hHeld.size)
    clear b4 RT hz9
    refine hK.out _ _ (B) (fun hHeld => ?_)
    clear hK K
    try simp only [Act.put, List.setIfInBounds_toArray, List.set_cons_zero, List.set_cons_succ, List.getElem_toArray, List.getElem_cons_zero, List.getElem_cons_succ]
    refine wpAnyH_take (i := 27) (v := ?_) rfl (by kernel_rfl) (by kernel_rfl) (by kernel_rfl) (fun _ _ _ h => h) (Or.inl ⟨by rfl, ?_⟩) (by assumption) ?_
    rotate_left
    · (intro w hSw; (try dsimp only at hSw); go_simp; try (with_reducible rfl))
    try simp only [Act.put, List.setIfInBounds_toArray, List.set_cons_zero, List.set_cons_succ, List.getElem_toArray, List.getElem_cons_zero, List.getElem_cons_succ]
    refine wpAnyH_take (i := 28) (v := ?_) rfl (by kernel_rfl) (by kernel_rfl) (by kernel_rfl) (fun _ _ _ h => h) (Or.inl ⟨by rfl, ?_⟩) (by assumption) ?_
    rotate_left
    · (intro w hSw; (try dsimp only at hSw); go_simp; try (with_reducible rfl))
    try simp only [Act.put, List.setIfInBounds_toArray, List.set_cons_zero, List.set_cons_succ, List.getElem_toArray, List.getElem_cons_zero, List.getElem_cons_succ]
    refine wpAnyH_done (by kernel_rfl) ?_ _
    try simp only [Act.put, List.setIfInBounds_toArray, List.set_cons_zero, List.set_cons_succ, List.getElem_toArray, List.getElem_cons_zero, List.getElem_cons_succ]
    have HFin := Lib.hid (then_ HBW.out (HB3.out.trans (hHeld.mono HB3.out.size)))
    clear hHeld
    go_wp2_with fail
    go_ret
    exact ⟨by simp, HFin.out⟩
end Go.Proofs.YtabciepnbmliiaaDoor
