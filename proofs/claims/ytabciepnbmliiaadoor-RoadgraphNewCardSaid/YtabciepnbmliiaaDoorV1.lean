/- The law on New: walk. -/
import Derived.Test.YtabciepnbmliiaaDoorV5
set_option linter.unusedVariables false
set_option linter.unusedSimpArgs false
set_option maxRecDepth 100000
namespace Go.Proofs.YtabciepnbmliiaaDoor
open Go.RowKit Go.Lib Go.Shelf Rg Nds

set_option maxHeartbeats 20000000 in
theorem lawNew (v : Value) (N : Int) (l : List Ed3) (i : Int) (W : World) (hn : NetIn W v N l) (hi : I64 i) (hE : Env W) :
    Calls Tryd.prog 3 #[v, .int .i64 i] W fun e w' => e = .returned (.bool true) ∧ Below W.heap.size W w' := by
  obtain ⟨a, cap, rfl, hre, hcap, hcm⟩ := hn.ex
  have b0 : Below W.heap.size W (W.alloc (.cells #[.int .i64 N, .slice a l.length cap] 24)) := (Below.refl W.heap.size W).alloc (Nat.le_refl _) _
  have hn0 := hn.below b0
  have hw0 := wakes_any _ (hE.of b0)
  have HW := Lib.hid hw0
  have HB0 := Lib.hid b0
  have HN := Lib.hid hn0
  have HA := Lib.hid (And.intro hre hE)
  clear hw0 b0 hn0 hn hE hre
  have hbx := net_box (W := W) (N := N) (a := a) (k := l.length) (cap := cap)
  go_enter Tryd.func3, Tryd.ntmps3
  go_wp2_with fail
  refine HW.out.mono ?_
  rintro e w0 ⟨rfl, hB0⟩
  have h1 := (hB0.block _ (Array.getElem?_eq_some_iff.1 hbx).1).trans hbx
  have hn1 := HN.out.below hB0
  have B0 := then_ HB0.out hB0
  have c0 := cell_of_row _ _ 0 _ _ _ h1
  have c1 := cell_of_row _ _ 1 _ _ _ h1
  have HB := Lib.hid (And.intro B0 (And.intro h1 hn1))
  clear hB0 B0 h1 hn1 HW HB0 HN hbx
  by_cases h200 : (200 : Int) < (l.length : Int)
  · go_wp2_with fail
    go_ret
    exact ⟨rfl, HB.out.1⟩
  go_wp2_with fail
  refine (new_any a cap l.length l N w0 (HA.out.1.below HB.out.1) (by omega)).mono ?_
  rintro e w1 ⟨hB1, h⟩
  have HB1 := Lib.hid (then_ HB.out.1 hB1)
  have h1 := keepH HB.out.2.1 hB1
  have HW := Lib.hid (fun w' (hb : Below w1.heap.size w1 w') => rwrong_any a cap l.length l N w' (HA.out.1.below (then_ HB1.out hb)) (by omega))
  have HC := Lib.hid (fun w' (hb : Below w1.heap.size w1 w') => show w'.cell? ⟨W.heap.size, 0, none⟩ = some (.int .i64 N) ∧ w'.cell? ⟨W.heap.size, 1, none⟩ = some (.slice a l.length cap) from ⟨cell_of_row _ _ 0 _ _ _ (keepH h1 hb), cell_of_row _ _ 1 _ _ _ (keepH h1 hb)⟩)
  have c0 := cell_of_row _ _ 0 _ _ _ h1
  have c1 := cell_of_row _ _ 1 _ _ _ h1
  clear hB1 h1
  rcases h with ⟨h0, rfl⟩ | ⟨h0, G, rfl, hG⟩
  · generalize wrong N l = q at *
    have hq : (q == 0) = false := by simpa using h0
    go_wp2_with fail
    refine (HW.out _ (Below.refl _ _)).mono ?_
    rintro e w2 ⟨rfl, b2⟩
    have HB2 := Lib.hid b2
    obtain ⟨c0, c1⟩ := HC.out w2 b2
    clear b2
    go_wp2_with fail
    refine (HW.out _ HB2.out).mono ?_
    rintro e w3 ⟨rfl, b3⟩
    have HB3 := Lib.hid (then_ HB1.out (then_ HB2.out b3))
    clear b3
    go_wp2_with fail
    go_ret
    exact ⟨rfl, HB3.out⟩
  · have hF := fair_iff.1 h0
    have hN1 := hF.lo
    have hl := hF.few
    have hN2 := hF.hi
    obtain ⟨N, rfl⟩ : ∃ k : Nat, N = (k : Int) := ⟨N.toNat, by omega⟩
    rw [Int.toNat_natCast] at hG
    rw [h0] at HW
    have HG := Lib.hid hG
    have HF := Lib.hid hF
    clear hG hF h0
    go_wp2_with fail
    refine (HW.out _ (Below.refl _ _)).mono ?_
    rintro e w2 ⟨rfl, b2⟩
    have HB2 := Lib.hid b2
    clear c0 c1
    obtain ⟨c0, c1⟩ := HC.out w2 b2
    clear b2
    go_wp2_with fail
    obtain ⟨AE, cE, AO, cO, AI, cI, hd0, hd1, hd2, hRe, _⟩ := (HG.out.below HB2.out).head
    refine (times_any G AE cE l w2 hd0 hRe hl).mono ?_
    rintro e w3 ⟨vt, rfl, hT, b3⟩
    obtain ⟨At, ct, rfl⟩ := hT.slice
    have HB3 := Lib.hid (then_ HB2.out b3)
    have HT := Lib.hid (And.intro hT (show (l.map fun x => x.2.2).length = l.length by simp))
    clear hT hd0 hd1 hd2 hRe b3 c0 c1
    have HS := Lib.hid (fun w' (hb : Below w3.heap.size w3 w') => show Below w3.heap.size w3 w' ∧ w'.cell? ⟨W.heap.size, 0, none⟩ = some (.int .i64 (N : Int)) ∧ w'.cell? ⟨W.heap.size, 1, none⟩ = some (.slice a l.length cap) from
      ⟨hb, HC.out w' (then_ HB3.out hb)⟩)
    have HR := Lib.hid (fun w' (hb : Below w3.heap.size w3 w') => HA.out.1.below (then_ HB1.out (then_ HB3.out hb)))
    have HGb := Lib.hid (fun w' (hb : Below w3.heap.size w3 w') => HG.out.below (then_ HB3.out hb))
    have HTl := Lib.hid HT.out.2
    rw [HTl.out]
    go_wp2_with fail
    refine wp_region_held_drew (S := fun w' => Below w3.heap.size w3 w' ∧ w'.cell? ⟨W.heap.size, 0, none⟩ = some (.int .i64 (N : Int)) ∧ w'.cell? ⟨W.heap.size, 1, none⟩ = some (.slice a l.length cap)) (by kernel_rfl) (HS.out _ (Below.refl _ _).drew) (fun hHeld => ?_)
    refine wpAnyH_take (i := 0) (v := ?_) rfl (by kernel_rfl) (by kernel_rfl) (by kernel_rfl) (fun _ _ _ h => h) (Or.inl ⟨by rfl, ?_⟩) (by assumption) ?_
    rotate_left
    · (intro w hSw; (try dsimp only at hSw); go_simp; try (with_reducible rfl))
    try simp only [Act.put, List.setIfInBounds_toArray, List.set_cons_zero, List.set_cons_succ, List.getElem_toArray, List.getElem_cons_zero, List.getElem_cons_succ]
    refine wpAnyH_take (i := 2) (v := ?_) rfl (by kernel_rfl) (by kernel_rfl) (by kernel_rfl) (fun _ _ _ h => h) (Or.inl ⟨by rfl, ?_⟩) (by assumption) ?_
    rotate_left
    · (intro w hSw; (try dsimp only at hSw); go_simp; try (with_reducible rfl))
    try simp only [Act.put, List.setIfInBounds_toArray, List.set_cons_zero, List.set_cons_succ, List.getElem_toArray, List.getElem_cons_zero, List.getElem_cons_succ]
    refine wpAnyH_take (i := 3) (v := ?_) rfl (by kernel_rfl) (by kernel_rfl) (by kernel_rfl) (fun _ _ _ h => h) (Or.inl ⟨by rfl, ?_⟩) (by assumption) ?_
    rotate_left
    · (intro w hSw; (try dsimp only at hSw); go_simp; try (with_reducible rfl))
    try simp only [Act.put, List.setIfInBounds_toArray, List.set_cons_zero, List.set_cons_succ, List.getElem_toArray, List.getElem_cons_zero, List.getElem_cons_succ]
    refine wpAnyH_ready (rs := [1]) (by kernel_rfl) (by simp) ?_
    refine AllReadyH.cons rfl (fun K hK => ?_) AllReadyH.nil
    go_simp
    go_at_call 14
    obtain ⟨AE, cE, AO, cO, AI, cI, hd0, hd1, _⟩ := (HGb.out _ hHeld.1).head
    refine (nodes_any G N _ _ _ hd1).mono ?_
    rintro e w' ⟨rfl, rfl⟩
    clear hd0 hd1
    refine hK.out _ _ (hHeld) (fun hHeld => ?_)
    clear hK K
    try simp only [Act.put, List.setIfInBounds_toArray, List.set_cons_zero, List.set_cons_succ, List.getElem_toArray, List.getElem_cons_zero, List.getElem_cons_succ]
    refine wpAnyH_take (i := 4) (v := ?_) rfl (by kernel_rfl) (by kernel_rfl) (by kernel_rfl) (fun _ _ _ h => h) (Or.inl ⟨by rfl, ?_⟩) (by assumption) ?_
    rotate_left
    · (intro w hSw; (try dsimp only at hSw); go_simp; try (with_reducible rfl))
    try simp only [Act.put, List.setIfInBounds_toArray, List.set_cons_zero, List.set_cons_succ, List.getElem_toArray, List.getElem_cons_zero, List.getElem_cons_succ]
    refine wpAnyH_take (i := 5) (v := ?_) rfl (by kernel_rfl) (by kernel_rfl) (by kernel_rfl) (fun _ _ _ h => h) (Or.inl ⟨by rfl, ?_⟩) (by assumption) ?_
    rotate_left
    · (intro w hSw; (try dsimp only at hSw); go_simp; try (with_reducible rfl))
    try simp only [Act.put, List.setIfInBounds_toArray, List.set_cons_zero, List.set_cons_succ, List.getElem_toArray, List.getElem_cons_zero, List.getElem_cons_succ]
    refine wpAnyH_take (i := 6) (v := ?_) rfl (by kernel_rfl) (by kernel_rfl) (by kernel_rfl) (fun _ _ _ h => h) (Or.inl ⟨by rfl, ?_⟩) (by assumption) ?_
    rotate_left
    · (intro w hSw; (try dsimp only at hSw); go_simp; try (with_reducible rfl))
    try simp only [Act.put, List.setIfInBounds_toArray, List.set_cons_zero, List.set_cons_succ, List.getElem_toArray, List.getElem_cons_zero, List.getElem_cons_succ]
    refine wpAnyH_take (i := 8) (v := ?_) rfl (by kernel_rfl) (by kernel_rfl) (by kernel_rfl) (fun _ _ _ h => h) (Or.inl ⟨by rfl, ?_⟩) (by assumption) ?_
    rotate_left
    · (intro w hSw; (try dsimp only at hSw); go_simp; try (with_reducible rfl))
    try simp only [Act.put, List.setIfInBounds_toArray, List.set_cons_zero, List.set_cons_succ, List.getElem_toArray, List.getElem_cons_zero, List.getElem_cons_succ]
    refine wpAnyH_take (i := 9) (v := ?_) rfl (by kernel_rfl) (by kernel_rfl) (by kernel_rfl) (fun _ _ _ h => h) (Or.inl ⟨by rfl, ?_⟩) (by assumption) ?_
    rotate_left
    · (intro w hSw; (try dsimp only at hSw); go_simp; try (with_reducible rfl))
    try simp only [Act.put, List.setIfInBounds_toArray, List.set_cons_zero, List.set_cons_succ, List.getElem_toArray, List.getElem_cons_zero, List.getElem_cons_succ]
    refine wpAnyH_take (i := 10) (v := ?_) rfl (by kernel_rfl) (by kernel_rfl) (by kernel_rfl) (fun _ _ _ h => h) (Or.inl ⟨by rfl, ?_⟩) (by assumption) ?_
    rotate_left
    · (intro w hSw; (try dsimp only at hSw); go_simp; try (with_reducible rfl))
    try simp only [Act.put, List.setIfInBounds_toArray, List.set_cons_zero, List.set_cons_succ, List.getElem_toArray, List.getElem_cons_zero, List.getElem_cons_succ]
    refine wpAnyH_ready (rs := [7]) (by kernel_rfl) (by simp) ?_
    refine AllReadyH.cons rfl (fun K hK => ?_) AllReadyH.nil
    go_simp
    go_at_call 15
    obtain ⟨AE, cE, AO, cO, AI, cI, hd0, hd1, _⟩ := (HGb.out _ hHeld.1).head
    refine (edges_any G l.length _ _ _ hd0).mono ?_
    rintro e w' ⟨rfl, rfl⟩
    clear hd0 hd1
    refine hK.out _ _ (hHeld) (fun hHeld => ?_)
    clear hK K
    try simp only [Act.put, List.setIfInBounds_toArray, List.set_cons_zero, List.set_cons_succ, List.getElem_toArray, List.getElem_cons_zero, List.getElem_cons_succ]
    refine wpAnyH_take (i := 11) (v := ?_) rfl (by kernel_rfl) (by kernel_rfl) (by kernel_rfl) (fun _ _ _ h => h) (Or.inl ⟨by rfl, ?_⟩) (by assumption) ?_
    rotate_left
    · (intro w hSw; (try dsimp only at hSw); go_simp; try (with_reducible rfl))
    try simp only [Act.put, List.setIfInBounds_toArray, List.set_cons_zero, List.set_cons_succ, List.getElem_toArray, List.getElem_cons_zero, List.getElem_cons_succ]
    refine wpAnyH_take (i := 12) (v := ?_) rfl (by kernel_rfl) (by kernel_rfl) (by kernel_rfl) (fun _ _ _ h => h) (Or.inl ⟨by rfl, ?_⟩) (by assumption) ?_
    rotate_left
    · (intro w hSw; (try dsimp only at hSw); go_simp; try (with_reducible rfl))
    try simp only [Act.put, List.setIfInBounds_toArray, List.set_cons_zero, List.set_cons_succ, List.getElem_toArray, List.getElem_cons_zero, List.getElem_cons_succ]
    refine wpAnyH_take (i := 13) (v := ?_) rfl (by kernel_rfl) (by kernel_rfl) (by kernel_rfl) (fun _ _ _ h => h) (Or.inl ⟨by rfl, ?_⟩) (by assumption) ?_
    rotate_left
    · (intro w hSw; (try dsimp only at hSw); go_simp; try (with_reducible rfl))
    try simp only [Act.put, List.setIfInBounds_toArray, List.set_cons_zero, List.set_cons_succ, List.getElem_toArray, List.getElem_cons_zero, List.getElem_cons_succ]
    refine wpAnyH_take (i := 14) (v := ?_) rfl (by kernel_rfl) (by kernel_rfl) (by kernel_rfl) (fun _ _ _ h => h) (Or.inl ⟨by rfl, ?_⟩) (by assumption) ?_
    rotate_left
    · (intro w hSw; (try dsimp only at hSw); go_simp; try (with_reducible rfl))
    try simp only [Act.put, List.setIfInBounds_toArray, List.set_cons_zero, List.set_cons_succ, List.getElem_toArray, List.getElem_cons_zero, List.getElem_cons_succ]
    refine wpAnyH_take (i := 15) (v := ?_) rfl (by kernel_rfl) (by kernel_rfl) (by kernel_rfl) (fun _ _ _ h => h) (Or.inl ⟨by rfl, ?_⟩) (by assumption) ?_
    rotate_left
    · (intro w hSw; (try dsimp only at hSw); go_simp; try (with_reducible rfl))
    try simp only [Act.put, List.setIfInBounds_toArray, List.set_cons_zero, List.set_cons_succ, List.getElem_toArray, List.getElem_cons_zero, List.getElem_cons_succ]
    refine wpAnyH_take (i := 16) (v := ?_) rfl (by kernel_rfl) (by kernel_rfl) (by kernel_rfl) (fun _ _ _ h => h) (Or.inl ⟨by rfl, ?_⟩) (by assumption) ?_
    rotate_left
    · (intro w hSw; (try dsimp only at hSw); go_simp; try (with_reducible rfl))
    try simp only [Act.put, List.setIfInBounds_toArray, List.set_cons_zero, List.set_cons_succ, List.getElem_toArray, List.getElem_cons_zero, List.getElem_cons_succ]
    refine wpAnyH_take (i := 17) (v := ?_) rfl (by kernel_rfl) (by kernel_rfl) (by kernel_rfl) (fun _ _ _ h => h) (Or.inl ⟨by rfl, ?_⟩) (by assumption) ?_
    rotate_left
    · (intro w hSw; (try dsimp only at hSw); go_simp; try (with_reducible rfl))
    try simp only [Act.put, List.setIfInBounds_toArray, List.set_cons_zero, List.set_cons_succ, List.getElem_toArray, List.getElem_cons_zero, List.getElem_cons_succ]
    refine wpAnyH_take (i := 18) (v := ?_) rfl (by kernel_rfl) (by kernel_rfl) (by kernel_rfl) (fun _ _ _ h => h) (Or.inl ⟨by rfl, ?_⟩) (by assumption) ?_
    rotate_left
    · (intro w hSw; (try dsimp only at hSw); go_simp; try (with_reducible rfl))
    try simp only [Act.put, List.setIfInBounds_toArray, List.set_cons_zero, List.set_cons_succ, List.getElem_toArray, List.getElem_cons_zero, List.getElem_cons_succ]
    refine wpAnyH_take (i := 19) (v := ?_) rfl (by kernel_rfl) (by kernel_rfl) (by kernel_rfl) (fun _ _ _ h => h) (Or.inl ⟨by rfl, ?_⟩) (by assumption) ?_
    rotate_left
    · (intro w hSw; (try dsimp only at hSw); go_simp; try (with_reducible rfl))
    try simp only [Act.put, List.setIfInBounds_toArray, List.set_cons_zero, List.set_cons_succ, List.getElem_toArray, List.getElem_cons_zero, List.getElem_cons_succ]
    refine wpAnyH_take (i := 20) (v := ?_) rfl (by kernel_rfl) (by kernel_rfl) (by kernel_rfl) (fun _ _ _ h => h) (Or.inl ⟨by rfl, ?_⟩) (by assumption) ?_
    rotate_left
    · (intro w hSw; (try dsimp only at hSw); go_simp; try (with_reducible rfl))
    try simp only [Act.put, List.setIfInBounds_toArray, List.set_cons_zero, List.set_cons_succ, List.getElem_toArray, List.getElem_cons_zero, List.getElem_cons_succ]
    refine wpAnyH_done (by kernel_rfl) ?_ _
    try simp only [Act.put, List.setIfInBounds_toArray, List.set_cons_zero, List.set_cons_succ, List.getElem_toArray, List.getElem_cons_zero, List.getElem_cons_succ]
    have HBa := Lib.hid hHeld.1
    have c0 := hHeld.2.1
    have c1 := hHeld.2.2
    clear hHeld
    go_wp2_with fail
    go_loopw [76] (fun i' W' => ∃ k : Nat, i' = .int .i64 k ∧ k ≤ l.length ∧ Hid (Below w3.heap.size w3 W')) (fun i' _ => l.length - (RowKit.intOf i').toNat)
    case atStart => exact ⟨0, rfl, by omega, HBa.out⟩
    case round =>
      obtain ⟨k, rfl, hk, hB⟩ := hrel
      clear c0 c1
      by_cases hlt : k < l.length
      · have hkI : (k : Int) < (l.length : Int) := by omega
        obtain ⟨ad, hAd, hc0, hc1, hc2⟩ := (HR.out _ hB.out).at_ hlt
        subst hAd
        obtain ⟨gt, capt, hvt, _, _⟩ := World.ownsRow.form HT.out.1 (by rw [HTl.out]; omega)
        have hAt : At = some ⟨gt, 0, none⟩ := by injection hvt
        clear hvt
        subst hAt
        have hx : ((l.map fun x => x.2.2).map (Value.int .i64))[k]? = some (.int .i64 (l.getD k (0, 0, 0)).2.2) := by
          rw [List.getElem?_map, List.getElem?_map, List.getElem?_eq_getElem hlt, List.getD_eq_getElem?_getD, List.getElem?_eq_getElem hlt]; rfl
        have HTc := Lib.hid (fun w' (hb : Below w3.heap.size w3 w') => (row_cell (own_below HT.out.1 hb) hx).1)
        have HEd := Lib.hid (fun w' (hb : Below w3.heap.size w3 w') => by
          obtain ⟨AE, cE, AO, cO, AI, cI, hd0, _, _, hRe, _⟩ := (HGb.out w' hb).head
          exact edge_in G AE cE k l w' hd0 hRe hl hlt)
        clear hx
        unfold ed at HEd
        generalize l.getD k (0, 0, 0) = x at *
        obtain ⟨x0, x1, x2⟩ := x
        have e0 : wr.cell? (ad.add (k * 3)) = some (.int .i64 x0) := hc0
        have e1 : wr.cell? ⟨(ad.add (k * 3)).block, (ad.add (k * 3)).off + 1, none⟩ = some (.int .i64 x1) := hc1
        have e2 : wr.cell? ⟨(ad.add (k * 3)).block, (ad.add (k * 3)).off + 2, none⟩ = some (.int .i64 x2) := hc2
        clear hc0 hc1 hc2
        dsimp only at HEd HTc
        have HB0 := Lib.hid (hB.out.alloc hB.out.size (.cells #[.int .i64 x0, .int .i64 x1, .int .i64 x2] 35))
        go_wp2_with fail
        refine (HEd.out _ HB0.out).mono ?_
        rintro e w4 ⟨rfl, b5⟩
        have m0 := keepH (heap_alloc_new wr (.cells #[.int .i64 x0, .int .i64 x1, .int .i64 x2] 35)) b5
        have m1 := keepH m0 ((Below.refl w4.heap.size w4).alloc (Nat.le_refl _) (.cells #[.int .i64 x0, .int .i64 x1, .int .i64 x2] 35))
        have m2 := heap_alloc_new w4 (.cells #[.int .i64 x0, .int .i64 x1, .int .i64 x2] 35)
        have b6 := HB0.out.trans (b5.mono HB0.out.size)
        have b7 := b6.alloc b6.size (.cells #[.int .i64 x0, .int .i64 x1, .int .i64 x2] 35)
        have HB5 := Lib.hid b7
        have HS5 := Lib.hid (fun w' (hb : Below (w4.alloc (.cells #[.int .i64 x0, .int .i64 x1, .int .i64 x2] 35)).heap.size (w4.alloc (.cells #[.int .i64 x0, .int .i64 x1, .int .i64 x2] 35)) w') =>
          show Below (w4.alloc (.cells #[.int .i64 x0, .int .i64 x1, .int .i64 x2] 35)).heap.size (w4.alloc (.cells #[.int .i64 x0, .int .i64 x1, .int .i64 x2] 35)) w' ∧ w'.cell? ⟨wr.heap.size, 0, none⟩ = some (.int .i64 x0) ∧ w'.cell? ⟨wr.heap.size, 1, none⟩ = some (.int .i64 x1) ∧ w'.cell? ⟨wr.heap.size, 2, none⟩ = some (.int .i64 x2) ∧
            w'.cell? ⟨w4.heap.size, 0, none⟩ = some (.int .i64 x0) ∧ w'.cell? ⟨w4.heap.size, 1, none⟩ = some (.int .i64 x1) ∧ w'.cell? ⟨w4.heap.size, 2, none⟩ = some (.int .i64 x2) ∧ w'.cell? ⟨gt, k, none⟩ = some (.int .i64 x2) from
          ⟨hb, cell_of_row _ _ 0 _ _ _ (keepH m1 hb), cell_of_row _ _ 1 _ _ _ (keepH m1 hb), cell_of_row _ _ 2 _ _ _ (keepH m1 hb), cell_of_row _ _ 0 _ _ _ (keepH m2 hb), cell_of_row _ _ 1 _ _ _ (keepH m2 hb), cell_of_row _ _ 2 _ _ _ (keepH m2 hb), HTc.out _ (b7.trans (hb.mono b7.size))⟩)
        clear b5 m0 m1 m2 b6 b7 e0 e1 e2
        go_wp2_with fail
        refine wp_region_held_drew (S := fun w' => Below (w4.alloc (.cells #[.int .i64 x0, .int .i64 x1, .int .i64 x2] 35)).heap.size (w4.alloc (.cells #[.int .i64 x0, .int .i64 x1, .int .i64 x2] 35)) w' ∧ w'.cell? ⟨wr.heap.size, 0, none⟩ = some (.int .i64 x0) ∧ w'.cell? ⟨wr.heap.size, 1, none⟩ = some (.int .i64 x1) ∧ w'.cell? ⟨wr.heap.size, 2, none⟩ = some (.int .i64 x2) ∧ w'.cell? ⟨w4.heap.size, 0, none⟩ = some (.int .i64 x0) ∧ w'.cell? ⟨w4.heap.size, 1, none⟩ = some (.int .i64 x1) ∧ w'.cell? ⟨w4.heap.size, 2, none⟩ = some (.int .i64 x2) ∧ w'.cell? ⟨gt, k, none⟩ = some (.int .i64 x2)) (by kernel_rfl) (HS5.out _ (Below.refl _ _).drew) (fun hHeld => ?_)
        refine wpAnyH_take (i := 0) (v := ?_) rfl (by kernel_rfl) (by kernel_rfl) (by kernel_rfl) (fun _ _ _ h => h) (Or.inl ⟨by rfl, ?_⟩) (by assumption) ?_
        rotate_left
        · (intro w hSw; (try dsimp only at hSw); go_simp; try (with_reducible rfl))
        try simp only [Act.put, List.setIfInBounds_toArray, List.set_cons_zero, List.set_cons_succ, List.getElem_toArray, List.getElem_cons_zero, List.getElem_cons_succ]
        refine wpAnyH_take (i := 1) (v := ?_) rfl (by kernel_rfl) (by kernel_rfl) (by kernel_rfl) (fun _ _ _ h => h) (Or.inl ⟨by rfl, ?_⟩) (by assumption) ?_
        rotate_left
        · (intro w hSw; (try dsimp only at hSw); go_simp; try (with_reducible rfl))
        try simp only [Act.put, List.setIfInBounds_toArray, List.set_cons_zero, List.set_cons_succ, List.getElem_toArray, List.getElem_cons_zero, List.getElem_cons_succ]
        refine wpAnyH_take (i := 2) (v := ?_) rfl (by kernel_rfl) (by kernel_rfl) (by kernel_rfl) (fun _ _ _ h => h) (Or.inl ⟨by rfl, ?_⟩) (by assumption) ?_
        rotate_left
        · (intro w hSw; (try dsimp only at hSw); go_simp; try (with_reducible rfl))
        try simp only [Act.put, List.setIfInBounds_toArray, List.set_cons_zero, List.set_cons_succ, List.getElem_toArray, List.getElem_cons_zero, List.getElem_cons_succ]
        refine wpAnyH_take (i := 3) (v := ?_) rfl (by kernel_rfl) (by kernel_rfl) (by kernel_rfl) (fun _ _ _ h => h) (Or.inl ⟨by rfl, ?_⟩) (by assumption) ?_
        rotate_left
        · (intro w hSw; (try dsimp only at hSw); go_simp; try (with_reducible rfl))
        try simp only [Act.put, List.setIfInBounds_toArray, List.set_cons_zero, List.set_cons_succ, List.getElem_toArray, List.getElem_cons_zero, List.getElem_cons_succ]
        refine wpAnyH_take (i := 4) (v := ?_) rfl (by kernel_rfl) (by kernel_rfl) (by kernel_rfl) (fun _ _ _ h => h) (Or.inl ⟨by rfl, ?_⟩) (by assumption) ?_
        rotate_left
        · (intro w hSw; (try dsimp only at hSw); go_simp; try (with_reducible rfl))
        try simp only [Act.put, List.setIfInBounds_toArray, List.set_cons_zero, List.set_cons_succ, List.getElem_toArray, List.getElem_cons_zero, List.getElem_cons_succ]
        refine wpAnyH_take (i := 5) (v := ?_) rfl (by kernel_rfl) (by kernel_rfl) (by kernel_rfl) (fun _ _ _ h => h) (Or.inl ⟨by rfl, ?_⟩) (by assumption) ?_
        rotate_left
        · (intro w hSw; (try dsimp only at hSw); go_simp; try (with_reducible rfl))
        try simp only [Act.put, List.setIfInBounds_toArray, List.set_cons_zero, List.set_cons_succ, List.getElem_toArray, List.getElem_cons_zero, List.getElem_cons_succ]
        refine wpAnyH_take (i := 6) (v := ?_) rfl (by kernel_rfl) (by kernel_rfl) (by kernel_rfl) (fun _ _ _ h => h) (Or.inl ⟨by rfl, ?_⟩) (by assumption) ?_
        rotate_left
        · (intro w hSw; (try dsimp only at hSw); go_simp; try (with_reducible rfl))
        try simp only [Act.put, List.setIfInBounds_toArray, List.set_cons_zero, List.set_cons_succ, List.getElem_toArray, List.getElem_cons_zero, List.getElem_cons_succ]
        refine wpAnyH_take (i := 7) (v := ?_) rfl (by kernel_rfl) (by kernel_rfl) (by kernel_rfl) (fun _ _ _ h => h) (Or.inl ⟨by rfl, ?_⟩) (by assumption) ?_
        rotate_left
        · (intro w hSw; (try dsimp only at hSw); go_simp; try (with_reducible rfl))
        try simp only [Act.put, List.setIfInBounds_toArray, List.set_cons_zero, List.set_cons_succ, List.getElem_toArray, List.getElem_cons_zero, List.getElem_cons_succ]
        refine wpAnyH_take (i := 8) (v := ?_) rfl (by kernel_rfl) (by kernel_rfl) (by kernel_rfl) (fun _ _ _ h => h) (Or.inl ⟨by rfl, ?_⟩) (by assumption) ?_
        rotate_left
        · (intro w hSw; (try dsimp only at hSw); go_simp; try (with_reducible rfl))
        try simp only [Act.put, List.setIfInBounds_toArray, List.set_cons_zero, List.set_cons_succ, List.getElem_toArray, List.getElem_cons_zero, List.getElem_cons_succ]
        refine wpAnyH_take (i := 9) (v := ?_) rfl (by kernel_rfl) (by kernel_rfl) (by kernel_rfl) (fun _ _ _ h => h) (Or.inl ⟨by rfl, ?_⟩) (by assumption) ?_
        rotate_left
        · (intro w hSw; (try dsimp only at hSw); go_simp; try (with_reducible rfl))
        try simp only [Act.put, List.setIfInBounds_toArray, List.set_cons_zero, List.set_cons_succ, List.getElem_toArray, List.getElem_cons_zero, List.getElem_cons_succ]
        refine wpAnyH_take (i := 10) (v := ?_) rfl (by kernel_rfl) (by kernel_rfl) (by kernel_rfl) (fun _ _ _ h => h) (Or.inl ⟨by rfl, ?_⟩) (by assumption) ?_
        rotate_left
        · (intro w hSw; (try dsimp only at hSw); go_simp; try (with_reducible rfl))
        try simp only [Act.put, List.setIfInBounds_toArray, List.set_cons_zero, List.set_cons_succ, List.getElem_toArray, List.getElem_cons_zero, List.getElem_cons_succ]
        refine wpAnyH_take (i := 11) (v := ?_) rfl (by kernel_rfl) (by kernel_rfl) (by kernel_rfl) (fun _ _ _ h => h) (Or.inl ⟨by rfl, ?_⟩) (by assumption) ?_
        rotate_left
        · (intro w hSw; (try dsimp only at hSw); go_simp; try (with_reducible rfl))
        try simp only [Act.put, List.setIfInBounds_toArray, List.set_cons_zero, List.set_cons_succ, List.getElem_toArray, List.getElem_cons_zero, List.getElem_cons_succ]
        refine wpAnyH_take (i := 12) (v := ?_) rfl (by kernel_rfl) (by kernel_rfl) (by kernel_rfl) (fun _ _ _ h => h) (Or.inl ⟨by rfl, ?_⟩) (by assumption) ?_
        rotate_left
        · (intro w hSw; (try dsimp only at hSw); go_simp; try (with_reducible rfl))
        try simp only [Act.put, List.setIfInBounds_toArray, List.set_cons_zero, List.set_cons_succ, List.getElem_toArray, List.getElem_cons_zero, List.getElem_cons_succ]
        refine wpAnyH_take (i := 13) (v := ?_) rfl (by kernel_rfl) (by kernel_rfl) (by kernel_rfl) (fun _ _ _ h => h) (Or.inl ⟨by rfl, ?_⟩) (by assumption) ?_
        rotate_left
        · (intro w hSw; (try dsimp only at hSw); go_simp; try (with_reducible rfl))
        try simp only [Act.put, List.setIfInBounds_toArray, List.set_cons_zero, List.set_cons_succ, List.getElem_toArray, List.getElem_cons_zero, List.getElem_cons_succ]
        refine wpAnyH_take (i := 14) (v := ?_) rfl (by kernel_rfl) (by kernel_rfl) (by kernel_rfl) (fun _ _ _ h => h) (Or.inl ⟨by rfl, ?_⟩) (by assumption) ?_
        rotate_left
        · (intro w hSw; (try dsimp only at hSw); go_simp; try (with_reducible rfl))
        try simp only [Act.put, List.setIfInBounds_toArray, List.set_cons_zero, List.set_cons_succ, List.getElem_toArray, List.getElem_cons_zero, List.getElem_cons_succ]
        refine wpAnyH_take (i := 15) (v := ?_) rfl (by kernel_rfl) (by kernel_rfl) (by kernel_rfl) (fun _ _ _ h => h) (Or.inl ⟨by rfl, ?_⟩) (by assumption) ?_
        rotate_left
        · (intro w hSw; (try dsimp only at hSw); go_simp; try (with_reducible rfl))
        try simp only [Act.put, List.setIfInBounds_toArray, List.set_cons_zero, List.set_cons_succ, List.getElem_toArray, List.getElem_cons_zero, List.getElem_cons_succ]
        refine wpAnyH_done (by kernel_rfl) ?_ _
        try simp only [Act.put, List.setIfInBounds_toArray, List.set_cons_zero, List.set_cons_succ, List.getElem_toArray, List.getElem_cons_zero, List.getElem_cons_succ]
        have HB6 := Lib.hid (HB5.out.trans (hHeld.1.mono HB5.out.size))
        clear hHeld
        go_wp2_with fail
        go_roundw
        case rel => exact ⟨k + 1, by go_num, by omega, HB6.out⟩
        case measure => simp [RowKit.intOf]; omega
      · obtain rfl : k = l.length := by omega
        obtain ⟨AE, cE, AO, cO, AI, cI, hd0, _, _, hRe, _⟩ := (HGb.out _ hB.out).head
        by_cases hr : 0 ≤ i ∧ i < (l.length : Int)
        · obtain ⟨hr0, hr1⟩ := hr
          obtain ⟨j, rfl⟩ := Int.eq_ofNat_of_zero_le hr0
          have hE2 := edge_in G AE cE j l wr hd0 hRe hl (by omega)
          unfold ed at hE2
          generalize l.getD j (0, 0, 0) = x at *
          obtain ⟨x0, x1, x2⟩ := x
          have HE2 := Lib.hid hE2
          clear hE2 hd0 hRe
          go_wp2_with fail
          refine HE2.out.mono ?_
          rintro e w4 ⟨rfl, b5⟩
          have b6 := hB.out.trans (b5.mono hB.out.size)
          have b7 := b6.alloc b6.size (.cells #[.int .i64 x0, .int .i64 x1, .int .i64 x2] 35)
          obtain ⟨_, c0, c1⟩ := HS.out _ b7
          have HBz := Lib.hid (then_ HB1.out (then_ HB3.out b7))
          clear b5 b6 b7
          go_wp2_with fail
          go_ret
          exact ⟨rfl, HBz.out⟩
        · have hE2 := edge_out G AE cE i l wr hd0 hl hr
          unfold ed at hE2
          have HE2 := Lib.hid hE2
          clear hE2 hd0 hRe
          by_cases hi0 : i < 0
          · go_wp2_with fail
            refine HE2.out.mono ?_
            rintro e w4 ⟨rfl, b5⟩
            have b6 := hB.out.trans (b5.mono hB.out.size)
            have b7 := b6.alloc b6.size (.cells #[.int .i64 0, .int .i64 0, .int .i64 0] 35)
            obtain ⟨_, c0, c1⟩ := HS.out _ b7
            have HBz := Lib.hid (then_ HB1.out (then_ HB3.out b7))
            clear b5 b6 b7
            go_wp2_with fail
            go_ret
            exact ⟨rfl, HBz.out⟩
          · have hi1 : (l.length : Int) ≤ i := by omega
            go_wp2_with fail
            refine HE2.out.mono ?_
            rintro e w4 ⟨rfl, b5⟩
            have b6 := hB.out.trans (b5.mono hB.out.size)
            have b7 := b6.alloc b6.size (.cells #[.int .i64 0, .int .i64 0, .int .i64 0] 35)
            obtain ⟨_, c0, c1⟩ := HS.out _ b7
            have HBz := Lib.hid (then_ HB1.out (then_ HB3.out b7))
            clear b5 b6 b7
            go_wp2_with fail
            go_ret
            exact ⟨ret_b (by simp; omega), HBz.out⟩
end Go.Proofs.YtabciepnbmliiaaDoor
