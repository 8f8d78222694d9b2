/- The law on Components: walk. -/
import Derived.Test.YtabciepnbmliiaaDoorV3
set_option linter.unusedVariables false
set_option linter.unusedSimpArgs false
set_option maxRecDepth 100000
namespace Go.Proofs.YtabciepnbmliiaaDoor
open Go.RowKit Go.Lib Go.Shelf Rg Nds

section
variable {N : Nat} {l : List Ed3} (hF : FairR N l)
include hF
theorem parts_fair {g : List Int} (hg : g ∈ parts N l) : g.Pairwise (· < ·) ∧ ∀ x ∈ g, 0 ≤ x ∧ x < (N : Int) := by
  rw [parts_eq hF] at hg
  obtain ⟨n, hn, rfl⟩ := List.mem_map.1 hg
  exact ⟨cls_sorted n, fun x hx => (both_node hF ((mem_cls hF).1 hx).2).2⟩
theorem parts_ei {g : List Int} (hg : g ∈ parts N l) : ei (ofP g) = g :=
  ei_sorted_self (parts_fair hF hg).1 fun x hx => by have := (parts_fair hF hg).2 x hx; have := hF.hi; omega
theorem parts_els : (els (ofP (parts N l).flatten)).length = N := by
  have h1 : ei (ofP (parts N l).flatten) = ei (fun m => decide ((m : Int) < (N : Int))) := ei_congr fun n hn => by
    unfold ofP
    rw [Bool.eq_iff_iff, decide_eq_true_iff, decide_eq_true_iff, List.mem_flatten]
    constructor
    · rintro ⟨g, hg, hx⟩
      exact ((parts_fair hF hg).2 _ hx).2
    · intro h
      exact parts_all hF ⟨by omega, h⟩
  have hN := hF.hi
  rw [← ei_length, h1, ei_all, List.length_map, List.length_range]
  omega
theorem parts_flat : (parts N l).flatten.length = N := by
  rw [List.length_flatten]; exact parts_length hF
theorem parts_few : (parts N l).length ≤ N := by
  rw [parts_eq hF, List.length_map]
  unfold firsts
  exact Nat.le_trans (List.length_filter_le _ _) (by simp)
end
theorem flat_succ {P : List (List Int)} {k : Nat} {g : List Int} (h : P[k]? = some g) : (P.take (k + 1)).flatten = (P.take k).flatten ++ g := by
  obtain ⟨hk, rfl⟩ := List.getElem?_eq_some_iff.1 h
  rw [List.take_succ_eq_append_getElem hk, List.flatten_append]
  simp
theorem flat_le (P : List (List Int)) (k : Nat) : (P.take k).flatten.length ≤ P.flatten.length := by
  have : P.flatten.length = (P.take k).flatten.length + (P.drop k).flatten.length := by rw [← List.length_append, ← List.flatten_append, List.take_append_drop]
  omega
theorem ofP_append (a b : List Int) : (fun n => ofP a n || ofP b n) = ofP (a ++ b) := by
  funext n
  unfold ofP
  rw [Bool.eq_iff_iff]
  simp

/-- How many nodes the first k parts have. -/
def manyTo (P : List (List Int)) (k : Nat) : Nat := (P.take k).flatten.length

set_option maxHeartbeats 20000000 in
theorem lawComp (v : Value) (N : Int) (l : List Ed3) (W : World) (hn : NetIn W v N l) (hE : Env W) :
    Calls Tryd.prog 6 #[v] W fun e w' => e = .returned (.bool true) ∧ Below W.heap.size W w' := by
  obtain ⟨a, cap, rfl, hre, hcap, hcm⟩ := hn.ex
  have b0 : Below W.heap.size W (W.alloc (.cells #[.int .i64 N, .slice a l.length cap] 24)) := (Below.refl W.heap.size W).alloc (Nat.le_refl _) _
  have hn0 := hn.below b0
  have hw0 := wakes_any _ (hE.of b0)
  have HW := Lib.hid hw0
  have HB0 := Lib.hid b0
  have HN := Lib.hid hn0
  have HA := Lib.hid (And.intro hre hE)
  clear hw0 b0 hn0 hn hE hre
  have hbx := net_box (W := W) (N := N) (a := a) (k := l.length) (cap := cap)
  go_enter Tryd.func6, Tryd.ntmps6
  go_wp2_with fail
  refine HW.out.mono ?_
  rintro e w0 ⟨rfl, hB0⟩
  have h1 := (hB0.block _ (Array.getElem?_eq_some_iff.1 hbx).1).trans hbx
  have hn1 := HN.out.below hB0
  have B0 := then_ HB0.out hB0
  have c0 := cell_of_row _ _ 0 _ _ _ h1
  have c1 := cell_of_row _ _ 1 _ _ _ h1
  have HB := Lib.hid (And.intro B0 (And.intro h1 hn1))
  clear hB0 B0 h1 hn1 HW HB0 HN hbx
  go_wp2_with fail
  refine (made_any _ N l w0 HB.out.2.2).mono ?_
  rintro e w1 ⟨hB1, hm⟩
  have hs1 := small_any _ N l w1 (HB.out.2.2.below hB1)
  have h1 := (hB1.block _ (Array.getElem?_eq_some_iff.1 HB.out.2.1).1).trans HB.out.2.1
  have c0 := cell_of_row _ _ 0 _ _ _ h1
  have c1 := cell_of_row _ _ 1 _ _ _ h1
  have HS1 := Lib.hid hs1
  have HB1 := Lib.hid (And.intro (then_ HB.out.1 hB1) h1)
  clear hs1 hB1 h1
  rcases hm with ⟨hwr, rfl⟩ | ⟨hwr, lo, G, rfl, hlo, hG⟩
  · cases q : (decide (N ≤ 12) && decide (l.length ≤ 40)) with
    | true =>
      have hs := HS1.out
      rw [q] at hs
      go_wp2_with (go_at_call 18; refine hs.mono ?_; rintro e w2 ⟨rfl, b2⟩; have HB2 := Lib.hid (then_ HB1.out.1 b2); clear b2)
      go_ret
      exact ⟨rfl, HB2.out⟩
    | false =>
      have hs := HS1.out
      rw [q] at hs
      go_wp2_with (go_at_call 18; refine hs.mono ?_; rintro e w2 ⟨rfl, b2⟩; have HB2 := Lib.hid (then_ HB1.out.1 b2); clear b2)
      go_ret
      exact ⟨rfl, HB2.out⟩
  · have hF := fair_iff.1 hwr
    have hN1 := hF.lo
    obtain ⟨N, rfl⟩ : ∃ k : Nat, N = (k : Int) := ⟨N.toNat, by omega⟩
    rw [Int.toNat_natCast] at hG
    have HG := Lib.hid hG
    have HF := Lib.hid hF
    clear hwr hlo hG
    cases q : (decide ((N : Int) ≤ 12) && decide (l.length ≤ 40)) with
    | false =>
      have hs := HS1.out
      rw [q] at hs
      go_wp2_with (go_at_call 18; refine hs.mono ?_; rintro e w2 ⟨rfl, b2⟩; have HB2 := Lib.hid (then_ HB1.out.1 b2); clear b2)
      go_ret
      exact ⟨rfl, HB2.out⟩
    | true =>
    have hs := HS1.out
    rw [q] at hs
    have HPe := Lib.hid (fun g (hg : g ∈ parts N l) => parts_ei hF hg)
    have HPs := Lib.hid (parts_els hF)
    have HPf := Lib.hid (parts_flat hF)
    have HPk := Lib.hid (parts_few hF)
    have HPn := Lib.hid (show N ≤ 4096 by have := hF.hi; omega)
    clear hF
    go_wp2_with (go_at_call 18; refine hs.mono ?_; rintro e w0 ⟨rfl, b2⟩; have HB2 := Lib.hid b2; clear b2)
    have hBW := then_ HB1.out.1 HB2.out
    have HBW := Lib.hid hBW
    have h1 := (HB2.out.block _ (Array.getElem?_eq_some_iff.1 HB1.out.2).1).trans HB1.out.2
    have HS := Lib.hid (fun w' (hb : Below w0.heap.size w0 w') => show Below w0.heap.size w0 w' ∧ w'.cell? ⟨W.heap.size, 0, none⟩ = some (.int .i64 (N : Int)) ∧ w'.cell? ⟨W.heap.size, 1, none⟩ = some (.slice a l.length cap) from by
      have h2 := (hb.block _ (Array.getElem?_eq_some_iff.1 h1).1).trans h1
      exact ⟨hb, cell_of_row _ _ 0 _ _ _ h2, cell_of_row _ _ 1 _ _ _ h2⟩)
    have HR := Lib.hid (fun w' (hb : Below w0.heap.size w0 w') => HA.out.1.below (then_ hBW hb))
    have HE := Lib.hid (fun w' (hb : Below w0.heap.size w0 w') => HA.out.2.of (then_ hBW hb))
    clear hBW h1 hs
    refine wp_region_held_drew (S := fun w' => Below w0.heap.size w0 w' ∧ w'.cell? ⟨W.heap.size, 0, none⟩ = some (.int .i64 (N : Int)) ∧ w'.cell? ⟨W.heap.size, 1, none⟩ = some (.slice a l.length cap)) (by kernel_rfl) (HS.out _ (Below.refl _ _).drew) (fun hHeld => ?_)
    refine wpAnyH_take (i := 0) (v := ?_) rfl (by kernel_rfl) (by kernel_rfl) (by kernel_rfl) (fun _ _ _ h => h) (Or.inl ⟨by rfl, ?_⟩) (by assumption) ?_
    rotate_left
    · (intro w hSw; (try dsimp only at hSw); go_simp; try (with_reducible rfl))
    try simp only [Act.put, List.setIfInBounds_toArray, List.set_cons_zero, List.set_cons_succ, List.getElem_toArray, List.getElem_cons_zero, List.getElem_cons_succ]
    refine wpAnyH_take (i := 2) (v := ?_) rfl (by kernel_rfl) (by kernel_rfl) (by kernel_rfl) (fun _ _ _ h => h) (Or.inl ⟨by rfl, ?_⟩) (by assumption) ?_
    rotate_left
    · (intro w hSw; (try dsimp only at hSw); go_simp; try (with_reducible rfl))
    try simp only [Act.put, List.setIfInBounds_toArray, List.set_cons_zero, List.set_cons_succ, List.getElem_toArray, List.getElem_cons_zero, List.getElem_cons_succ]
    refine wpAnyH_take (i := 3) (v := ?_) rfl (by kernel_rfl) (by kernel_rfl) (by kernel_rfl) (fun _ _ _ h => h) (Or.inl ⟨by rfl, ?_⟩) (by assumption) ?_
    rotate_left
    · (intro w hSw; (try dsimp only at hSw); go_simp; try (with_reducible rfl))
    try simp only [Act.put, List.setIfInBounds_toArray, List.set_cons_zero, List.set_cons_succ, List.getElem_toArray, List.getElem_cons_zero, List.getElem_cons_succ]
    refine wpAnyH_take (i := 4) (v := ?_) rfl (by kernel_rfl) (by kernel_rfl) (by kernel_rfl) (fun _ _ _ h => h) (Or.inl ⟨by rfl, ?_⟩) (by assumption) ?_
    rotate_left
    · (intro w hSw; (try dsimp only at hSw); go_simp; try (with_reducible rfl))
    try simp only [Act.put, List.setIfInBounds_toArray, List.set_cons_zero, List.set_cons_succ, List.getElem_toArray, List.getElem_cons_zero, List.getElem_cons_succ]
    refine wpAnyH_take (i := 5) (v := ?_) rfl (by kernel_rfl) (by kernel_rfl) (by kernel_rfl) (fun _ _ _ h => h) (Or.inl ⟨by rfl, ?_⟩) (by assumption) ?_
    rotate_left
    · (intro w hSw; (try dsimp only at hSw); go_simp; try (with_reducible rfl))
    try simp only [Act.put, List.setIfInBounds_toArray, List.set_cons_zero, List.set_cons_succ, List.getElem_toArray, List.getElem_cons_zero, List.getElem_cons_succ]
    refine wpAnyH_ready (rs := [1]) (by kernel_rfl) (by simp) ?_
    refine AllReadyH.cons rfl (fun K hK => ?_) AllReadyH.nil
    go_simp
    go_at_call 30
    refine (comps_any N l _ lo w1.heap.size G (HG.out.below (then_ HB2.out hHeld.1)) (then_ HB2.out hHeld.1).size).mono ?_
    rintro e w3 ⟨b3, A3, c3, rfl, hS3⟩
    have R3a := Lib.hid hS3
    have B3 := hHeld.1.trans (b3.mono hHeld.1.size)
    clear hS3
    refine hK.out _ _ (HS.out _ B3) (fun hHeld => ?_)
    clear hK K
    try simp only [Act.put, List.setIfInBounds_toArray, List.set_cons_zero, List.set_cons_succ, List.getElem_toArray, List.getElem_cons_zero, List.getElem_cons_succ]
    refine wpAnyH_ready (rs := [6]) (by kernel_rfl) (by simp) ?_
    refine AllReadyH.cons rfl (fun K hK => ?_) AllReadyH.nil
    go_simp
    go_at_call 31
    refine (rparts_any a cap l.length N l _ (HR.out _ hHeld.1) HF.out).mono ?_
    rintro e w4 ⟨v4, us4, rfl, hO4, b4⟩
    obtain ⟨A4, c4, rfl⟩ := hO4.slice
    have R4 := Lib.hid hO4
    have R3 := Lib.hid (R3a.out.below b4)
    have B4 := hHeld.1.trans (b4.mono hHeld.1.size)
    clear R3a hO4
    refine hK.out _ _ (HS.out _ B4) (fun hHeld => ?_)
    clear hK K
    try simp only [Act.put, List.setIfInBounds_toArray, List.set_cons_zero, List.set_cons_succ, List.getElem_toArray, List.getElem_cons_zero, List.getElem_cons_succ]
    refine wpAnyH_take (i := 7) (v := ?_) rfl (by kernel_rfl) (by kernel_rfl) (by kernel_rfl) (fun _ _ _ h => h) (Or.inl ⟨by rfl, ?_⟩) (by assumption) ?_
    rotate_left
    · (intro w hSw; (try dsimp only at hSw); go_simp; try (with_reducible rfl))
    try simp only [Act.put, List.setIfInBounds_toArray, List.set_cons_zero, List.set_cons_succ, List.getElem_toArray, List.getElem_cons_zero, List.getElem_cons_succ]
    refine wpAnyH_take (i := 8) (v := ?_) rfl (by kernel_rfl) (by kernel_rfl) (by kernel_rfl) (fun _ _ _ h => h) (Or.inl ⟨by rfl, ?_⟩) (by assumption) ?_
    rotate_left
    · (intro w hSw; (try dsimp only at hSw); go_simp; try (with_reducible rfl))
    try simp only [Act.put, List.setIfInBounds_toArray, List.set_cons_zero, List.set_cons_succ, List.getElem_toArray, List.getElem_cons_zero, List.getElem_cons_succ]
    refine wpAnyH_done (by kernel_rfl) ?_ _
    try simp only [Act.put, List.setIfInBounds_toArray, List.set_cons_zero, List.set_cons_succ, List.getElem_toArray, List.getElem_cons_zero, List.getElem_cons_succ]
    have hb0 := hHeld.1
    generalize parts N l = P at *
    have HB := Lib.hid hb0
    clear hHeld hb0
    go_wp2_with (refine wpList_alloc_set rfl rfl ?_)
    go_loopw [7, 39] (fun m i W' => ∃ k : Nat, i = .int .i64 k ∧ k ≤ P.length ∧ m = .int .i64 ((manyTo P k : Nat) : Int) ∧ Hid (SetAt W' w4.heap.size (ofP (P.take k).flatten)) ∧ Hid (Below w4.heap.size w4 W')) (fun _ i _ => P.length - (RowKit.intOf i).toNat)
    case atStart =>
      refine ⟨0, rfl, by omega, rfl, ?_, ?_⟩
      · show SetAt _ _ _
        rw [show ofP ((P.take 0).flatten) = fun _ => false from funext fun _ => by simp [ofP]]
        exact SetAt.new w4 _
      · exact (Below.refl _ _).alloc (Nat.le_refl _) _
    case round =>
      obtain ⟨k, rfl, hk, rfl, hs, hB⟩ := hrel
      by_cases hlt : k < P.length
      · have hp : P[k]? = some P[k] := List.getElem?_eq_getElem hlt
        have hei := HPe.out _ (List.getElem_mem hlt)
        have hfs := flat_succ hp
        have hfl := flat_le P (k + 1)
        rw [HPf.out, hfs, List.length_append] at hfl
        have hm1 : manyTo P (k + 1) = manyTo P k + P[k].length := by unfold manyTo; rw [hfs, List.length_append]
        have hm2 : manyTo P k + P[k].length ≤ N := hfl
        clear hfl
        generalize P[k] = g at *
        have hkI : (k : Int) < (P.length : Int) := by omega
        have hS := (R3.out.below hB.out)
        obtain ⟨g3, hA3, _, _⟩ := hS.2 (by omega)
        subst hA3
        have hload := hS.load hp
        have hO := R4.out.to hB.out
        obtain ⟨g4, cap4, hv4, _, _⟩ := World.ownsRow.form hO.own (by have := hO.len; omega)
        have hA4 : A4 = some ⟨g4, 0, none⟩ := by injection hv4
        clear hv4
        subst hA4
        obtain ⟨ad, B, d, hA4, hcell, hrd⟩ := hO.at_ hp
        obtain rfl : ad = ⟨g4, 0, none⟩ := by injection hA4 with e; exact e.symm
        rw [show (⟨g4, 0, none⟩ : Addr).add k = ⟨g4, k, none⟩ by unfold Addr.add; split <;> simp_all] at hcell
        have HLd := Lib.hid hload
        have HSet := Lib.hid hs.out
        have HCell := Lib.hid (And.intro hcell hrd)
        have HEi := Lib.hid (And.intro hei (And.intro hfs hp))
        have hgl : (els (ofP g)).length = g.length := by rw [← ei_length, hei]
        have HGl := Lib.hid hgl
        clear hS hload hO hs hcell hrd hei hfs hp hgl
        have hpn := HPn.out
        have hpk := HPk.out
        go_wp2_with (first | refine wpList_load_mid _ g3 (k * 64) (ofP g) rfl rfl rfl HLd.out ?_ | refine wpList_alloc_set rfl rfl ?_ | refine wpList_store_set _ _ _ _ _ rfl rfl rfl rfl (SetAt.new wr _) ?_)
        have b5 : Below wr.heap.size wr ((wr.alloc (.cells (cells fun _ => false) 53)).setRow wr.heap.size (cells (ofP g))) := below_setRow ((Below.refl _ _).alloc (Nat.le_refl _) _) (Nat.le_refl _) _
        have h10 : SetAt ((wr.alloc (.cells (cells fun _ => false) 53)).setRow wr.heap.size (cells (ofP g))) wr.heap.size (ofP g) := (SetAt.new wr _).row
        generalize (wr.alloc (.cells (cells fun _ => false) 53)).setRow wr.heap.size (cells (ofP g)) = w5 at *
        have HS5 := Lib.hid (fun w' (hb : Below w5.heap.size w5 w') => show Below w5.heap.size w5 w' ∧ w'.cell? ⟨g4, k, none⟩ = some (.slice B g.length d) from ⟨hb, cell_keep HCell.out.1 (then_ b5 hb)⟩)
        have HE5 := Lib.hid (fun w' (hb : Below w5.heap.size w5 w') => HE.out w' (then_ HB.out (then_ hB.out (then_ b5 hb))))
        have HD5 := Lib.hid (fun w' (hb : Below w5.heap.size w5 w') => HCell.out.2.below (then_ b5 hb))
        have HS10 := Lib.hid (fun w' (hb : Below w5.heap.size w5 w') => h10.below hb h10.lt)
        have HS8 := Lib.hid (fun w' (hb : Below w5.heap.size w5 w') => HSet.out.below (then_ b5 hb) HSet.out.lt)
        have HW5 := Lib.hid (fun w' (hb : Below w5.heap.size w5 w') => then_ hB.out (then_ b5 hb))
        clear b5 h10
        generalize wr.heap.size = s10 at *
        refine wp_region_held_drew (S := fun w' => Below w5.heap.size w5 w' ∧ w'.cell? ⟨g4, k, none⟩ = some (.slice B g.length d)) (by kernel_rfl) (HS5.out _ (Below.refl _ _).drew) (fun hHeld => ?_)
        refine wpAnyH_take (i := 0) (v := .agg (cells (ofP g))) rfl (by kernel_rfl) (by kernel_rfl) (by kernel_rfl) (fun _ _ _ h => h) (Or.inl ⟨by rfl, fun w hw => exec_load_mid (g := s10) (off := 0) rfl rfl (run_loadVar_row w s10 53 53 (cells (ofP g)) (0, 0) _ (HS10.out w hw.1) Tryd.underlying53 rfl (info_set' _))⟩) (by assumption) ?_
        try simp only [Act.put, List.setIfInBounds_toArray, List.set_cons_zero, List.set_cons_succ, List.getElem_toArray, List.getElem_cons_zero, List.getElem_cons_succ]
        refine wpAnyH_take (i := 2) (v := ?_) rfl (by kernel_rfl) (by kernel_rfl) (by kernel_rfl) (fun _ _ _ h => h) (Or.inl ⟨by rfl, ?_⟩) (by assumption) ?_
        rotate_left
        · (intro w hSw; (try dsimp only at hSw); go_simp; try (with_reducible rfl))
        try simp only [Act.put, List.setIfInBounds_toArray, List.set_cons_zero, List.set_cons_succ, List.getElem_toArray, List.getElem_cons_zero, List.getElem_cons_succ]
        refine wpAnyH_take (i := 3) (v := ?_) rfl (by kernel_rfl) (by kernel_rfl) (by kernel_rfl) (fun _ _ _ h => h) (Or.inl ⟨by rfl, ?_⟩) (by assumption) ?_
        rotate_left
        · (intro w hSw; (try dsimp only at hSw); go_simp; try (with_reducible rfl))
        try simp only [Act.put, List.setIfInBounds_toArray, List.set_cons_zero, List.set_cons_succ, List.getElem_toArray, List.getElem_cons_zero, List.getElem_cons_succ]
        refine wpAnyH_take (i := 4) (v := ?_) rfl (by kernel_rfl) (by kernel_rfl) (by kernel_rfl) (fun _ _ _ h => h) (Or.inl ⟨by rfl, ?_⟩) (by assumption) ?_
        rotate_left
        · (intro w hSw; (try dsimp only at hSw); go_simp; try (with_reducible rfl))
        try simp only [Act.put, List.setIfInBounds_toArray, List.set_cons_zero, List.set_cons_succ, List.getElem_toArray, List.getElem_cons_zero, List.getElem_cons_succ]
        refine wpAnyH_take (i := 5) (v := ?_) rfl (by kernel_rfl) (by kernel_rfl) (by kernel_rfl) (fun _ _ _ h => h) (Or.inl ⟨by rfl, ?_⟩) (by assumption) ?_
        rotate_left
        · (intro w hSw; (try dsimp only at hSw); go_simp; try (with_reducible rfl))
        try simp only [Act.put, List.setIfInBounds_toArray, List.set_cons_zero, List.set_cons_succ, List.getElem_toArray, List.getElem_cons_zero, List.getElem_cons_succ]
        refine wpAnyH_ready (rs := [1]) (by kernel_rfl) (by simp) ?_
        refine AllReadyH.cons rfl (fun K hK => ?_) AllReadyH.nil
        go_simp
        go_at_call 27
        refine (list_any (ofP g) _ (HE5.out _ hHeld.1)).mono ?_
        rintro e w6 ⟨A2, c2, rfl, hr2, b6⟩
        rw [HEi.out.1] at hr2 ⊢
        have B6 := hHeld.1.trans (b6.mono hHeld.1.size)
        have R6 := Lib.hid hr2; clear hr2 b6
        refine hK.out _ _ (HS5.out _ B6) (fun hHeld => ?_)
        clear hK K
        try simp only [Act.put, List.setIfInBounds_toArray, List.set_cons_zero, List.set_cons_succ, List.getElem_toArray, List.getElem_cons_zero, List.getElem_cons_succ]
        refine wpAnyH_ready (rs := [6]) (by kernel_rfl) (by simp) ?_
        refine AllReadyH.cons rfl (fun K hK => ?_) AllReadyH.nil
        go_simp
        go_at_call 21
        refine (rsame_any A2 B c2 d _ _ g g _ R6.out (HD5.out _ hHeld.1) (by omega) (by omega)).mono ?_
        rintro e w7 ⟨rfl, b7⟩
        rw [show decide (g = g) = true from decide_eq_true rfl]
        have B7 := hHeld.1.trans (b7.mono hHeld.1.size)
        clear b7
        refine hK.out _ _ (HS5.out _ B7) (fun hHeld => ?_)
        clear hK K
        try simp only [Act.put, List.setIfInBounds_toArray, List.set_cons_zero, List.set_cons_succ, List.getElem_toArray, List.getElem_cons_zero, List.getElem_cons_succ]
        refine wpAnyH_take (i := 7) (v := ?_) rfl (by kernel_rfl) (by kernel_rfl) (by kernel_rfl) (fun _ _ _ h => h) (Or.inl ⟨by rfl, ?_⟩) (by assumption) ?_
        rotate_left
        · (intro w hSw; (try dsimp only at hSw); go_simp; try (with_reducible rfl))
        try simp only [Act.put, List.setIfInBounds_toArray, List.set_cons_zero, List.set_cons_succ, List.getElem_toArray, List.getElem_cons_zero, List.getElem_cons_succ]
        refine wpAnyH_done (by kernel_rfl) ?_ _
        try simp only [Act.put, List.setIfInBounds_toArray, List.set_cons_zero, List.set_cons_succ, List.getElem_toArray, List.getElem_cons_zero, List.getElem_cons_succ]
        have HBa := Lib.hid hHeld.1
        clear hHeld
        go_wp2_with (first
          | refine wpList_load_set _ _ _ rfl rfl rfl (HS10.out _ HBb.out) ?_
          | refine wpList_load_set _ _ _ rfl rfl rfl (HS8.out _ HBb.out) ?_
          | refine wpList_load_set _ _ _ rfl rfl rfl (HS10.out _ HBa.out) ?_
          | (go_at_call 32; refine (len_any (ofP g) _).mono ?_; rintro e w6 ⟨rfl, b6⟩; rw [HGl.out]; have HBb := Lib.hid (HBa.out.trans (b6.mono HBa.out.size)); clear b6)
          | (go_at_call 33; refine (union_any (ofP (P.take k).flatten) (ofP g) _).mono ?_; rintro e w7 ⟨rfl, b7⟩; have HBc := Lib.hid (HBb.out.trans (b7.mono HBb.out.size)); clear b7)
          | refine wpList_store_set _ _ _ _ _ rfl rfl rfl rfl (HS8.out _ HBc.out) ?_)
        go_roundw
        case rel =>
          refine ⟨k + 1, by go_num, by omega, ?_, ?_, ?_⟩
          · rw [hm1]; go_num
          · show SetAt _ _ _
            rw [HEi.out.2.1, ← ofP_append]
            exact (HS8.out _ HBc.out).row
          · exact below_setRow (HW5.out _ HBc.out) (Nat.le_refl _) _
        case measure => simp [RowKit.intOf]; omega
      · obtain rfl : k = P.length := by omega
        have hsf := hs.out
        rw [List.take_length] at hsf
        rw [show manyTo P P.length = N by unfold manyTo; rw [List.take_length]; exact HPf.out]
        have HSF := Lib.hid (fun w' (hb : Below wr.heap.size wr w') => hsf.below hb hsf.lt)
        have HSR := Lib.hid (fun w' (hb : Below wr.heap.size wr w') => show Below wr.heap.size wr w' ∧ w'.cell? ⟨W.heap.size, 0, none⟩ = some (.int .i64 (N : Int)) from ⟨hb, (HS.out w' (then_ HB.out (then_ hB.out hb))).2.1⟩)
        clear hs hsf
        go_wp2_with fail
        refine wp_region_held_drew (S := fun w' => Below wr.heap.size wr w' ∧ w'.cell? ⟨W.heap.size, 0, none⟩ = some (.int .i64 (N : Int))) (by kernel_rfl) (HSR.out _ (Below.refl _ _).drew) (fun hHeld => ?_)
        refine wpAnyH_take (i := 0) (v := ?_) rfl (by kernel_rfl) (by kernel_rfl) (by kernel_rfl) (fun _ _ _ h => h) (Or.inl ⟨by rfl, ?_⟩) (by assumption) ?_
        rotate_left
        · (intro w hSw; (try dsimp only at hSw); go_simp; try (with_reducible rfl))
        try simp only [Act.put, List.setIfInBounds_toArray, List.set_cons_zero, List.set_cons_succ, List.getElem_toArray, List.getElem_cons_zero, List.getElem_cons_succ]
        refine wpAnyH_take (i := 1) (v := ?_) rfl (by kernel_rfl) (by kernel_rfl) (by kernel_rfl) (fun _ _ _ h => h) (Or.inl ⟨by rfl, ?_⟩) (by assumption) ?_
        rotate_left
        · (intro w hSw; (try dsimp only at hSw); go_simp; try (with_reducible rfl))
        try simp only [Act.put, List.setIfInBounds_toArray, List.set_cons_zero, List.set_cons_succ, List.getElem_toArray, List.getElem_cons_zero, List.getElem_cons_succ]
        refine wpAnyH_take (i := 2) (v := ?_) rfl (by kernel_rfl) (by kernel_rfl) (by kernel_rfl) (fun _ _ _ h => h) (Or.inl ⟨by rfl, ?_⟩) (by assumption) ?_
        rotate_left
        · (intro w hSw; (try dsimp only at hSw); go_simp; try (with_reducible rfl))
        try simp only [Act.put, List.setIfInBounds_toArray, List.set_cons_zero, List.set_cons_succ, List.getElem_toArray, List.getElem_cons_zero, List.getElem_cons_succ]
        refine wpAnyH_take (i := 3) (v := ?_) rfl (by kernel_rfl) (by kernel_rfl) (by kernel_rfl) (fun _ _ _ h => h) (Or.inl ⟨by rfl, ?_⟩) (by assumption) ?_
        rotate_left
        · (intro w hSw; (try dsimp only at hSw); go_simp; try (with_reducible rfl))
        try simp only [Act.put, List.setIfInBounds_toArray, List.set_cons_zero, List.set_cons_succ, List.getElem_toArray, List.getElem_cons_zero, List.getElem_cons_succ]
        refine wpAnyH_take (i := 4) (v := ?_) rfl (by kernel_rfl) (by kernel_rfl) (by kernel_rfl) (fun _ _ _ h => h) (Or.inl ⟨by rfl, ?_⟩) (by assumption) ?_
        rotate_left
        · (intro w hSw; (try dsimp only at hSw); go_simp; try (with_reducible rfl))
        try simp only [Act.put, List.setIfInBounds_toArray, List.set_cons_zero, List.set_cons_succ, List.getElem_toArray, List.getElem_cons_zero, List.getElem_cons_succ]
        refine wpAnyH_take (i := 5) (v := .agg (cells (ofP P.flatten))) rfl (by kernel_rfl) (by kernel_rfl) (by kernel_rfl) (fun _ _ _ h => h) (Or.inl ⟨by rfl, fun w hw => exec_load_mid (g := w4.heap.size) (off := 0) rfl rfl (run_loadVar_row w w4.heap.size 53 53 (cells (ofP P.flatten)) (0, 0) _ (HSF.out w hw.1) Tryd.underlying53 rfl (info_set' _))⟩) (by assumption) ?_
        try simp only [Act.put, List.setIfInBounds_toArray, List.set_cons_zero, List.set_cons_succ, List.getElem_toArray, List.getElem_cons_zero, List.getElem_cons_succ]
        refine wpAnyH_take (i := 7) (v := ?_) rfl (by kernel_rfl) (by kernel_rfl) (by kernel_rfl) (fun _ _ _ h => h) (Or.inl ⟨by rfl, ?_⟩) (by assumption) ?_
        rotate_left
        · (intro w hSw; (try dsimp only at hSw); go_simp; try (with_reducible rfl))
        try simp only [Act.put, List.setIfInBounds_toArray, List.set_cons_zero, List.set_cons_succ, List.getElem_toArray, List.getElem_cons_zero, List.getElem_cons_succ]
        refine wpAnyH_take (i := 8) (v := ?_) rfl (by kernel_rfl) (by kernel_rfl) (by kernel_rfl) (fun _ _ _ h => h) (Or.inl ⟨by rfl, ?_⟩) (by assumption) ?_
        rotate_left
        · (intro w hSw; (try dsimp only at hSw); go_simp; try (with_reducible rfl))
        try simp only [Act.put, List.setIfInBounds_toArray, List.set_cons_zero, List.set_cons_succ, List.getElem_toArray, List.getElem_cons_zero, List.getElem_cons_succ]
        refine wpAnyH_ready (rs := [6]) (by kernel_rfl) (by simp) ?_
        refine AllReadyH.cons rfl (fun K hK => ?_) AllReadyH.nil
        go_simp
        go_at_call 32
        refine (len_any (ofP P.flatten) _).mono ?_
        rintro e w6 ⟨rfl, b6⟩
        rw [HPs.out]
        have B6 := hHeld.1.trans (b6.mono hHeld.1.size)
        clear b6
        refine hK.out _ _ (HSR.out _ B6) (fun hHeld => ?_)
        clear hK K
        try simp only [Act.put, List.setIfInBounds_toArray, List.set_cons_zero, List.set_cons_succ, List.getElem_toArray, List.getElem_cons_zero, List.getElem_cons_succ]
        refine wpAnyH_take (i := 9) (v := ?_) rfl (by kernel_rfl) (by kernel_rfl) (by kernel_rfl) (fun _ _ _ h => h) (Or.inl ⟨by rfl, ?_⟩) (by assumption) ?_
        rotate_left
        · (intro w hSw; (try dsimp only at hSw); go_simp; try (with_reducible rfl))
        try simp only [Act.put, List.setIfInBounds_toArray, List.set_cons_zero, List.set_cons_succ, List.getElem_toArray, List.getElem_cons_zero, List.getElem_cons_succ]
        refine wpAnyH_take (i := 10) (v := ?_) rfl (by kernel_rfl) (by kernel_rfl) (by kernel_rfl) (fun _ _ _ h => h) (Or.inl ⟨by rfl, ?_⟩) (by assumption) ?_
        rotate_left
        · (intro w hSw; (try dsimp only at hSw); go_simp; try (with_reducible rfl))
        try simp only [Act.put, List.setIfInBounds_toArray, List.set_cons_zero, List.set_cons_succ, List.getElem_toArray, List.getElem_cons_zero, List.getElem_cons_succ]
        refine wpAnyH_take (i := 11) (v := ?_) rfl (by kernel_rfl) (by kernel_rfl) (by kernel_rfl) (fun _ _ _ h => h) (Or.inl ⟨by rfl, ?_⟩) (by assumption) ?_
        rotate_left
        · (intro w hSw; (try dsimp only at hSw); go_simp; try (with_reducible rfl))
        try simp only [Act.put, List.setIfInBounds_toArray, List.set_cons_zero, List.set_cons_succ, List.getElem_toArray, List.getElem_cons_zero, List.getElem_cons_succ]
        refine wpAnyH_done (by kernel_rfl) ?_ _
        try simp only [Act.put, List.setIfInBounds_toArray, List.set_cons_zero, List.set_cons_succ, List.getElem_toArray, List.getElem_cons_zero, List.getElem_cons_succ]
        have HFin := Lib.hid (then_ HBW.out (then_ HB.out (then_ hB.out hHeld.1)))
        clear hHeld
        go_wp2_with fail
        go_ret
        exact ⟨rfl, HFin.out⟩
end Go.Proofs.YtabciepnbmliiaaDoor
