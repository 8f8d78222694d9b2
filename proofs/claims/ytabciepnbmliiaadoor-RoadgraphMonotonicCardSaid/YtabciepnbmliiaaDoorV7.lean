/- The law on Monotonic: walk. -/
import Derived.Test.YtabciepnbmliiaaDoorV5
import Derived.Test.YtabciepnbmliiaaDoorKG
set_option linter.unusedVariables false
set_option linter.unusedSimpArgs false
set_option maxRecDepth 100000
namespace Go.Proofs.YtabciepnbmliiaaDoor
open Go.RowKit Go.Lib Go.Shelf Rg Nds

set_option maxHeartbeats 40000000 in
theorem lawMono (v : Value) (N : Int) (l : List Ed3) (x : Ed3) (m : Nat) (W : World) (hn : NetIn W v N l) (hx : I64 x.1 ∧ I64 x.2.1 ∧ I64 x.2.2) (hm : m < 256) (hE : Env W) :
    Calls Tryd.prog 9 #[v, .agg #[.int .i64 x.1, .int .i64 x.2.1, .int .i64 x.2.2], .int .u8 (m : Int)] W fun e w' => e = .returned (.bool true) ∧ Below W.heap.size W w' := by
  obtain ⟨x0, x1, x2⟩ := x
  dsimp only at hx ⊢
  have HXI := Lib.hid (And.intro hn.node (And.intro hn.edge hx))
  clear hx
  obtain ⟨a, cap, rfl, hre, hcap, hcm⟩ := hn.ex
  have b0 : Below W.heap.size W ((W.alloc (.cells #[.int .i64 N, .slice a l.length cap] 24)).alloc (.cells #[.int .i64 x0, .int .i64 x1, .int .i64 x2] 35)) := ((Below.refl W.heap.size W).alloc (Nat.le_refl _) _).alloc (by simp) _
  have hn0 := hn.below b0
  have HW := Lib.hid (wakes_any _ (hE.of b0))
  have HB0 := Lib.hid b0
  have HN := Lib.hid hn0
  have HA := Lib.hid (And.intro hre hE)
  have hbx : ((W.alloc (.cells #[.int .i64 N, .slice a l.length cap] 24)).alloc (.cells #[.int .i64 x0, .int .i64 x1, .int .i64 x2] 35)).heap[W.heap.size]? = some (.cells #[.int .i64 N, .slice a l.length cap] 24 (0, 0)) := keepH (net_box (W := W) (N := N) (a := a) (k := l.length) (cap := cap)) ((Below.refl _ _).alloc (Nat.le_refl _) _)
  have hby : ((W.alloc (.cells #[.int .i64 N, .slice a l.length cap] 24)).alloc (.cells #[.int .i64 x0, .int .i64 x1, .int .i64 x2] 35)).heap[W.heap.size + 1]? = some (.cells #[.int .i64 x0, .int .i64 x1, .int .i64 x2] 35 (0, 0)) := by
    have := heap_alloc_new (W.alloc (.cells #[.int .i64 N, .slice a l.length cap] 24)) (.cells #[.int .i64 x0, .int .i64 x1, .int .i64 x2] 35)
    simpa using this
  have HX := Lib.hid (And.intro hbx hby)
  clear b0 hn0 hn hre hE hbx hby
  go_enter Tryd.func9, Tryd.ntmps9
  go_wp2_with fail
  refine HW.out.mono ?_
  rintro e w0 ⟨rfl, hB0⟩
  have h1 := keepH HX.out.1 hB0
  have h2 := keepH HX.out.2 hB0
  have HB := Lib.hid (then_ HB0.out hB0)
  have HC := Lib.hid (fun w' (hb : Below w0.heap.size w0 w') => show w'.cell? ⟨W.heap.size, 0, none⟩ = some (.int .i64 N) ∧ w'.cell? ⟨W.heap.size, 1, none⟩ = some (.slice a l.length cap) ∧ w'.cell? ⟨W.heap.size + 1, 0, none⟩ = some (.int .i64 x0) ∧ w'.cell? ⟨W.heap.size + 1, 1, none⟩ = some (.int .i64 x1) ∧ w'.cell? ⟨W.heap.size + 1, 2, none⟩ = some (.int .i64 x2) from
    ⟨cell_of_row _ _ 0 _ _ _ (keepH h1 hb), cell_of_row _ _ 1 _ _ _ (keepH h1 hb), cell_of_row _ _ 0 _ _ _ (keepH h2 hb), cell_of_row _ _ 1 _ _ _ (keepH h2 hb), cell_of_row _ _ 2 _ _ _ (keepH h2 hb)⟩)
  have HN0 := Lib.hid (HN.out.below hB0)
  have hs := small_any _ N l w0 (HN.out.below hB0)
  obtain ⟨c0, c1, _⟩ := HC.out w0 (Below.refl _ _)
  clear hB0 h1 h2 HW HB0 HN HX
  cases q : (decide (N ≤ 12) && decide (l.length ≤ 40)) with
  | false =>
    rw [q] at hs
    go_wp2_with (go_at_call 18; refine hs.mono ?_; rintro e w2 ⟨rfl, b2⟩; have HB2 := Lib.hid (then_ HB.out b2); clear b2)
    go_ret
    exact ⟨rfl, HB2.out⟩
  | true =>
  rw [q] at hs
  have hsm : l.length ≤ 40 := by
    simp only [Bool.and_eq_true, decide_eq_true_eq] at q
    exact q.2
  have HSm := Lib.hid hs
  clear hs c0 c1
  have hc := HC.out w0 (Below.refl _ _)
  obtain ⟨c0, c1, _⟩ := hc
  go_wp2_with fail
  refine HSm.out.mono ?_
  rintro e w1 ⟨rfl, b1⟩
  have HB1 := Lib.hid b1
  clear c0 c1
  obtain ⟨c0, c1, _⟩ := HC.out w1 b1
  clear b1 HSm
  by_cases hl0 : l.length = 0
  · have hlI : (l.length : Int) = 0 := by omega
    go_wp2_with fail
    go_ret
    exact ⟨rfl, then_ HB.out HB1.out⟩
  have hlI : ¬ (l.length : Int) = 0 := by omega
  have hlb : ((l.length : Int) == 0) = false := by simpa using hlI
  have hl1 : 0 < l.length := by omega
  go_wp2_with fail
  refine (made_any _ N l w1 (HN0.out.below HB1.out)).mono ?_
  rintro e w2 hm2
  obtain ⟨b2, p7, b8, rfl, h78⟩ := hm2.pair
  have HB2 := Lib.hid (then_ HB1.out b2)
  have H78 := Lib.hid h78
  obtain ⟨ad, hAd, _⟩ := HA.out.1.2 hl1
  subst hAd
  have HS2 := Lib.hid (fun w' (hb : Below w2.heap.size w2 w') => show Below w2.heap.size w2 w' ∧ w'.cell? ⟨W.heap.size, 0, none⟩ = some (.int .i64 N) ∧ w'.cell? ⟨W.heap.size, 1, none⟩ = some (.slice (some ad) l.length cap) ∧ w'.cell? ⟨W.heap.size + 1, 0, none⟩ = some (.int .i64 x0) ∧ w'.cell? ⟨W.heap.size + 1, 1, none⟩ = some (.int .i64 x1) ∧ w'.cell? ⟨W.heap.size + 1, 2, none⟩ = some (.int .i64 x2) from ⟨hb, HC.out w' (then_ HB2.out hb)⟩)
  have HR := Lib.hid (fun w' (hb : Below w2.heap.size w2 w') => HA.out.1.below (then_ HB.out (then_ HB2.out hb)))
  clear hm2 b2 h78 c0 c1
  go_wp2_with fail
  refine wp_region_held_drew (S := fun w' => Below w2.heap.size w2 w' ∧ w'.cell? ⟨W.heap.size, 0, none⟩ = some (.int .i64 N) ∧ w'.cell? ⟨W.heap.size, 1, none⟩ = some (.slice (some ad) l.length cap) ∧ w'.cell? ⟨W.heap.size + 1, 0, none⟩ = some (.int .i64 x0) ∧ w'.cell? ⟨W.heap.size + 1, 1, none⟩ = some (.int .i64 x1) ∧ w'.cell? ⟨W.heap.size + 1, 2, none⟩ = some (.int .i64 x2)) (by kernel_rfl) (HS2.out _ (Below.refl _ _).drew) (fun hHeld => ?_)
  refine wpAnyH_take (i := 0) (v := ?_) rfl (by kernel_rfl) (by kernel_rfl) (by kernel_rfl) (fun _ _ _ h => h) (Or.inl ⟨by rfl, ?_⟩) (by assumption) ?_
  rotate_left
  · (intro w hSw; (try dsimp only at hSw); go_simp; try (with_reducible rfl))
  try simp only [Act.put, List.setIfInBounds_toArray, List.set_cons_zero, List.set_cons_succ, List.getElem_toArray, List.getElem_cons_zero, List.getElem_cons_succ]
  refine wpAnyH_take (i := 1) (v := ?_) rfl (by kernel_rfl) (by kernel_rfl) (by kernel_rfl) (fun _ _ _ h => h) (Or.inl ⟨by rfl, ?_⟩) (by assumption) ?_
  rotate_left
  · (intro w hSw; (try dsimp only at hSw); go_simp; try (with_reducible rfl))
  try simp only [Act.put, List.setIfInBounds_toArray, List.set_cons_zero, List.set_cons_succ, List.getElem_toArray, List.getElem_cons_zero, List.getElem_cons_succ]
  refine wpAnyH_take (i := 3) (v := ?_) rfl (by kernel_rfl) (by kernel_rfl) (by kernel_rfl) (fun _ _ _ h => h) (Or.inl ⟨by rfl, ?_⟩) (by assumption) ?_
  rotate_left
  · (intro w hSw; (try dsimp only at hSw); go_simp; try (with_reducible rfl))
  try simp only [Act.put, List.setIfInBounds_toArray, List.set_cons_zero, List.set_cons_succ, List.getElem_toArray, List.getElem_cons_zero, List.getElem_cons_succ]
  refine wpAnyH_take (i := 4) (v := ?_) rfl (by kernel_rfl) (by kernel_rfl) (by kernel_rfl) (fun _ _ _ h => h) (Or.inl ⟨by rfl, ?_⟩) (by assumption) ?_
  rotate_left
  · (intro w hSw; (try dsimp only at hSw); go_simp; try (with_reducible rfl))
  try simp only [Act.put, List.setIfInBounds_toArray, List.set_cons_zero, List.set_cons_succ, List.getElem_toArray, List.getElem_cons_zero, List.getElem_cons_succ]
  refine wpAnyH_take (i := 6) (v := ?_) rfl (by kernel_rfl) (by kernel_rfl) (by kernel_rfl) (fun _ _ _ h => h) (Or.inl ⟨by rfl, ?_⟩) (by assumption) ?_
  rotate_left
  · (intro w hSw; (try dsimp only at hSw); go_simp; try (with_reducible rfl))
  try simp only [Act.put, List.setIfInBounds_toArray, List.set_cons_zero, List.set_cons_succ, List.getElem_toArray, List.getElem_cons_zero, List.getElem_cons_succ]
  refine wpAnyH_ready (rs := [2, 7]) (by kernel_rfl) (by simp) ?_
  refine AllReadyH.cons rfl (fun K hK => ?_) (AllReadyH.cons rfl (fun K hK => ?_) AllReadyH.nil)
  · go_simp
    have HO := Lib.hid (OwnE.empty (w2.drew) (base := w2.heap.size) hHeld.1.size)
    have B := hHeld.1.alloc hHeld.1.size (.cells #[] 35)
    refine hK.out _ _ (HS2.out _ B) (fun hHeld => ?_)
    clear hK K
    try simp only [Act.put, List.setIfInBounds_toArray, List.set_cons_zero, List.set_cons_succ, List.getElem_toArray, List.getElem_cons_zero, List.getElem_cons_succ]
    refine wpAnyH_ready (rs := [5, 7]) (by kernel_rfl) (by simp) ?_
    refine AllReadyH.cons rfl (fun K hK => ?_) (AllReadyH.cons rfl (fun K hK => ?_) AllReadyH.nil)
    · refine step_append_E _ _ w2.heap.size _ [] ad cap l rfl rfl rfl rfl HO.out (HR.out _ hHeld.1) (by simp; omega) hHeld.1.size ?_
      intro v38 wB hO38 hg38
      rw [List.nil_append] at hO38
      obtain ⟨A38, c38, rfl⟩ := hO38.slice
      have HO38 := Lib.hid hO38
      have B := hHeld.1.grown hg38 hHeld.1.size (fun g hg => own_ge HO.out hg)
      refine hK.out _ _ (HS2.out _ B) (fun hHeld => ?_)
      clear hK K
      try simp only [Act.put, List.setIfInBounds_toArray, List.set_cons_zero, List.set_cons_succ, List.getElem_toArray, List.getElem_cons_zero, List.getElem_cons_succ]
      refine wpAnyH_ready (rs := [7]) (by kernel_rfl) (by simp) ?_
      refine AllReadyH.cons rfl (fun K hK => ?_) AllReadyH.nil
      go_simp
      have HX := Lib.hid (re_new (wB) (x0, x1, x2))
      have B := hHeld.1.alloc hHeld.1.size (.cells #[.int .i64 x0, .int .i64 x1, .int .i64 x2] 35)
      have HO8 := Lib.hid (HO38.out.to ((Below.refl wB.heap.size wB).alloc (Nat.le_refl _) (.cells #[.int .i64 x0, .int .i64 x1, .int .i64 x2] 35)))
      refine hK.out _ _ (HS2.out _ B) (fun hHeld => ?_)
      clear hK K
      try simp only [Act.put, List.setIfInBounds_toArray, List.set_cons_zero, List.set_cons_succ, List.getElem_toArray, List.getElem_cons_zero, List.getElem_cons_succ]
      refine wpAnyH_ready (rs := [8]) (by kernel_rfl) (by simp) ?_
      refine AllReadyH.cons rfl (fun K hK => ?_) AllReadyH.nil
      refine step_append_E _ _ w2.heap.size _ l ⟨wB.heap.size, 0, none⟩ 1 [(x0, x1, x2)] rfl rfl rfl rfl HO8.out HX.out (by simp; omega) hHeld.1.size ?_
      intro v41 wD hO41 hg41
      have B := hHeld.1.grown hg41 hHeld.1.size (fun g hg => own_ge (HO8.out) hg)
      have hl1' : (l ++ [(x0, x1, x2)]).length = l.length + 1 := by simp
      obtain ⟨A41, c41, rfl⟩ := hO41.slice
      have hNet := OwnE.net hO41 HXI.out.1 (fun e he => by
        rcases List.mem_append.1 he with he | he
        · exact HXI.out.2.1 e he
        · rw [List.mem_singleton.1 he]; exact HXI.out.2.2)
      rw [hl1'] at hNet
      rw [hl1']
      have HNet := Lib.hid hNet
      clear hNet hO41 hg41 hl1'
      refine hK.out _ _ (HS2.out _ B) (fun hHeld => ?_)
      clear hK K
      try simp only [Act.put, List.setIfInBounds_toArray, List.set_cons_zero, List.set_cons_succ, List.getElem_toArray, List.getElem_cons_zero, List.getElem_cons_succ]
      refine wpAnyH_take (i := 9) (v := ?_) rfl (by kernel_rfl) (by kernel_rfl) (by kernel_rfl) (fun _ _ _ h => h) (Or.inl ⟨by rfl, ?_⟩) (by assumption) ?_
      rotate_left
      · (intro w hSw; (try dsimp only at hSw); go_simp; try (with_reducible rfl))
      try simp only [Act.put, List.setIfInBounds_toArray, List.set_cons_zero, List.set_cons_succ, List.getElem_toArray, List.getElem_cons_zero, List.getElem_cons_succ]
      refine wpAnyH_ready (rs := [10]) (by kernel_rfl) (by simp) ?_
      refine AllReadyH.cons rfl (fun K hK => ?_) AllReadyH.nil
      go_simp
      go_at_call 17
      refine (made_any _ N (l ++ [(x0, x1, x2)]) _ HNet.out).mono ?_
      rintro e w3 hm3
      obtain ⟨b3, p9, b10, rfl, h910⟩ := hm3.pair
      have H910 := Lib.hid h910
      have B := hHeld.1.trans (b3.mono hHeld.1.size)
      clear hm3 h910 b3
      refine hK.out _ _ (HS2.out _ B) (fun hHeld => ?_)
      clear hK K
      try simp only [Act.put, List.setIfInBounds_toArray, List.set_cons_zero, List.set_cons_succ, List.getElem_toArray, List.getElem_cons_zero, List.getElem_cons_succ]
      refine wpAnyH_take (i := 11) (v := ?_) rfl (by kernel_rfl) (by kernel_rfl) (by kernel_rfl) (fun _ _ _ h => h) (Or.inl ⟨by rfl, ?_⟩) (by assumption) ?_
      rotate_left
      · (intro w hSw; (try dsimp only at hSw); go_simp; try (with_reducible rfl))
      try simp only [Act.put, List.setIfInBounds_toArray, List.set_cons_zero, List.set_cons_succ, List.getElem_toArray, List.getElem_cons_zero, List.getElem_cons_succ]
      refine wpAnyH_take (i := 12) (v := ?_) rfl (by kernel_rfl) (by kernel_rfl) (by kernel_rfl) (fun _ _ _ h => h) (Or.inl ⟨by rfl, ?_⟩) (by assumption) ?_
      rotate_left
      · (intro w hSw; (try dsimp only at hSw); go_simp; try (with_reducible rfl))
      try simp only [Act.put, List.setIfInBounds_toArray, List.set_cons_zero, List.set_cons_succ, List.getElem_toArray, List.getElem_cons_zero, List.getElem_cons_succ]
      refine wpAnyH_take (i := 13) (v := ?_) rfl (by kernel_rfl) (by kernel_rfl) (by kernel_rfl) (fun _ _ _ h => h) (Or.inl ⟨by rfl, ?_⟩) (by assumption) ?_
      rotate_left
      · (intro w hSw; (try dsimp only at hSw); go_simp; try (with_reducible rfl))
      try simp only [Act.put, List.setIfInBounds_toArray, List.set_cons_zero, List.set_cons_succ, List.getElem_toArray, List.getElem_cons_zero, List.getElem_cons_succ]
      refine wpAnyH_take (i := 14) (v := ?_) rfl (by kernel_rfl) (by kernel_rfl) (by kernel_rfl) (fun _ _ _ h => h) (Or.inl ⟨by rfl, ?_⟩) (by assumption) ?_
      rotate_left
      · (intro w hSw; (try dsimp only at hSw); go_simp; try (with_reducible rfl))
      try simp only [Act.put, List.setIfInBounds_toArray, List.set_cons_zero, List.set_cons_succ, List.getElem_toArray, List.getElem_cons_zero, List.getElem_cons_succ]
      refine wpAnyH_take (i := 15) (v := ?_) rfl (by kernel_rfl) (by kernel_rfl) (by kernel_rfl) (fun _ _ _ h => h) (Or.inl ⟨by rfl, ?_⟩) (by assumption) ?_
      rotate_left
      · (intro w hSw; (try dsimp only at hSw); go_simp; try (with_reducible rfl))
      try simp only [Act.put, List.setIfInBounds_toArray, List.set_cons_zero, List.set_cons_succ, List.getElem_toArray, List.getElem_cons_zero, List.getElem_cons_succ]
      refine wpAnyH_done (by kernel_rfl) ?_ _
      try simp only [Act.put, List.setIfInBounds_toArray, List.set_cons_zero, List.set_cons_succ, List.getElem_toArray, List.getElem_cons_zero, List.getElem_cons_succ]
      have HB3 := Lib.hid (then_ HB2.out hHeld.1)
      have HB23 := Lib.hid hHeld.1
      clear hHeld B
      obtain ⟨c0, c1, _⟩ := HC.out w3 HB3.out
      rcases H78.out with ⟨rfl, _⟩ | ⟨rfl, hF, lo, G, rfl, hlo, hG⟩
      · go_wp2_with fail
        go_ret
        exact ⟨rfl, then_ HB.out HB3.out⟩
      rcases H910.out with ⟨rfl, _⟩ | ⟨rfl, hF2, lo2, G2, rfl, hlo2, hG2⟩
      · go_wp2_with fail
        go_ret
        exact ⟨rfl, then_ HB.out HB3.out⟩
      have hN1 := hF.lo
      obtain ⟨N, rfl⟩ : ∃ k : Nat, N = (k : Int) := ⟨N.toNat, by omega⟩
      rw [Int.toNat_natCast] at hG hG2
      have HF := Lib.hid (And.intro hF hF2)
      have HG := Lib.hid hG
      have HG2 := Lib.hid hG2
      have HR3 := Lib.hid ((HA.out.1.below (then_ HB.out HB3.out)).below ((Below.refl w3.heap.size w3).alloc (Nat.le_refl _) (.cells #[] 35)))
      clear hF hF2 hG hG2 H78 H910
      obtain ⟨_, d1, _⟩ := HC.out (w3.alloc (.cells #[] 35)) (HB3.out.alloc HB3.out.size _)
      go_wp2_with (at_builtin; go_loud (refine wpList_append_E _ _ w3.heap.size _ [] ad cap l rfl rfl rfl rfl (OwnE.empty w3 (Nat.le_refl _)) HR3.out (by simp; omega) (by simp) ?_; intro v11 w4 hO4 hg4; rw [List.nil_append] at hO4; obtain ⟨g4, c4, rfl, hg4b, hg4l⟩ := World.ownsRow.form hO4 hl1; have HO4 := Lib.hid (And.intro hO4 (And.intro hg4 hg4b)); have hj : m % l.length < l.length := Nat.mod_lt _ hl1; obtain ⟨k1, k2⟩ := row_cell3 hO4 (j := m % l.length * 3 + 2) (ecs_at l (m % l.length) 2 _ (ed_at hj) (by omega)); have b4 := ((Below.refl w3.heap.size w3).alloc (Nat.le_refl _) (.cells #[] 35)).grown hg4 (by simp) (fun g hg => own_ge (OwnE.empty w3 (Nat.le_refl _)) hg); have ht := OwnE.time hO4 hj 4611686018427387904; have b5 := b4.grown ht.2 b4.size (fun g hg => by injection hg with hg; omega); obtain ⟨e0, e1, _⟩ := HC.out _ (then_ HB3.out b5); have HT := Lib.hid (And.intro ht.1 b5); clear hO4 hg4 hg4b hg4l b4 b5 ht))
      have hNet := OwnE.net2 (l := l.modify (m % l.length) fun x => (x.1, x.2.1, 4611686018427387904)) HT.out.1 (by rw [List.length_modify]) HXI.out.1 (fun e he => by
        obtain ⟨y, hy, h | h⟩ := mem_modify he
        · rw [h]; exact HXI.out.2.1 y hy
        · rw [h]
          have h3 := HXI.out.2.1 y hy
          exact ⟨h3.1, h3.2.1, by show -9223372036854775808 ≤ (4611686018427387904 : Int) ∧ (4611686018427387904 : Int) ≤ 9223372036854775807; decide⟩)
      have HNet := Lib.hid hNet
      clear hNet
      refine (made_any _ N (l.modify (m % l.length) fun x => (x.1, x.2.1, 4611686018427387904)) _ HNet.out).mono ?_
      rintro e w6 hm6
      obtain ⟨b6, p12, b13, rfl, h12⟩ := hm6.pair
      rcases h12 with ⟨rfl, hne⟩ | ⟨rfl, hF3, lo3, G3, rfl, hlo3, hG3⟩
      · exact absurd (fair_iff.2 (fair_close HF.out.1 _)) hne
      rw [Int.toNat_natCast] at hG3
      have hD1 := fun src => diff_none (fun x hx => ahead_more (src := src) HF.out.1 HF.out.2 (fun e he _ => List.mem_append_left _ he) hx)
      have hD2 := fun src => diff_none (fun x hx => ahead_more (src := src) hF3 HF.out.1 (fun e he ho => close_sub he ho) hx)
      have HD := Lib.hid (And.intro hD1 hD2)
      have HG3 := Lib.hid hG3
      generalize (l.modify (m % l.length) fun x => (x.1, x.2.1, 4611686018427387904)) = L3 at *
      have HB36 := Lib.hid (then_ HT.out.2 b6)
      have HB6 := Lib.hid (then_ HB3.out HB36.out)
      have HN1 := Lib.hid hN1
      clear hD1 hD2 hG3 b6 hm6 hF3 e0 e1 d1 c0 c1 k1 k2
      obtain ⟨f0, f1, _⟩ := HC.out w6 HB6.out
      have hN12 : N ≤ 4096 := by have := HF.out.1.hi; omega
      go_wp2_with fail
      go_loopw [76] (fun i W' => ∃ k : Nat, i = .int .i64 k ∧ k ≤ N ∧ Hid (Below w6.heap.size w6 W')) (fun i _ => N - (RowKit.intOf i).toNat)
      case atStart => exact ⟨0, rfl, by omega, Below.refl _ _⟩
      case round =>
        obtain ⟨k, rfl, hk, hB⟩ := hrel
        clear f0 f1
        by_cases hlt : k < N
        · have hkI : (k : Int) < (N : Int) := by omega
          have HE6 := Lib.hid (fun w' (hb : Below w6.heap.size w6 w') => HA.out.2.of (then_ HB.out (then_ HB6.out hb)))
          have HGa := Lib.hid (fun w' (hb : Below w6.heap.size w6 w') => And.intro (HG.out.below (then_ HB23.out (then_ HB36.out hb))) (then_ HB23.out (then_ HB36.out hb)).size)
          have HGb := Lib.hid (fun w' (hb : Below w6.heap.size w6 w') => And.intro (HG2.out.below (then_ HB36.out hb)) (then_ HB36.out hb).size)
          have HGc := Lib.hid (fun w' (hb : Below w6.heap.size w6 w') => And.intro (HG3.out.below hb) hb.size)
          go_wp2_with fail
          refine (of_any (some ⟨wr.heap.size, 0, none⟩) 1 1 [(k : Int)] _ (ints_new wr [(k : Int)] (by simp)) (by decide)).mono ?_
          rintro e w7 ⟨rfl, b7⟩
          have HB7 := Lib.hid (hB.out.trans ((then_ ((Below.refl wr.heap.size wr).alloc (Nat.le_refl _) (.cells #[.int .i64 (k : Int)] 3)) b7).mono hB.out.size))
          clear b7
          go_wp2_with fail
          refine (reachable_any N l (ofP [(k : Int)]) w7 (HE6.out _ HB7.out) lo w2.heap.size G (HGa.out _ HB7.out).1 (HGa.out _ HB7.out).2).mono ?_
          rintro e w8 ⟨rfl, b8⟩
          have HB8 := Lib.hid (HB7.out.trans (b8.mono HB7.out.size))
          clear b8
          go_wp2_with (first | refine wpList_alloc_set rfl rfl ?_ | refine wpList_store_set _ _ _ _ _ rfl rfl rfl rfl (SetAt.new w8 _) ?_)
          have b9 : Below w8.heap.size w8 ((w8.alloc (.cells (cells fun _ => false) 53)).setRow w8.heap.size (cells (ofP (aheadR N l (ei (ofP [(k : Int)])))))) := below_setRow ((Below.refl _ _).alloc (Nat.le_refl _) _) (Nat.le_refl _) _
          have h15 : SetAt ((w8.alloc (.cells (cells fun _ => false) 53)).setRow w8.heap.size (cells (ofP (aheadR N l (ei (ofP [(k : Int)])))))) w8.heap.size (ofP (aheadR N l (ei (ofP [(k : Int)])))) := (SetAt.new w8 _).row
          generalize (w8.alloc (.cells (cells fun _ => false) 53)).setRow w8.heap.size (cells (ofP (aheadR N l (ei (ofP [(k : Int)]))))) = w9 at *
          have HB9 := Lib.hid (HB8.out.trans (b9.mono HB8.out.size))
          have HS15 := Lib.hid (fun w' (hb : Below w9.heap.size w9 w') => h15.below hb h15.lt)
          have H69 := Lib.hid (fun w' (hb : Below w9.heap.size w9 w') => HB9.out.trans (hb.mono HB9.out.size))
          clear b9 h15
          generalize w8.heap.size = s15 at *
          go_wp2_with fail
          refine wp_region_held_drew (S := fun w' => Below w9.heap.size w9 w') (by kernel_rfl) ((Below.refl _ _).drew) (fun hHeld => ?_)
          refine wpAnyH_take (i := 0) (v := .agg (cells (ofP (aheadR N l (ei (ofP [(k : Int)])))))) rfl (by kernel_rfl) (by kernel_rfl) (by kernel_rfl) (fun _ _ _ h => h) (Or.inl ⟨by rfl, fun w hw => exec_load_mid (g := s15) (off := 0) rfl rfl (run_loadVar_row w s15 53 53 (cells (ofP (aheadR N l (ei (ofP [(k : Int)]))))) (0, 0) _ (HS15.out w hw) Tryd.underlying53 rfl (info_set' _))⟩) (by assumption) ?_
          try simp only [Act.put, List.setIfInBounds_toArray, List.set_cons_zero, List.set_cons_succ, List.getElem_toArray, List.getElem_cons_zero, List.getElem_cons_succ]
          refine wpAnyH_take (i := 1) (v := ?_) rfl (by kernel_rfl) (by kernel_rfl) (by kernel_rfl) (fun _ _ _ h => h) (Or.inl ⟨by rfl, ?_⟩) (by assumption) ?_
          rotate_left
          · (intro w hSw; (try dsimp only at hSw); go_simp; try (with_reducible rfl))
          try simp only [Act.put, List.setIfInBounds_toArray, List.set_cons_zero, List.set_cons_succ, List.getElem_toArray, List.getElem_cons_zero, List.getElem_cons_succ]
          refine wpAnyH_take (i := 2) (v := ?_) rfl (by kernel_rfl) (by kernel_rfl) (by kernel_rfl) (fun _ _ _ h => h) (Or.inl ⟨by rfl, ?_⟩) (by assumption) ?_
          rotate_left
          · (intro w hSw; (try dsimp only at hSw); go_simp; try (with_reducible rfl))
          try simp only [Act.put, List.setIfInBounds_toArray, List.set_cons_zero, List.set_cons_succ, List.getElem_toArray, List.getElem_cons_zero, List.getElem_cons_succ]
          refine wpAnyH_ready (rs := [3]) (by kernel_rfl) (by simp) ?_
          refine AllReadyH.cons rfl (fun K hK => ?_) AllReadyH.nil
          go_simp
          have B := hHeld.alloc hHeld.size (.cells #[.int .i64 (k : Int)] 3)
          refine hK.out _ _ B (fun hHeld => ?_)
          clear hK K
          try simp only [Act.put, List.setIfInBounds_toArray, List.set_cons_zero, List.set_cons_succ, List.getElem_toArray, List.getElem_cons_zero, List.getElem_cons_succ]
          have HRd := Lib.hid (show Rd (w9.alloc (.cells #[.int .i64 (k : Int)] 3)).drew (some ⟨w9.heap.size, 0, none⟩) 1 [(k : Int)] from ints_new w9 [(k : Int)] (by simp))
          generalize (w9.alloc (.cells #[.int .i64 (k : Int)] 3)).drew = wb at *
          refine wpAnyH_ready (rs := [4]) (by kernel_rfl) (by simp) ?_
          refine AllReadyH.cons rfl (fun K hK => ?_) AllReadyH.nil
          go_simp
          go_at_call 26
          refine (of_any (some ⟨w9.heap.size, 0, none⟩) 1 1 [(k : Int)] wb HRd.out (by decide)).mono ?_
          rintro e wc ⟨rfl, b7⟩
          have B := hHeld.trans (b7.mono hHeld.size)
          clear b7 HRd
          refine hK.out _ _ (B) (fun hHeld => ?_)
          clear hK K
          try simp only [Act.put, List.setIfInBounds_toArray, List.set_cons_zero, List.set_cons_succ, List.getElem_toArray, List.getElem_cons_zero, List.getElem_cons_succ]
          refine wpAnyH_ready (rs := [5]) (by kernel_rfl) (by simp) ?_
          refine AllReadyH.cons rfl (fun K hK => ?_) AllReadyH.nil
          go_simp
          go_at_call 25
          refine (reachable_any N (l ++ [(x0, x1, x2)]) (ofP [(k : Int)]) _ (HE6.out _ (H69.out _ hHeld)) lo2 w3.heap.size G2 (HGb.out _ (H69.out _ hHeld)).1 (HGb.out _ (H69.out _ hHeld)).2).mono ?_
          rintro e wd ⟨rfl, b7⟩
          have B := hHeld.trans (b7.mono hHeld.size)
          clear b7
          refine hK.out _ _ (B) (fun hHeld => ?_)
          clear hK K
          try simp only [Act.put, List.setIfInBounds_toArray, List.set_cons_zero, List.set_cons_succ, List.getElem_toArray, List.getElem_cons_zero, List.getElem_cons_succ]
          refine wpAnyH_ready (rs := [6]) (by kernel_rfl) (by simp) ?_
          refine AllReadyH.cons rfl (fun K hK => ?_) AllReadyH.nil
          go_simp
          go_at_call 36
          refine (diff_any (ofP (aheadR N l (ei (ofP [(k : Int)])))) (ofP (aheadR N (l ++ [(x0, x1, x2)]) (ei (ofP [(k : Int)])))) _).mono ?_
          rintro e w7 ⟨rfl, b7⟩
          have B := hHeld.trans (b7.mono hHeld.size)
          clear b7
          refine hK.out _ _ (B) (fun hHeld => ?_)
          clear hK K
          try simp only [Act.put, List.setIfInBounds_toArray, List.set_cons_zero, List.set_cons_succ, List.getElem_toArray, List.getElem_cons_zero, List.getElem_cons_succ]
          refine wpAnyH_ready (rs := [7]) (by kernel_rfl) (by simp) ?_
          refine AllReadyH.cons rfl (fun K hK => ?_) AllReadyH.nil
          go_simp
          go_at_call 32
          refine (len_any _ _).mono ?_
          rintro e w10 ⟨rfl, b7⟩
          rw [HD.out.1]
          have B := hHeld.trans (b7.mono hHeld.size)
          clear b7
          refine hK.out _ _ (B) (fun hHeld => ?_)
          clear hK K
          try simp only [Act.put, List.setIfInBounds_toArray, List.set_cons_zero, List.set_cons_succ, List.getElem_toArray, List.getElem_cons_zero, List.getElem_cons_succ]
          refine wpAnyH_take (i := 8) (v := ?_) rfl (by kernel_rfl) (by kernel_rfl) (by kernel_rfl) (fun _ _ _ h => h) (Or.inl ⟨by rfl, ?_⟩) (by assumption) ?_
          rotate_left
          · (intro w hSw; (try dsimp only at hSw); go_simp; try (with_reducible rfl))
          try simp only [Act.put, List.setIfInBounds_toArray, List.set_cons_zero, List.set_cons_succ, List.getElem_toArray, List.getElem_cons_zero, List.getElem_cons_succ]
          refine wpAnyH_take (i := 9) (v := ?_) rfl (by kernel_rfl) (by kernel_rfl) (by kernel_rfl) (fun _ _ _ h => h) (Or.inl ⟨by rfl, ?_⟩) (by assumption) ?_
          rotate_left
          · (intro w hSw; (try dsimp only at hSw); go_simp; try (with_reducible rfl))
          try simp only [Act.put, List.setIfInBounds_toArray, List.set_cons_zero, List.set_cons_succ, List.getElem_toArray, List.getElem_cons_zero, List.getElem_cons_succ]
          refine wpAnyH_take (i := 10) (v := ?_) rfl (by kernel_rfl) (by kernel_rfl) (by kernel_rfl) (fun _ _ _ h => h) (Or.inl ⟨by rfl, ?_⟩) (by assumption) ?_
          rotate_left
          · (intro w hSw; (try dsimp only at hSw); go_simp; try (with_reducible rfl))
          try simp only [Act.put, List.setIfInBounds_toArray, List.set_cons_zero, List.set_cons_succ, List.getElem_toArray, List.getElem_cons_zero, List.getElem_cons_succ]
          refine wpAnyH_take (i := 11) (v := ?_) rfl (by kernel_rfl) (by kernel_rfl) (by kernel_rfl) (fun _ _ _ h => h) (Or.inl ⟨by rfl, ?_⟩) (by assumption) ?_
          rotate_left
          · (intro w hSw; (try dsimp only at hSw); go_simp; try (with_reducible rfl))
          try simp only [Act.put, List.setIfInBounds_toArray, List.set_cons_zero, List.set_cons_succ, List.getElem_toArray, List.getElem_cons_zero, List.getElem_cons_succ]
          refine wpAnyH_take (i := 15) (v := .agg (cells (ofP (aheadR N l (ei (ofP [(k : Int)])))))) rfl (by kernel_rfl) (by kernel_rfl) (by kernel_rfl) (fun _ _ _ h => h) (Or.inl ⟨by rfl, fun w hw => exec_load_mid (g := s15) (off := 0) rfl rfl (run_loadVar_row w s15 53 53 (cells (ofP (aheadR N l (ei (ofP [(k : Int)]))))) (0, 0) _ (HS15.out w hw) Tryd.underlying53 rfl (info_set' _))⟩) (by assumption) ?_
          try simp only [Act.put, List.setIfInBounds_toArray, List.set_cons_zero, List.set_cons_succ, List.getElem_toArray, List.getElem_cons_zero, List.getElem_cons_succ]
          refine wpAnyH_ready (rs := [12]) (by kernel_rfl) (by simp) ?_
          refine AllReadyH.cons rfl (fun K hK => ?_) AllReadyH.nil
          go_simp
          have B := hHeld.alloc hHeld.size (.cells #[.int .i64 (k : Int)] 3)
          refine hK.out _ _ B (fun hHeld => ?_)
          clear hK K
          try simp only [Act.put, List.setIfInBounds_toArray, List.set_cons_zero, List.set_cons_succ, List.getElem_toArray, List.getElem_cons_zero, List.getElem_cons_succ]
          have HRd := Lib.hid (show Rd (w10.alloc (.cells #[.int .i64 (k : Int)] 3)) (some ⟨w10.heap.size, 0, none⟩) 1 [(k : Int)] from ints_new w10 [(k : Int)] (by simp))
          generalize (w10.alloc (.cells #[.int .i64 (k : Int)] 3)) = wb at *
          refine wpAnyH_ready (rs := [13]) (by kernel_rfl) (by simp) ?_
          refine AllReadyH.cons rfl (fun K hK => ?_) AllReadyH.nil
          go_simp
          go_at_call 26
          refine (of_any (some ⟨w10.heap.size, 0, none⟩) 1 1 [(k : Int)] wb HRd.out (by decide)).mono ?_
          rintro e wc ⟨rfl, b7⟩
          have B := hHeld.trans (b7.mono hHeld.size)
          clear b7 HRd
          refine hK.out _ _ (B) (fun hHeld => ?_)
          clear hK K
          try simp only [Act.put, List.setIfInBounds_toArray, List.set_cons_zero, List.set_cons_succ, List.getElem_toArray, List.getElem_cons_zero, List.getElem_cons_succ]
          refine wpAnyH_ready (rs := [14]) (by kernel_rfl) (by simp) ?_
          refine AllReadyH.cons rfl (fun K hK => ?_) AllReadyH.nil
          go_simp
          go_at_call 25
          refine (reachable_any N (L3) (ofP [(k : Int)]) _ (HE6.out _ (H69.out _ hHeld)) lo3 w6.heap.size G3 (HGc.out _ (H69.out _ hHeld)).1 (HGc.out _ (H69.out _ hHeld)).2).mono ?_
          rintro e wd ⟨rfl, b7⟩
          have B := hHeld.trans (b7.mono hHeld.size)
          clear b7
          refine hK.out _ _ (B) (fun hHeld => ?_)
          clear hK K
          try simp only [Act.put, List.setIfInBounds_toArray, List.set_cons_zero, List.set_cons_succ, List.getElem_toArray, List.getElem_cons_zero, List.getElem_cons_succ]
          refine wpAnyH_ready (rs := [16]) (by kernel_rfl) (by simp) ?_
          refine AllReadyH.cons rfl (fun K hK => ?_) AllReadyH.nil
          go_simp
          go_at_call 36
          refine (diff_any (ofP (aheadR N L3 (ei (ofP [(k : Int)])))) (ofP (aheadR N l (ei (ofP [(k : Int)])))) _).mono ?_
          rintro e w7 ⟨rfl, b7⟩
          have B := hHeld.trans (b7.mono hHeld.size)
          clear b7
          refine hK.out _ _ (B) (fun hHeld => ?_)
          clear hK K
          try simp only [Act.put, List.setIfInBounds_toArray, List.set_cons_zero, List.set_cons_succ, List.getElem_toArray, List.getElem_cons_zero, List.getElem_cons_succ]
          refine wpAnyH_ready (rs := [17]) (by kernel_rfl) (by simp) ?_
          refine AllReadyH.cons rfl (fun K hK => ?_) AllReadyH.nil
          go_simp
          go_at_call 32
          refine (len_any _ _).mono ?_
          rintro e w10 ⟨rfl, b7⟩
          rw [HD.out.2]
          have B := hHeld.trans (b7.mono hHeld.size)
          clear b7
          refine hK.out _ _ (B) (fun hHeld => ?_)
          clear hK K
          try simp only [Act.put, List.setIfInBounds_toArray, List.set_cons_zero, List.set_cons_succ, List.getElem_toArray, List.getElem_cons_zero, List.getElem_cons_succ]
          refine wpAnyH_take (i := 18) (v := ?_) rfl (by kernel_rfl) (by kernel_rfl) (by kernel_rfl) (fun _ _ _ h => h) (Or.inl ⟨by rfl, ?_⟩) (by assumption) ?_
          rotate_left
          · (intro w hSw; (try dsimp only at hSw); go_simp; try (with_reducible rfl))
          try simp only [Act.put, List.setIfInBounds_toArray, List.set_cons_zero, List.set_cons_succ, List.getElem_toArray, List.getElem_cons_zero, List.getElem_cons_succ]
          refine wpAnyH_take (i := 19) (v := ?_) rfl (by kernel_rfl) (by kernel_rfl) (by kernel_rfl) (fun _ _ _ h => h) (Or.inl ⟨by rfl, ?_⟩) (by assumption) ?_
          rotate_left
          · (intro w hSw; (try dsimp only at hSw); go_simp; try (with_reducible rfl))
          try simp only [Act.put, List.setIfInBounds_toArray, List.set_cons_zero, List.set_cons_succ, List.getElem_toArray, List.getElem_cons_zero, List.getElem_cons_succ]
          refine wpAnyH_done (by kernel_rfl) ?_ _
          try simp only [Act.put, List.setIfInBounds_toArray, List.set_cons_zero, List.set_cons_succ, List.getElem_toArray, List.getElem_cons_zero, List.getElem_cons_succ]
          have HBz := Lib.hid (H69.out _ hHeld)
          clear hHeld
          go_wp2_with fail
          go_roundw
          case rel => exact ⟨k + 1, by go_num, by omega, HBz.out⟩
          case measure => simp [RowKit.intOf]; omega
        · go_wp2_with fail
          go_ret
          exact ⟨rfl, then_ HB.out (then_ HB6.out hB.out)⟩
    · go_simp
      have HX := Lib.hid (re_new (w2.drew.alloc (.cells #[] 35)) (x0, x1, x2))
      have B := hHeld.1.alloc hHeld.1.size (.cells #[.int .i64 x0, .int .i64 x1, .int .i64 x2] 35)
      have HO := Lib.hid (HO.out.to ((Below.refl _ _).alloc (Nat.le_refl _) (.cells #[.int .i64 x0, .int .i64 x1, .int .i64 x2] 35)))
      refine hK.out _ _ (HS2.out _ B) (fun hHeld => ?_)
      clear hK K
      try simp only [Act.put, List.setIfInBounds_toArray, List.set_cons_zero, List.set_cons_succ, List.getElem_toArray, List.getElem_cons_zero, List.getElem_cons_succ]
      refine wpAnyH_ready (rs := [5]) (by kernel_rfl) (by simp) ?_
      refine AllReadyH.cons rfl (fun K hK => ?_) AllReadyH.nil
      refine step_append_E _ _ w2.heap.size _ [] ad cap l rfl rfl rfl rfl HO.out (HR.out _ hHeld.1) (by simp; omega) hHeld.1.size ?_
      intro v38 wB hO38 hg38
      rw [List.nil_append] at hO38
      obtain ⟨A38, c38, rfl⟩ := hO38.slice
      have HO38 := Lib.hid hO38
      have B := hHeld.1.grown hg38 hHeld.1.size (fun g hg => own_ge HO.out hg)
      have hX7 : ((w2.alloc (.cells #[] 35)).alloc (.cells #[.int .i64 x0, .int .i64 x1, .int .i64 x2] 35)).heap[w2.heap.size + 1]? = some (.cells #[.int .i64 x0, .int .i64 x1, .int .i64 x2] 35 (0, 0)) := by have := heap_alloc_new (w2.alloc (.cells #[] 35)) (.cells #[.int .i64 x0, .int .i64 x1, .int .i64 x2] 35); simpa using this
      have HX8 := Lib.hid (re_at (x := (x0, x1, x2)) ((hg38.block (w2.heap.size + 1) (by simp) (fun e => by injection e with e; dsimp only at e; omega)).trans hX7))
      clear hX7
      refine hK.out _ _ (HS2.out _ B) (fun hHeld => ?_)
      clear hK K
      try simp only [Act.put, List.setIfInBounds_toArray, List.set_cons_zero, List.set_cons_succ, List.getElem_toArray, List.getElem_cons_zero, List.getElem_cons_succ]
      refine wpAnyH_ready (rs := [8]) (by kernel_rfl) (by simp) ?_
      refine AllReadyH.cons rfl (fun K hK => ?_) AllReadyH.nil
      refine step_append_E _ _ w2.heap.size _ l ⟨w2.heap.size + 1, 0, none⟩ 1 [(x0, x1, x2)] rfl rfl rfl rfl HO38.out HX8.out (by simp; omega) hHeld.1.size ?_
      intro v41 wD hO41 hg41
      have B := hHeld.1.grown hg41 hHeld.1.size (fun g hg => own_ge (HO38.out) hg)
      have hl1' : (l ++ [(x0, x1, x2)]).length = l.length + 1 := by simp
      obtain ⟨A41, c41, rfl⟩ := hO41.slice
      have hNet := OwnE.net hO41 HXI.out.1 (fun e he => by
        rcases List.mem_append.1 he with he | he
        · exact HXI.out.2.1 e he
        · rw [List.mem_singleton.1 he]; exact HXI.out.2.2)
      rw [hl1'] at hNet
      rw [hl1']
      have HNet := Lib.hid hNet
      clear hNet hO41 hg41 hl1'
      refine hK.out _ _ (HS2.out _ B) (fun hHeld => ?_)
      clear hK K
      try simp only [Act.put, List.setIfInBounds_toArray, List.set_cons_zero, List.set_cons_succ, List.getElem_toArray, List.getElem_cons_zero, List.getElem_cons_succ]
      refine wpAnyH_take (i := 9) (v := ?_) rfl (by kernel_rfl) (by kernel_rfl) (by kernel_rfl) (fun _ _ _ h => h) (Or.inl ⟨by rfl, ?_⟩) (by assumption) ?_
      rotate_left
      · (intro w hSw; (try dsimp only at hSw); go_simp; try (with_reducible rfl))
      try simp only [Act.put, List.setIfInBounds_toArray, List.set_cons_zero, List.set_cons_succ, List.getElem_toArray, List.getElem_cons_zero, List.getElem_cons_succ]
      refine wpAnyH_ready (rs := [10]) (by kernel_rfl) (by simp) ?_
      refine AllReadyH.cons rfl (fun K hK => ?_) AllReadyH.nil
      go_simp
      go_at_call 17
      refine (made_any _ N (l ++ [(x0, x1, x2)]) _ HNet.out).mono ?_
      rintro e w3 hm3
      obtain ⟨b3, p9, b10, rfl, h910⟩ := hm3.pair
      have H910 := Lib.hid h910
      have B := hHeld.1.trans (b3.mono hHeld.1.size)
      clear hm3 h910 b3
      refine hK.out _ _ (HS2.out _ B) (fun hHeld => ?_)
      clear hK K
      try simp only [Act.put, List.setIfInBounds_toArray, List.set_cons_zero, List.set_cons_succ, List.getElem_toArray, List.getElem_cons_zero, List.getElem_cons_succ]
      refine wpAnyH_take (i := 11) (v := ?_) rfl (by kernel_rfl) (by kernel_rfl) (by kernel_rfl) (fun _ _ _ h => h) (Or.inl ⟨by rfl, ?_⟩) (by assumption) ?_
      rotate_left
      · (intro w hSw; (try dsimp only at hSw); go_simp; try (with_reducible rfl))
      try simp only [Act.put, List.setIfInBounds_toArray, List.set_cons_zero, List.set_cons_succ, List.getElem_toArray, List.getElem_cons_zero, List.getElem_cons_succ]
      refine wpAnyH_take (i := 12) (v := ?_) rfl (by kernel_rfl) (by kernel_rfl) (by kernel_rfl) (fun _ _ _ h => h) (Or.inl ⟨by rfl, ?_⟩) (by assumption) ?_
      rotate_left
      · (intro w hSw; (try dsimp only at hSw); go_simp; try (with_reducible rfl))
      try simp only [Act.put, List.setIfInBounds_toArray, List.set_cons_zero, List.set_cons_succ, List.getElem_toArray, List.getElem_cons_zero, List.getElem_cons_succ]
      refine wpAnyH_take (i := 13) (v := ?_) rfl (by kernel_rfl) (by kernel_rfl) (by kernel_rfl) (fun _ _ _ h => h) (Or.inl ⟨by rfl, ?_⟩) (by assumption) ?_
      rotate_left
      · (intro w hSw; (try dsimp only at hSw); go_simp; try (with_reducible rfl))
      try simp only [Act.put, List.setIfInBounds_toArray, List.set_cons_zero, List.set_cons_succ, List.getElem_toArray, List.getElem_cons_zero, List.getElem_cons_succ]
      refine wpAnyH_take (i := 14) (v := ?_) rfl (by kernel_rfl) (by kernel_rfl) (by kernel_rfl) (fun _ _ _ h => h) (Or.inl ⟨by rfl, ?_⟩) (by assumption) ?_
      rotate_left
      · (intro w hSw; (try dsimp only at hSw); go_simp; try (with_reducible rfl))
      try simp only [Act.put, List.setIfInBounds_toArray, List.set_cons_zero, List.set_cons_succ, List.getElem_toArray, List.getElem_cons_zero, List.getElem_cons_succ]
      refine wpAnyH_take (i := 15) (v := ?_) rfl (by kernel_rfl) (by kernel_rfl) (by kernel_rfl) (fun _ _ _ h => h) (Or.inl ⟨by rfl, ?_⟩) (by assumption) ?_
      rotate_left
      · (intro w hSw; (try dsimp only at hSw); go_simp; try (with_reducible rfl))
      try simp only [Act.put, List.setIfInBounds_toArray, List.set_cons_zero, List.set_cons_succ, List.getElem_toArray, List.getElem_cons_zero, List.getElem_cons_succ]
      refine wpAnyH_done (by kernel_rfl) ?_ _
      try simp only [Act.put, List.setIfInBounds_toArray, List.set_cons_zero, List.set_cons_succ, List.getElem_toArray, List.getElem_cons_zero, List.getElem_cons_succ]
      have HB3 := Lib.hid (then_ HB2.out hHeld.1)
      have HB23 := Lib.hid hHeld.1
      clear hHeld B
      obtain ⟨c0, c1, _⟩ := HC.out w3 HB3.out
      rcases H78.out with ⟨rfl, _⟩ | ⟨rfl, hF, lo, G, rfl, hlo, hG⟩
      · go_wp2_with fail
        go_ret
        exact ⟨rfl, then_ HB.out HB3.out⟩
      rcases H910.out with ⟨rfl, _⟩ | ⟨rfl, hF2, lo2, G2, rfl, hlo2, hG2⟩
      · go_wp2_with fail
        go_ret
        exact ⟨rfl, then_ HB.out HB3.out⟩
      have hN1 := hF.lo
      obtain ⟨N, rfl⟩ : ∃ k : Nat, N = (k : Int) := ⟨N.toNat, by omega⟩
      rw [Int.toNat_natCast] at hG hG2
      have HF := Lib.hid (And.intro hF hF2)
      have HG := Lib.hid hG
      have HG2 := Lib.hid hG2
      have HR3 := Lib.hid ((HA.out.1.below (then_ HB.out HB3.out)).below ((Below.refl w3.heap.size w3).alloc (Nat.le_refl _) (.cells #[] 35)))
      clear hF hF2 hG hG2 H78 H910
      obtain ⟨_, d1, _⟩ := HC.out (w3.alloc (.cells #[] 35)) (HB3.out.alloc HB3.out.size _)
      go_wp2_with (at_builtin; go_loud (refine wpList_append_E _ _ w3.heap.size _ [] ad cap l rfl rfl rfl rfl (OwnE.empty w3 (Nat.le_refl _)) HR3.out (by simp; omega) (by simp) ?_; intro v11 w4 hO4 hg4; rw [List.nil_append] at hO4; obtain ⟨g4, c4, rfl, hg4b, hg4l⟩ := World.ownsRow.form hO4 hl1; have HO4 := Lib.hid (And.intro hO4 (And.intro hg4 hg4b)); have hj : m % l.length < l.length := Nat.mod_lt _ hl1; obtain ⟨k1, k2⟩ := row_cell3 hO4 (j := m % l.length * 3 + 2) (ecs_at l (m % l.length) 2 _ (ed_at hj) (by omega)); have b4 := ((Below.refl w3.heap.size w3).alloc (Nat.le_refl _) (.cells #[] 35)).grown hg4 (by simp) (fun g hg => own_ge (OwnE.empty w3 (Nat.le_refl _)) hg); have ht := OwnE.time hO4 hj 4611686018427387904; have b5 := b4.grown ht.2 b4.size (fun g hg => by injection hg with hg; omega); obtain ⟨e0, e1, _⟩ := HC.out _ (then_ HB3.out b5); have HT := Lib.hid (And.intro ht.1 b5); clear hO4 hg4 hg4b hg4l b4 b5 ht))
      have hNet := OwnE.net2 (l := l.modify (m % l.length) fun x => (x.1, x.2.1, 4611686018427387904)) HT.out.1 (by rw [List.length_modify]) HXI.out.1 (fun e he => by
        obtain ⟨y, hy, h | h⟩ := mem_modify he
        · rw [h]; exact HXI.out.2.1 y hy
        · rw [h]
          have h3 := HXI.out.2.1 y hy
          exact ⟨h3.1, h3.2.1, by show -9223372036854775808 ≤ (4611686018427387904 : Int) ∧ (4611686018427387904 : Int) ≤ 9223372036854775807; decide⟩)
      have HNet := Lib.hid hNet
      clear hNet
      refine (made_any _ N (l.modify (m % l.length) fun x => (x.1, x.2.1, 4611686018427387904)) _ HNet.out).mono ?_
      rintro e w6 hm6
      obtain ⟨b6, p12, b13, rfl, h12⟩ := hm6.pair
      rcases h12 with ⟨rfl, hne⟩ | ⟨rfl, hF3, lo3, G3, rfl, hlo3, hG3⟩
      · exact absurd (fair_iff.2 (fair_close HF.out.1 _)) hne
      rw [Int.toNat_natCast] at hG3
      have hD1 := fun src => diff_none (fun x hx => ahead_more (src := src) HF.out.1 HF.out.2 (fun e he _ => List.mem_append_left _ he) hx)
      have hD2 := fun src => diff_none (fun x hx => ahead_more (src := src) hF3 HF.out.1 (fun e he ho => close_sub he ho) hx)
      have HD := Lib.hid (And.intro hD1 hD2)
      have HG3 := Lib.hid hG3
      generalize (l.modify (m % l.length) fun x => (x.1, x.2.1, 4611686018427387904)) = L3 at *
      have HB36 := Lib.hid (then_ HT.out.2 b6)
      have HB6 := Lib.hid (then_ HB3.out HB36.out)
      have HN1 := Lib.hid hN1
      clear hD1 hD2 hG3 b6 hm6 hF3 e0 e1 d1 c0 c1 k1 k2
      obtain ⟨f0, f1, _⟩ := HC.out w6 HB6.out
      have hN12 : N ≤ 4096 := by have := HF.out.1.hi; omega
      go_wp2_with fail
      go_loopw [76] (fun i W' => ∃ k : Nat, i = .int .i64 k ∧ k ≤ N ∧ Hid (Below w6.heap.size w6 W')) (fun i _ => N - (RowKit.intOf i).toNat)
      case atStart => exact ⟨0, rfl, by omega, Below.refl _ _⟩
      case round =>
        obtain ⟨k, rfl, hk, hB⟩ := hrel
        clear f0 f1
        by_cases hlt : k < N
        · have hkI : (k : Int) < (N : Int) := by omega
          have HE6 := Lib.hid (fun w' (hb : Below w6.heap.size w6 w') => HA.out.2.of (then_ HB.out (then_ HB6.out hb)))
          have HGa := Lib.hid (fun w' (hb : Below w6.heap.size w6 w') => And.intro (HG.out.below (then_ HB23.out (then_ HB36.out hb))) (then_ HB23.out (then_ HB36.out hb)).size)
          have HGb := Lib.hid (fun w' (hb : Below w6.heap.size w6 w') => And.intro (HG2.out.below (then_ HB36.out hb)) (then_ HB36.out hb).size)
          have HGc := Lib.hid (fun w' (hb : Below w6.heap.size w6 w') => And.intro (HG3.out.below hb) hb.size)
          go_wp2_with fail
          refine (of_any (some ⟨wr.heap.size, 0, none⟩) 1 1 [(k : Int)] _ (ints_new wr [(k : Int)] (by simp)) (by decide)).mono ?_
          rintro e w7 ⟨rfl, b7⟩
          have HB7 := Lib.hid (hB.out.trans ((then_ ((Below.refl wr.heap.size wr).alloc (Nat.le_refl _) (.cells #[.int .i64 (k : Int)] 3)) b7).mono hB.out.size))
          clear b7
          go_wp2_with fail
          refine (reachable_any N l (ofP [(k : Int)]) w7 (HE6.out _ HB7.out) lo w2.heap.size G (HGa.out _ HB7.out).1 (HGa.out _ HB7.out).2).mono ?_
          rintro e w8 ⟨rfl, b8⟩
          have HB8 := Lib.hid (HB7.out.trans (b8.mono HB7.out.size))
          clear b8
          go_wp2_with (first | refine wpList_alloc_set rfl rfl ?_ | refine wpList_store_set _ _ _ _ _ rfl rfl rfl rfl (SetAt.new w8 _) ?_)
          have b9 : Below w8.heap.size w8 ((w8.alloc (.cells (cells fun _ => false) 53)).setRow w8.heap.size (cells (ofP (aheadR N l (ei (ofP [(k : Int)])))))) := below_setRow ((Below.refl _ _).alloc (Nat.le_refl _) _) (Nat.le_refl _) _
          have h15 : SetAt ((w8.alloc (.cells (cells fun _ => false) 53)).setRow w8.heap.size (cells (ofP (aheadR N l (ei (ofP [(k : Int)])))))) w8.heap.size (ofP (aheadR N l (ei (ofP [(k : Int)])))) := (SetAt.new w8 _).row
          generalize (w8.alloc (.cells (cells fun _ => false) 53)).setRow w8.heap.size (cells (ofP (aheadR N l (ei (ofP [(k : Int)]))))) = w9 at *
          have HB9 := Lib.hid (HB8.out.trans (b9.mono HB8.out.size))
          have HS15 := Lib.hid (fun w' (hb : Below w9.heap.size w9 w') => h15.below hb h15.lt)
          have H69 := Lib.hid (fun w' (hb : Below w9.heap.size w9 w') => HB9.out.trans (hb.mono HB9.out.size))
          clear b9 h15
          generalize w8.heap.size = s15 at *
          go_wp2_with fail
          refine wp_region_held_drew (S := fun w' => Below w9.heap.size w9 w') (by kernel_rfl) ((Below.refl _ _).drew) (fun hHeld => ?_)
          refine wpAnyH_take (i := 0) (v := .agg (cells (ofP (aheadR N l (ei (ofP [(k : Int)])))))) rfl (by kernel_rfl) (by kernel_rfl) (by kernel_rfl) (fun _ _ _ h => h) (Or.inl ⟨by rfl, fun w hw => exec_load_mid (g := s15) (off := 0) rfl rfl (run_loadVar_row w s15 53 53 (cells (ofP (aheadR N l (ei (ofP [(k : Int)]))))) (0, 0) _ (HS15.out w hw) Tryd.underlying53 rfl (info_set' _))⟩) (by assumption) ?_
          try simp only [Act.put, List.setIfInBounds_toArray, List.set_cons_zero, List.set_cons_succ, List.getElem_toArray, List.getElem_cons_zero, List.getElem_cons_succ]
          refine wpAnyH_take (i := 1) (v := ?_) rfl (by kernel_rfl) (by kernel_rfl) (by kernel_rfl) (fun _ _ _ h => h) (Or.inl ⟨by rfl, ?_⟩) (by assumption) ?_
          rotate_left
          · (intro w hSw; (try dsimp only at hSw); go_simp; try (with_reducible rfl))
          try simp only [Act.put, List.setIfInBounds_toArray, List.set_cons_zero, List.set_cons_succ, List.getElem_toArray, List.getElem_cons_zero, List.getElem_cons_succ]
          refine wpAnyH_take (i := 2) (v := ?_) rfl (by kernel_rfl) (by kernel_rfl) (by kernel_rfl) (fun _ _ _ h => h) (Or.inl ⟨by rfl, ?_⟩) (by assumption) ?_
          rotate_left
          · (intro w hSw; (try dsimp only at hSw); go_simp; try (with_reducible rfl))
          try simp only [Act.put, List.setIfInBounds_toArray, List.set_cons_zero, List.set_cons_succ, List.getElem_toArray, List.getElem_cons_zero, List.getElem_cons_succ]
          refine wpAnyH_ready (rs := [3]) (by kernel_rfl) (by simp) ?_
          refine AllReadyH.cons rfl (fun K hK => ?_) AllReadyH.nil
          go_simp
          have B := hHeld.alloc hHeld.size (.cells #[.int .i64 (k : Int)] 3)
          refine hK.out _ _ B (fun hHeld => ?_)
          clear hK K
          try simp only [Act.put, List.setIfInBounds_toArray, List.set_cons_zero, List.set_cons_succ, List.getElem_toArray, List.getElem_cons_zero, List.getElem_cons_succ]
          have HRd := Lib.hid (show Rd (w9.alloc (.cells #[.int .i64 (k : Int)] 3)).drew (some ⟨w9.heap.size, 0, none⟩) 1 [(k : Int)] from ints_new w9 [(k : Int)] (by simp))
          generalize (w9.alloc (.cells #[.int .i64 (k : Int)] 3)).drew = wb at *
          refine wpAnyH_ready (rs := [4]) (by kernel_rfl) (by simp) ?_
          refine AllReadyH.cons rfl (fun K hK => ?_) AllReadyH.nil
          go_simp
          go_at_call 26
          refine (of_any (some ⟨w9.heap.size, 0, none⟩) 1 1 [(k : Int)] wb HRd.out (by decide)).mono ?_
          rintro e wc ⟨rfl, b7⟩
          have B := hHeld.trans (b7.mono hHeld.size)
          clear b7 HRd
          refine hK.out _ _ (B) (fun hHeld => ?_)
          clear hK K
          try simp only [Act.put, List.setIfInBounds_toArray, List.set_cons_zero, List.set_cons_succ, List.getElem_toArray, List.getElem_cons_zero, List.getElem_cons_succ]
          refine wpAnyH_ready (rs := [5]) (by kernel_rfl) (by simp) ?_
          refine AllReadyH.cons rfl (fun K hK => ?_) AllReadyH.nil
          go_simp
          go_at_call 25
          refine (reachable_any N (l ++ [(x0, x1, x2)]) (ofP [(k : Int)]) _ (HE6.out _ (H69.out _ hHeld)) lo2 w3.heap.size G2 (HGb.out _ (H69.out _ hHeld)).1 (HGb.out _ (H69.out _ hHeld)).2).mono ?_
          rintro e wd ⟨rfl, b7⟩
          have B := hHeld.trans (b7.mono hHeld.size)
          clear b7
          refine hK.out _ _ (B) (fun hHeld => ?_)
          clear hK K
          try simp only [Act.put, List.setIfInBounds_toArray, List.set_cons_zero, List.set_cons_succ, List.getElem_toArray, List.getElem_cons_zero, List.getElem_cons_succ]
          refine wpAnyH_ready (rs := [6]) (by kernel_rfl) (by simp) ?_
          refine AllReadyH.cons rfl (fun K hK => ?_) AllReadyH.nil
          go_simp
          go_at_call 36
          refine (diff_any (ofP (aheadR N l (ei (ofP [(k : Int)])))) (ofP (aheadR N (l ++ [(x0, x1, x2)]) (ei (ofP [(k : Int)])))) _).mono ?_
          rintro e w7 ⟨rfl, b7⟩
          have B := hHeld.trans (b7.mono hHeld.size)
          clear b7
          refine hK.out _ _ (B) (fun hHeld => ?_)
          clear hK K
          try simp only [Act.put, List.setIfInBounds_toArray, List.set_cons_zero, List.set_cons_succ, List.getElem_toArray, List.getElem_cons_zero, List.getElem_cons_succ]
          refine wpAnyH_ready (rs := [7]) (by kernel_rfl) (by simp) ?_
          refine AllReadyH.cons rfl (fun K hK => ?_) AllReadyH.nil
          go_simp
          go_at_call 32
          refine (len_any _ _).mono ?_
          rintro e w10 ⟨rfl, b7⟩
          rw [HD.out.1]
          have B := hHeld.trans (b7.mono hHeld.size)
          clear b7
          refine hK.out _ _ (B) (fun hHeld => ?_)
          clear hK K
          try simp only [Act.put, List.setIfInBounds_toArray, List.set_cons_zero, List.set_cons_succ, List.getElem_toArray, List.getElem_cons_zero, List.getElem_cons_succ]
          refine wpAnyH_take (i := 8) (v := ?_) rfl (by kernel_rfl) (by kernel_rfl) (by kernel_rfl) (fun _ _ _ h => h) (Or.inl ⟨by rfl, ?_⟩) (by assumption) ?_
          rotate_left
          · (intro w hSw; (try dsimp only at hSw); go_simp; try (with_reducible rfl))
          try simp only [Act.put, List.setIfInBounds_toArray, List.set_cons_zero, List.set_cons_succ, List.getElem_toArray, List.getElem_cons_zero, List.getElem_cons_succ]
          refine wpAnyH_take (i := 9) (v := ?_) rfl (by kernel_rfl) (by kernel_rfl) (by kernel_rfl) (fun _ _ _ h => h) (Or.inl ⟨by rfl, ?_⟩) (by assumption) ?_
          rotate_left
          · (intro w hSw; (try dsimp only at hSw); go_simp; try (with_reducible rfl))
          try simp only [Act.put, List.setIfInBounds_toArray, List.set_cons_zero, List.set_cons_succ, List.getElem_toArray, List.getElem_cons_zero, List.getElem_cons_succ]
          refine wpAnyH_take (i := 10) (v := ?_) rfl (by kernel_rfl) (by kernel_rfl) (by kernel_rfl) (fun _ _ _ h => h) (Or.inl ⟨by rfl, ?_⟩) (by assumption) ?_
          rotate_left
          · (intro w hSw; (try dsimp only at hSw); go_simp; try (with_reducible rfl))
          try simp only [Act.put, List.setIfInBounds_toArray, List.set_cons_zero, List.set_cons_succ, List.getElem_toArray, List.getElem_cons_zero, List.getElem_cons_succ]
          refine wpAnyH_take (i := 11) (v := ?_) rfl (by kernel_rfl) (by kernel_rfl) (by kernel_rfl) (fun _ _ _ h => h) (Or.inl ⟨by rfl, ?_⟩) (by assumption) ?_
          rotate_left
          · (intro w hSw; (try dsimp only at hSw); go_simp; try (with_reducible rfl))
          try simp only [Act.put, List.setIfInBounds_toArray, List.set_cons_zero, List.set_cons_succ, List.getElem_toArray, List.getElem_cons_zero, List.getElem_cons_succ]
          refine wpAnyH_take (i := 15) (v := .agg (cells (ofP (aheadR N l (ei (ofP [(k : Int)])))))) rfl (by kernel_rfl) (by kernel_rfl) (by kernel_rfl) (fun _ _ _ h => h) (Or.inl ⟨by rfl, fun w hw => exec_load_mid (g := s15) (off := 0) rfl rfl (run_loadVar_row w s15 53 53 (cells (ofP (aheadR N l (ei (ofP [(k : Int)]))))) (0, 0) _ (HS15.out w hw) Tryd.underlying53 rfl (info_set' _))⟩) (by assumption) ?_
          try simp only [Act.put, List.setIfInBounds_toArray, List.set_cons_zero, List.set_cons_succ, List.getElem_toArray, List.getElem_cons_zero, List.getElem_cons_succ]
          refine wpAnyH_ready (rs := [12]) (by kernel_rfl) (by simp) ?_
          refine AllReadyH.cons rfl (fun K hK => ?_) AllReadyH.nil
          go_simp
          have B := hHeld.alloc hHeld.size (.cells #[.int .i64 (k : Int)] 3)
          refine hK.out _ _ B (fun hHeld => ?_)
          clear hK K
          try simp only [Act.put, List.setIfInBounds_toArray, List.set_cons_zero, List.set_cons_succ, List.getElem_toArray, List.getElem_cons_zero, List.getElem_cons_succ]
          have HRd := Lib.hid (show Rd (w10.alloc (.cells #[.int .i64 (k : Int)] 3)) (some ⟨w10.heap.size, 0, none⟩) 1 [(k : Int)] from ints_new w10 [(k : Int)] (by simp))
          generalize (w10.alloc (.cells #[.int .i64 (k : Int)] 3)) = wb at *
          refine wpAnyH_ready (rs := [13]) (by kernel_rfl) (by simp) ?_
          refine AllReadyH.cons rfl (fun K hK => ?_) AllReadyH.nil
          go_simp
          go_at_call 26
          refine (of_any (some ⟨w10.heap.size, 0, none⟩) 1 1 [(k : Int)] wb HRd.out (by decide)).mono ?_
          rintro e wc ⟨rfl, b7⟩
          have B := hHeld.trans (b7.mono hHeld.size)
          clear b7 HRd
          refine hK.out _ _ (B) (fun hHeld => ?_)
          clear hK K
          try simp only [Act.put, List.setIfInBounds_toArray, List.set_cons_zero, List.set_cons_succ, List.getElem_toArray, List.getElem_cons_zero, List.getElem_cons_succ]
          refine wpAnyH_ready (rs := [14]) (by kernel_rfl) (by simp) ?_
          refine AllReadyH.cons rfl (fun K hK => ?_) AllReadyH.nil
          go_simp
          go_at_call 25
          refine (reachable_any N (L3) (ofP [(k : Int)]) _ (HE6.out _ (H69.out _ hHeld)) lo3 w6.heap.size G3 (HGc.out _ (H69.out _ hHeld)).1 (HGc.out _ (H69.out _ hHeld)).2).mono ?_
          rintro e wd ⟨rfl, b7⟩
          have B := hHeld.trans (b7.mono hHeld.size)
          clear b7
          refine hK.out _ _ (B) (fun hHeld => ?_)
          clear hK K
          try simp only [Act.put, List.setIfInBounds_toArray, List.set_cons_zero, List.set_cons_succ, List.getElem_toArray, List.getElem_cons_zero, List.getElem_cons_succ]
          refine wpAnyH_ready (rs := [16]) (by kernel_rfl) (by simp) ?_
          refine AllReadyH.cons rfl (fun K hK => ?_) AllReadyH.nil
          go_simp
          go_at_call 36
          refine (diff_any (ofP (aheadR N L3 (ei (ofP [(k : Int)])))) (ofP (aheadR N l (ei (ofP [(k : Int)])))) _).mono ?_
          rintro e w7 ⟨rfl, b7⟩
          have B := hHeld.trans (b7.mono hHeld.size)
          clear b7
          refine hK.out _ _ (B) (fun hHeld => ?_)
          clear hK K
          try simp only [Act.put, List.setIfInBounds_toArray, List.set_cons_zero, List.set_cons_succ, List.getElem_toArray, List.getElem_cons_zero, List.getElem_cons_succ]
          refine wpAnyH_ready (rs := [17]) (by kernel_rfl) (by simp) ?_
          refine AllReadyH.cons rfl (fun K hK => ?_) AllReadyH.nil
          go_simp
          go_at_call 32
          refine (len_any _ _).mono ?_
          rintro e w10 ⟨rfl, b7⟩
          rw [HD.out.2]
          have B := hHeld.trans (b7.mono hHeld.size)
          clear b7
          refine hK.out _ _ (B) (fun hHeld => ?_)
          clear hK K
          try simp only [Act.put, List.setIfInBounds_toArray, List.set_cons_zero, List.set_cons_succ, List.getElem_toArray, List.getElem_cons_zero, List.getElem_cons_succ]
          refine wpAnyH_take (i := 18) (v := ?_) rfl (by kernel_rfl) (by kernel_rfl) (by kernel_rfl) (fun _ _ _ h => h) (Or.inl ⟨by rfl, ?_⟩) (by assumption) ?_
          rotate_left
          · (intro w hSw; (try dsimp only at hSw); go_simp; try (with_reducible rfl))
          try simp only [Act.put, List.setIfInBounds_toArray, List.set_cons_zero, List.set_cons_succ, List.getElem_toArray, List.getElem_cons_zero, List.getElem_cons_succ]
          refine wpAnyH_take (i := 19) (v := ?_) rfl (by kernel_rfl) (by kernel_rfl) (by kernel_rfl) (fun _ _ _ h => h) (Or.inl ⟨by rfl, ?_⟩) (by assumption) ?_
          rotate_left
          · (intro w hSw; (try dsimp only at hSw); go_simp; try (with_reducible rfl))
          try simp only [Act.put, List.setIfInBounds_toArray, List.set_cons_zero, List.set_cons_succ, List.getElem_toArray, List.getElem_cons_zero, List.getElem_cons_succ]
          refine wpAnyH_done (by kernel_rfl) ?_ _
          try simp only [Act.put, List.setIfInBounds_toArray, List.set_cons_zero, List.set_cons_succ, List.getElem_toArray, List.getElem_cons_zero, List.getElem_cons_succ]
          have HBz := Lib.hid (H69.out _ hHeld)
          clear hHeld
          go_wp2_with fail
          go_roundw
          case rel => exact ⟨k + 1, by go_num, by omega, HBz.out⟩
          case measure => simp [RowKit.intOf]; omega
        · go_wp2_with fail
          go_ret
          exact ⟨rfl, then_ HB.out (then_ HB6.out hB.out)⟩
  · go_simp
    have HX := Lib.hid (re_new (w2.drew) (x0, x1, x2))
    have B := hHeld.1.alloc hHeld.1.size (.cells #[.int .i64 x0, .int .i64 x1, .int .i64 x2] 35)
    refine hK.out _ _ (HS2.out _ B) (fun hHeld => ?_)
    clear hK K
    try simp only [Act.put, List.setIfInBounds_toArray, List.set_cons_zero, List.set_cons_succ, List.getElem_toArray, List.getElem_cons_zero, List.getElem_cons_succ]
    refine wpAnyH_ready (rs := [2]) (by kernel_rfl) (by simp) ?_
    refine AllReadyH.cons rfl (fun K hK => ?_) AllReadyH.nil
    go_simp
    have hO0 := OwnE.empty (w2.alloc (.cells #[.int .i64 x0, .int .i64 x1, .int .i64 x2] 35)) (base := w2.heap.size) (by simp)
    rw [show (w2.alloc (.cells #[.int .i64 x0, .int .i64 x1, .int .i64 x2] 35)).heap.size = w2.heap.size + 1 by simp] at hO0
    have HO := Lib.hid (show OwnE ((w2.alloc (.cells #[.int .i64 x0, .int .i64 x1, .int .i64 x2] 35)).alloc (.cells #[] 35)).drew w2.heap.size (.slice (some ⟨w2.heap.size + 1, 0, none⟩) 0 0) [] from hO0)
    clear hO0
    have B := hHeld.1.alloc hHeld.1.size (.cells #[] 35)
    refine hK.out _ _ (HS2.out _ B) (fun hHeld => ?_)
    clear hK K
    try simp only [Act.put, List.setIfInBounds_toArray, List.set_cons_zero, List.set_cons_succ, List.getElem_toArray, List.getElem_cons_zero, List.getElem_cons_succ]
    refine wpAnyH_ready (rs := [5]) (by kernel_rfl) (by simp) ?_
    refine AllReadyH.cons rfl (fun K hK => ?_) AllReadyH.nil
    refine step_append_E _ _ w2.heap.size _ [] ad cap l rfl rfl rfl rfl HO.out (HR.out _ hHeld.1) (by simp; omega) hHeld.1.size ?_
    intro v38 wB hO38 hg38
    rw [List.nil_append] at hO38
    obtain ⟨A38, c38, rfl⟩ := hO38.slice
    have HO38 := Lib.hid hO38
    have B := hHeld.1.grown hg38 hHeld.1.size (fun g hg => own_ge HO.out hg)
    have hX7 := keepH (heap_alloc_new w2 (.cells #[.int .i64 x0, .int .i64 x1, .int .i64 x2] 35)) ((Below.refl _ _).alloc (Nat.le_refl _) (.cells #[] 35))
    have HX8 := Lib.hid (re_at (x := (x0, x1, x2)) ((hg38.block w2.heap.size (by simp; omega) (fun e => by injection e with e; dsimp only at e; omega)).trans hX7))
    clear hX7
    refine hK.out _ _ (HS2.out _ B) (fun hHeld => ?_)
    clear hK K
    try simp only [Act.put, List.setIfInBounds_toArray, List.set_cons_zero, List.set_cons_succ, List.getElem_toArray, List.getElem_cons_zero, List.getElem_cons_succ]
    refine wpAnyH_ready (rs := [8]) (by kernel_rfl) (by simp) ?_
    refine AllReadyH.cons rfl (fun K hK => ?_) AllReadyH.nil
    refine step_append_E _ _ w2.heap.size _ l ⟨w2.heap.size, 0, none⟩ 1 [(x0, x1, x2)] rfl rfl rfl rfl HO38.out HX8.out (by simp; omega) hHeld.1.size ?_
    intro v41 wD hO41 hg41
    have B := hHeld.1.grown hg41 hHeld.1.size (fun g hg => own_ge (HO38.out) hg)
    have hl1' : (l ++ [(x0, x1, x2)]).length = l.length + 1 := by simp
    obtain ⟨A41, c41, rfl⟩ := hO41.slice
    have hNet := OwnE.net hO41 HXI.out.1 (fun e he => by
      rcases List.mem_append.1 he with he | he
      · exact HXI.out.2.1 e he
      · rw [List.mem_singleton.1 he]; exact HXI.out.2.2)
    rw [hl1'] at hNet
    rw [hl1']
    have HNet := Lib.hid hNet
    clear hNet hO41 hg41 hl1'
    refine hK.out _ _ (HS2.out _ B) (fun hHeld => ?_)
    clear hK K
    try simp only [Act.put, List.setIfInBounds_toArray, List.set_cons_zero, List.set_cons_succ, List.getElem_toArray, List.getElem_cons_zero, List.getElem_cons_succ]
    refine wpAnyH_take (i := 9) (v := ?_) rfl (by kernel_rfl) (by kernel_rfl) (by kernel_rfl) (fun _ _ _ h => h) (Or.inl ⟨by rfl, ?_⟩) (by assumption) ?_
    rotate_left
    · (intro w hSw; (try dsimp only at hSw); go_simp; try (with_reducible rfl))
    try simp only [Act.put, List.setIfInBounds_toArray, List.set_cons_zero, List.set_cons_succ, List.getElem_toArray, List.getElem_cons_zero, List.getElem_cons_succ]
    refine wpAnyH_ready (rs := [10]) (by kernel_rfl) (by simp) ?_
    refine AllReadyH.cons rfl (fun K hK => ?_) AllReadyH.nil
    go_simp
    go_at_call 17
    refine (made_any _ N (l ++ [(x0, x1, x2)]) _ HNet.out).mono ?_
    rintro e w3 hm3
    obtain ⟨b3, p9, b10, rfl, h910⟩ := hm3.pair
    have H910 := Lib.hid h910
    have B := hHeld.1.trans (b3.mono hHeld.1.size)
    clear hm3 h910 b3
    refine hK.out _ _ (HS2.out _ B) (fun hHeld => ?_)
    clear hK K
    try simp only [Act.put, List.setIfInBounds_toArray, List.set_cons_zero, List.set_cons_succ, List.getElem_toArray, List.getElem_cons_zero, List.getElem_cons_succ]
    refine wpAnyH_take (i := 11) (v := ?_) rfl (by kernel_rfl) (by kernel_rfl) (by kernel_rfl) (fun _ _ _ h => h) (Or.inl ⟨by rfl, ?_⟩) (by assumption) ?_
    rotate_left
    · (intro w hSw; (try dsimp only at hSw); go_simp; try (with_reducible rfl))
    try simp only [Act.put, List.setIfInBounds_toArray, List.set_cons_zero, List.set_cons_succ, List.getElem_toArray, List.getElem_cons_zero, List.getElem_cons_succ]
    refine wpAnyH_take (i := 12) (v := ?_) rfl (by kernel_rfl) (by kernel_rfl) (by kernel_rfl) (fun _ _ _ h => h) (Or.inl ⟨by rfl, ?_⟩) (by assumption) ?_
    rotate_left
    · (intro w hSw; (try dsimp only at hSw); go_simp; try (with_reducible rfl))
    try simp only [Act.put, List.setIfInBounds_toArray, List.set_cons_zero, List.set_cons_succ, List.getElem_toArray, List.getElem_cons_zero, List.getElem_cons_succ]
    refine wpAnyH_take (i := 13) (v := ?_) rfl (by kernel_rfl) (by kernel_rfl) (by kernel_rfl) (fun _ _ _ h => h) (Or.inl ⟨by rfl, ?_⟩) (by assumption) ?_
    rotate_left
    · (intro w hSw; (try dsimp only at hSw); go_simp; try (with_reducible rfl))
    try simp only [Act.put, List.setIfInBounds_toArray, List.set_cons_zero, List.set_cons_succ, List.getElem_toArray, List.getElem_cons_zero, List.getElem_cons_succ]
    refine wpAnyH_take (i := 14) (v := ?_) rfl (by kernel_rfl) (by kernel_rfl) (by kernel_rfl) (fun _ _ _ h => h) (Or.inl ⟨by rfl, ?_⟩) (by assumption) ?_
    rotate_left
    · (intro w hSw; (try dsimp only at hSw); go_simp; try (with_reducible rfl))
    try simp only [Act.put, List.setIfInBounds_toArray, List.set_cons_zero, List.set_cons_succ, List.getElem_toArray, List.getElem_cons_zero, List.getElem_cons_succ]
    refine wpAnyH_take (i := 15) (v := ?_) rfl (by kernel_rfl) (by kernel_rfl) (by kernel_rfl) (fun _ _ _ h => h) (Or.inl ⟨by rfl, ?_⟩) (by assumption) ?_
    rotate_left
    · (intro w hSw; (try dsimp only at hSw); go_simp; try (with_reducible rfl))
    try simp only [Act.put, List.setIfInBounds_toArray, List.set_cons_zero, List.set_cons_succ, List.getElem_toArray, List.getElem_cons_zero, List.getElem_cons_succ]
    refine wpAnyH_done (by kernel_rfl) ?_ _
    try simp only [Act.put, List.setIfInBounds_toArray, List.set_cons_zero, List.set_cons_succ, List.getElem_toArray, List.getElem_cons_zero, List.getElem_cons_succ]
    have HB3 := Lib.hid (then_ HB2.out hHeld.1)
    have HB23 := Lib.hid hHeld.1
    clear hHeld B
    obtain ⟨c0, c1, _⟩ := HC.out w3 HB3.out
    rcases H78.out with ⟨rfl, _⟩ | ⟨rfl, hF, lo, G, rfl, hlo, hG⟩
    · go_wp2_with fail
      go_ret
      exact ⟨rfl, then_ HB.out HB3.out⟩
    rcases H910.out with ⟨rfl, _⟩ | ⟨rfl, hF2, lo2, G2, rfl, hlo2, hG2⟩
    · go_wp2_with fail
      go_ret
      exact ⟨rfl, then_ HB.out HB3.out⟩
    have hN1 := hF.lo
    obtain ⟨N, rfl⟩ : ∃ k : Nat, N = (k : Int) := ⟨N.toNat, by omega⟩
    rw [Int.toNat_natCast] at hG hG2
    have HF := Lib.hid (And.intro hF hF2)
    have HG := Lib.hid hG
    have HG2 := Lib.hid hG2
    have HR3 := Lib.hid ((HA.out.1.below (then_ HB.out HB3.out)).below ((Below.refl w3.heap.size w3).alloc (Nat.le_refl _) (.cells #[] 35)))
    clear hF hF2 hG hG2 H78 H910
    obtain ⟨_, d1, _⟩ := HC.out (w3.alloc (.cells #[] 35)) (HB3.out.alloc HB3.out.size _)
    go_wp2_with (at_builtin; go_loud (refine wpList_append_E _ _ w3.heap.size _ [] ad cap l rfl rfl rfl rfl (OwnE.empty w3 (Nat.le_refl _)) HR3.out (by simp; omega) (by simp) ?_; intro v11 w4 hO4 hg4; rw [List.nil_append] at hO4; obtain ⟨g4, c4, rfl, hg4b, hg4l⟩ := World.ownsRow.form hO4 hl1; have HO4 := Lib.hid (And.intro hO4 (And.intro hg4 hg4b)); have hj : m % l.length < l.length := Nat.mod_lt _ hl1; obtain ⟨k1, k2⟩ := row_cell3 hO4 (j := m % l.length * 3 + 2) (ecs_at l (m % l.length) 2 _ (ed_at hj) (by omega)); have b4 := ((Below.refl w3.heap.size w3).alloc (Nat.le_refl _) (.cells #[] 35)).grown hg4 (by simp) (fun g hg => own_ge (OwnE.empty w3 (Nat.le_refl _)) hg); have ht := OwnE.time hO4 hj 4611686018427387904; have b5 := b4.grown ht.2 b4.size (fun g hg => by injection hg with hg; omega); obtain ⟨e0, e1, _⟩ := HC.out _ (then_ HB3.out b5); have HT := Lib.hid (And.intro ht.1 b5); clear hO4 hg4 hg4b hg4l b4 b5 ht))
    have hNet := OwnE.net2 (l := l.modify (m % l.length) fun x => (x.1, x.2.1, 4611686018427387904)) HT.out.1 (by rw [List.length_modify]) HXI.out.1 (fun e he => by
      obtain ⟨y, hy, h | h⟩ := mem_modify he
      · rw [h]; exact HXI.out.2.1 y hy
      · rw [h]
        have h3 := HXI.out.2.1 y hy
        exact ⟨h3.1, h3.2.1, by show -9223372036854775808 ≤ (4611686018427387904 : Int) ∧ (4611686018427387904 : Int) ≤ 9223372036854775807; decide⟩)
    have HNet := Lib.hid hNet
    clear hNet
    refine (made_any _ N (l.modify (m % l.length) fun x => (x.1, x.2.1, 4611686018427387904)) _ HNet.out).mono ?_
    rintro e w6 hm6
    obtain ⟨b6, p12, b13, rfl, h12⟩ := hm6.pair
    rcases h12 with ⟨rfl, hne⟩ | ⟨rfl, hF3, lo3, G3, rfl, hlo3, hG3⟩
    · exact absurd (fair_iff.2 (fair_close HF.out.1 _)) hne
    rw [Int.toNat_natCast] at hG3
    have hD1 := fun src => diff_none (fun x hx => ahead_more (src := src) HF.out.1 HF.out.2 (fun e he _ => List.mem_append_left _ he) hx)
    have hD2 := fun src => diff_none (fun x hx => ahead_more (src := src) hF3 HF.out.1 (fun e he ho => close_sub he ho) hx)
    have HD := Lib.hid (And.intro hD1 hD2)
    have HG3 := Lib.hid hG3
    generalize (l.modify (m % l.length) fun x => (x.1, x.2.1, 4611686018427387904)) = L3 at *
    have HB36 := Lib.hid (then_ HT.out.2 b6)
    have HB6 := Lib.hid (then_ HB3.out HB36.out)
    have HN1 := Lib.hid hN1
    clear hD1 hD2 hG3 b6 hm6 hF3 e0 e1 d1 c0 c1 k1 k2
    obtain ⟨f0, f1, _⟩ := HC.out w6 HB6.out
    have hN12 : N ≤ 4096 := by have := HF.out.1.hi; omega
    go_wp2_with fail
    go_loopw [76] (fun i W' => ∃ k : Nat, i = .int .i64 k ∧ k ≤ N ∧ Hid (Below w6.heap.size w6 W')) (fun i _ => N - (RowKit.intOf i).toNat)
    case atStart => exact ⟨0, rfl, by omega, Below.refl _ _⟩
    case round =>
      obtain ⟨k, rfl, hk, hB⟩ := hrel
      clear f0 f1
      by_cases hlt : k < N
      · have hkI : (k : Int) < (N : Int) := by omega
        have HE6 := Lib.hid (fun w' (hb : Below w6.heap.size w6 w') => HA.out.2.of (then_ HB.out (then_ HB6.out hb)))
        have HGa := Lib.hid (fun w' (hb : Below w6.heap.size w6 w') => And.intro (HG.out.below (then_ HB23.out (then_ HB36.out hb))) (then_ HB23.out (then_ HB36.out hb)).size)
        have HGb := Lib.hid (fun w' (hb : Below w6.heap.size w6 w') => And.intro (HG2.out.below (then_ HB36.out hb)) (then_ HB36.out hb).size)
        have HGc := Lib.hid (fun w' (hb : Below w6.heap.size w6 w') => And.intro (HG3.out.below hb) hb.size)
        go_wp2_with fail
        refine (of_any (some ⟨wr.heap.size, 0, none⟩) 1 1 [(k : Int)] _ (ints_new wr [(k : Int)] (by simp)) (by decide)).mono ?_
        rintro e w7 ⟨rfl, b7⟩
        have HB7 := Lib.hid (hB.out.trans ((then_ ((Below.refl wr.heap.size wr).alloc (Nat.le_refl _) (.cells #[.int .i64 (k : Int)] 3)) b7).mono hB.out.size))
        clear b7
        go_wp2_with fail
        refine (reachable_any N l (ofP [(k : Int)]) w7 (HE6.out _ HB7.out) lo w2.heap.size G (HGa.out _ HB7.out).1 (HGa.out _ HB7.out).2).mono ?_
        rintro e w8 ⟨rfl, b8⟩
        have HB8 := Lib.hid (HB7.out.trans (b8.mono HB7.out.size))
        clear b8
        go_wp2_with (first | refine wpList_alloc_set rfl rfl ?_ | refine wpList_store_set _ _ _ _ _ rfl rfl rfl rfl (SetAt.new w8 _) ?_)
        have b9 : Below w8.heap.size w8 ((w8.alloc (.cells (cells fun _ => false) 53)).setRow w8.heap.size (cells (ofP (aheadR N l (ei (ofP [(k : Int)])))))) := below_setRow ((Below.refl _ _).alloc (Nat.le_refl _) _) (Nat.le_refl _) _
        have h15 : SetAt ((w8.alloc (.cells (cells fun _ => false) 53)).setRow w8.heap.size (cells (ofP (aheadR N l (ei (ofP [(k : Int)])))))) w8.heap.size (ofP (aheadR N l (ei (ofP [(k : Int)])))) := (SetAt.new w8 _).row
        generalize (w8.alloc (.cells (cells fun _ => false) 53)).setRow w8.heap.size (cells (ofP (aheadR N l (ei (ofP [(k : Int)]))))) = w9 at *
        have HB9 := Lib.hid (HB8.out.trans (b9.mono HB8.out.size))
        have HS15 := Lib.hid (fun w' (hb : Below w9.heap.size w9 w') => h15.below hb h15.lt)
        have H69 := Lib.hid (fun w' (hb : Below w9.heap.size w9 w') => HB9.out.trans (hb.mono HB9.out.size))
        clear b9 h15
        generalize w8.heap.size = s15 at *
        go_wp2_with fail
        refine wp_region_held_drew (S := fun w' => Below w9.heap.size w9 w') (by kernel_rfl) ((Below.refl _ _).drew) (fun hHeld => ?_)
        refine wpAnyH_take (i := 0) (v := .agg (cells (ofP (aheadR N l (ei (ofP [(k : Int)])))))) rfl (by kernel_rfl) (by kernel_rfl) (by kernel_rfl) (fun _ _ _ h => h) (Or.inl ⟨by rfl, fun w hw => exec_load_mid (g := s15) (off := 0) rfl rfl (run_loadVar_row w s15 53 53 (cells (ofP (aheadR N l (ei (ofP [(k : Int)]))))) (0, 0) _ (HS15.out w hw) Tryd.underlying53 rfl (info_set' _))⟩) (by assumption) ?_
        try simp only [Act.put, List.setIfInBounds_toArray, List.set_cons_zero, List.set_cons_succ, List.getElem_toArray, List.getElem_cons_zero, List.getElem_cons_succ]
        refine wpAnyH_take (i := 1) (v := ?_) rfl (by kernel_rfl) (by kernel_rfl) (by kernel_rfl) (fun _ _ _ h => h) (Or.inl ⟨by rfl, ?_⟩) (by assumption) ?_
        rotate_left
        · (intro w hSw; (try dsimp only at hSw); go_simp; try (with_reducible rfl))
        try simp only [Act.put, List.setIfInBounds_toArray, List.set_cons_zero, List.set_cons_succ, List.getElem_toArray, List.getElem_cons_zero, List.getElem_cons_succ]
        refine wpAnyH_take (i := 2) (v := ?_) rfl (by kernel_rfl) (by kernel_rfl) (by kernel_rfl) (fun _ _ _ h => h) (Or.inl ⟨by rfl, ?_⟩) (by assumption) ?_
        rotate_left
        · (intro w hSw; (try dsimp only at hSw); go_simp; try (with_reducible rfl))
        try simp only [Act.put, List.setIfInBounds_toArray, List.set_cons_zero, List.set_cons_succ, List.getElem_toArray, List.getElem_cons_zero, List.getElem_cons_succ]
        refine wpAnyH_ready (rs := [3]) (by kernel_rfl) (by simp) ?_
        refine AllReadyH.cons rfl (fun K hK => ?_) AllReadyH.nil
        go_simp
        have B := hHeld.alloc hHeld.size (.cells #[.int .i64 (k : Int)] 3)
        refine hK.out _ _ B (fun hHeld => ?_)
        clear hK K
        try simp only [Act.put, List.setIfInBounds_toArray, List.set_cons_zero, List.set_cons_succ, List.getElem_toArray, List.getElem_cons_zero, List.getElem_cons_succ]
        have HRd := Lib.hid (show Rd (w9.alloc (.cells #[.int .i64 (k : Int)] 3)).drew (some ⟨w9.heap.size, 0, none⟩) 1 [(k : Int)] from ints_new w9 [(k : Int)] (by simp))
        generalize (w9.alloc (.cells #[.int .i64 (k : Int)] 3)).drew = wb at *
        refine wpAnyH_ready (rs := [4]) (by kernel_rfl) (by simp) ?_
        refine AllReadyH.cons rfl (fun K hK => ?_) AllReadyH.nil
        go_simp
        go_at_call 26
        refine (of_any (some ⟨w9.heap.size, 0, none⟩) 1 1 [(k : Int)] wb HRd.out (by decide)).mono ?_
        rintro e wc ⟨rfl, b7⟩
        have B := hHeld.trans (b7.mono hHeld.size)
        clear b7 HRd
        refine hK.out _ _ (B) (fun hHeld => ?_)
        clear hK K
        try simp only [Act.put, List.setIfInBounds_toArray, List.set_cons_zero, List.set_cons_succ, List.getElem_toArray, List.getElem_cons_zero, List.getElem_cons_succ]
        refine wpAnyH_ready (rs := [5]) (by kernel_rfl) (by simp) ?_
        refine AllReadyH.cons rfl (fun K hK => ?_) AllReadyH.nil
        go_simp
        go_at_call 25
        refine (reachable_any N (l ++ [(x0, x1, x2)]) (ofP [(k : Int)]) _ (HE6.out _ (H69.out _ hHeld)) lo2 w3.heap.size G2 (HGb.out _ (H69.out _ hHeld)).1 (HGb.out _ (H69.out _ hHeld)).2).mono ?_
        rintro e wd ⟨rfl, b7⟩
        have B := hHeld.trans (b7.mono hHeld.size)
        clear b7
        refine hK.out _ _ (B) (fun hHeld => ?_)
        clear hK K
        try simp only [Act.put, List.setIfInBounds_toArray, List.set_cons_zero, List.set_cons_succ, List.getElem_toArray, List.getElem_cons_zero, List.getElem_cons_succ]
        refine wpAnyH_ready (rs := [6]) (by kernel_rfl) (by simp) ?_
        refine AllReadyH.cons rfl (fun K hK => ?_) AllReadyH.nil
        go_simp
        go_at_call 36
        refine (diff_any (ofP (aheadR N l (ei (ofP [(k : Int)])))) (ofP (aheadR N (l ++ [(x0, x1, x2)]) (ei (ofP [(k : Int)])))) _).mono ?_
        rintro e w7 ⟨rfl, b7⟩
        have B := hHeld.trans (b7.mono hHeld.size)
        clear b7
        refine hK.out _ _ (B) (fun hHeld => ?_)
        clear hK K
        try simp only [Act.put, List.setIfInBounds_toArray, List.set_cons_zero, List.set_cons_succ, List.getElem_toArray, List.getElem_cons_zero, List.getElem_cons_succ]
        refine wpAnyH_ready (rs := [7]) (by kernel_rfl) (by simp) ?_
        refine AllReadyH.cons rfl (fun K hK => ?_) AllReadyH.nil
        go_simp
        go_at_call 32
        refine (len_any _ _).mono ?_
        rintro e w10 ⟨rfl, b7⟩
        rw [HD.out.1]
        have B := hHeld.trans (b7.mono hHeld.size)
        clear b7
        refine hK.out _ _ (B) (fun hHeld => ?_)
        clear hK K
        try simp only [Act.put, List.setIfInBounds_toArray, List.set_cons_zero, List.set_cons_succ, List.getElem_toArray, List.getElem_cons_zero, List.getElem_cons_succ]
        refine wpAnyH_take (i := 8) (v := ?_) rfl (by kernel_rfl) (by kernel_rfl) (by kernel_rfl) (fun _ _ _ h => h) (Or.inl ⟨by rfl, ?_⟩) (by assumption) ?_
        rotate_left
        · (intro w hSw; (try dsimp only at hSw); go_simp; try (with_reducible rfl))
        try simp only [Act.put, List.setIfInBounds_toArray, List.set_cons_zero, List.set_cons_succ, List.getElem_toArray, List.getElem_cons_zero, List.getElem_cons_succ]
        refine wpAnyH_take (i := 9) (v := ?_) rfl (by kernel_rfl) (by kernel_rfl) (by kernel_rfl) (fun _ _ _ h => h) (Or.inl ⟨by rfl, ?_⟩) (by assumption) ?_
        rotate_left
        · (intro w hSw; (try dsimp only at hSw); go_simp; try (with_reducible rfl))
        try simp only [Act.put, List.setIfInBounds_toArray, List.set_cons_zero, List.set_cons_succ, List.getElem_toArray, List.getElem_cons_zero, List.getElem_cons_succ]
        refine wpAnyH_take (i := 10) (v := ?_) rfl (by kernel_rfl) (by kernel_rfl) (by kernel_rfl) (fun _ _ _ h => h) (Or.inl ⟨by rfl, ?_⟩) (by assumption) ?_
        rotate_left
        · (intro w hSw; (try dsimp only at hSw); go_simp; try (with_reducible rfl))
        try simp only [Act.put, List.setIfInBounds_toArray, List.set_cons_zero, List.set_cons_succ, List.getElem_toArray, List.getElem_cons_zero, List.getElem_cons_succ]
        refine wpAnyH_take (i := 11) (v := ?_) rfl (by kernel_rfl) (by kernel_rfl) (by kernel_rfl) (fun _ _ _ h => h) (Or.inl ⟨by rfl, ?_⟩) (by assumption) ?_
        rotate_left
        · (intro w hSw; (try dsimp only at hSw); go_simp; try (with_reducible rfl))
        try simp only [Act.put, List.setIfInBounds_toArray, List.set_cons_zero, List.set_cons_succ, List.getElem_toArray, List.getElem_cons_zero, List.getElem_cons_succ]
        refine wpAnyH_take (i := 15) (v := .agg (cells (ofP (aheadR N l (ei (ofP [(k : Int)])))))) rfl (by kernel_rfl) (by kernel_rfl) (by kernel_rfl) (fun _ _ _ h => h) (Or.inl ⟨by rfl, fun w hw => exec_load_mid (g := s15) (off := 0) rfl rfl (run_loadVar_row w s15 53 53 (cells (ofP (aheadR N l (ei (ofP [(k : Int)]))))) (0, 0) _ (HS15.out w hw) Tryd.underlying53 rfl (info_set' _))⟩) (by assumption) ?_
        try simp only [Act.put, List.setIfInBounds_toArray, List.set_cons_zero, List.set_cons_succ, List.getElem_toArray, List.getElem_cons_zero, List.getElem_cons_succ]
        refine wpAnyH_ready (rs := [12]) (by kernel_rfl) (by simp) ?_
        refine AllReadyH.cons rfl (fun K hK => ?_) AllReadyH.nil
        go_simp
        have B := hHeld.alloc hHeld.size (.cells #[.int .i64 (k : Int)] 3)
        refine hK.out _ _ B (fun hHeld => ?_)
        clear hK K
        try simp only [Act.put, List.setIfInBounds_toArray, List.set_cons_zero, List.set_cons_succ, List.getElem_toArray, List.getElem_cons_zero, List.getElem_cons_succ]
        have HRd := Lib.hid (show Rd (w10.alloc (.cells #[.int .i64 (k : Int)] 3)) (some ⟨w10.heap.size, 0, none⟩) 1 [(k : Int)] from ints_new w10 [(k : Int)] (by simp))
        generalize (w10.alloc (.cells #[.int .i64 (k : Int)] 3)) = wb at *
        refine wpAnyH_ready (rs := [13]) (by kernel_rfl) (by simp) ?_
        refine AllReadyH.cons rfl (fun K hK => ?_) AllReadyH.nil
        go_simp
        go_at_call 26
        refine (of_any (some ⟨w10.heap.size, 0, none⟩) 1 1 [(k : Int)] wb HRd.out (by decide)).mono ?_
        rintro e wc ⟨rfl, b7⟩
        have B := hHeld.trans (b7.mono hHeld.size)
        clear b7 HRd
        refine hK.out _ _ (B) (fun hHeld => ?_)
        clear hK K
        try simp only [Act.put, List.setIfInBounds_toArray, List.set_cons_zero, List.set_cons_succ, List.getElem_toArray, List.getElem_cons_zero, List.getElem_cons_succ]
        refine wpAnyH_ready (rs := [14]) (by kernel_rfl) (by simp) ?_
        refine AllReadyH.cons rfl (fun K hK => ?_) AllReadyH.nil
        go_simp
        go_at_call 25
        refine (reachable_any N (L3) (ofP [(k : Int)]) _ (HE6.out _ (H69.out _ hHeld)) lo3 w6.heap.size G3 (HGc.out _ (H69.out _ hHeld)).1 (HGc.out _ (H69.out _ hHeld)).2).mono ?_
        rintro e wd ⟨rfl, b7⟩
        have B := hHeld.trans (b7.mono hHeld.size)
        clear b7
        refine hK.out _ _ (B) (fun hHeld => ?_)
        clear hK K
        try simp only [Act.put, List.setIfInBounds_toArray, List.set_cons_zero, List.set_cons_succ, List.getElem_toArray, List.getElem_cons_zero, List.getElem_cons_succ]
        refine wpAnyH_ready (rs := [16]) (by kernel_rfl) (by simp) ?_
        refine AllReadyH.cons rfl (fun K hK => ?_) AllReadyH.nil
        go_simp
        go_at_call 36
        refine (diff_any (ofP (aheadR N L3 (ei (ofP [(k : Int)])))) (ofP (aheadR N l (ei (ofP [(k : Int)])))) _).mono ?_
        rintro e w7 ⟨rfl, b7⟩
        have B := hHeld.trans (b7.mono hHeld.size)
        clear b7
        refine hK.out _ _ (B) (fun hHeld => ?_)
        clear hK K
        try simp only [Act.put, List.setIfInBounds_toArray, List.set_cons_zero, List.set_cons_succ, List.getElem_toArray, List.getElem_cons_zero, List.getElem_cons_succ]
        refine wpAnyH_ready (rs := [17]) (by kernel_rfl) (by simp) ?_
        refine AllReadyH.cons rfl (fun K hK => ?_) AllReadyH.nil
        go_simp
        go_at_call 32
        refine (len_any _ _).mono ?_
        rintro e w10 ⟨rfl, b7⟩
        rw [HD.out.2]
        have B := hHeld.trans (b7.mono hHeld.size)
        clear b7
        refine hK.out _ _ (B) (fun hHeld => ?_)
        clear hK K
        try simp only [Act.put, List.setIfInBounds_toArray, List.set_cons_zero, List.set_cons_succ, List.getElem_toArray, List.getElem_cons_zero, List.getElem_cons_succ]
        refine wpAnyH_take (i := 18) (v := ?_) rfl (by kernel_rfl) (by kernel_rfl) (by kernel_rfl) (fun _ _ _ h => h) (Or.inl ⟨by rfl, ?_⟩) (by assumption) ?_
        rotate_left
        · (intro w hSw; (try dsimp only at hSw); go_simp; try (with_reducible rfl))
        try simp only [Act.put, List.setIfInBounds_toArray, List.set_cons_zero, List.set_cons_succ, List.getElem_toArray, List.getElem_cons_zero, List.getElem_cons_succ]
        refine wpAnyH_take (i := 19) (v := ?_) rfl (by kernel_rfl) (by kernel_rfl) (by kernel_rfl) (fun _ _ _ h => h) (Or.inl ⟨by rfl, ?_⟩) (by assumption) ?_
        rotate_left
        · (intro w hSw; (try dsimp only at hSw); go_simp; try (with_reducible rfl))
        try simp only [Act.put, List.setIfInBounds_toArray, List.set_cons_zero, List.set_cons_succ, List.getElem_toArray, List.getElem_cons_zero, List.getElem_cons_succ]
        refine wpAnyH_done (by kernel_rfl) ?_ _
        try simp only [Act.put, List.setIfInBounds_toArray, List.set_cons_zero, List.set_cons_succ, List.getElem_toArray, List.getElem_cons_zero, List.getElem_cons_succ]
        have HBz := Lib.hid (H69.out _ hHeld)
        clear hHeld
        go_wp2_with fail
        go_roundw
        case rel => exact ⟨k + 1, by go_num, by omega, HBz.out⟩
        case measure => simp [RowKit.intOf]; omega
      · go_wp2_with fail
        go_ret
        exact ⟨rfl, then_ HB.out (then_ HB6.out hB.out)⟩
end Go.Proofs.YtabciepnbmliiaaDoor
