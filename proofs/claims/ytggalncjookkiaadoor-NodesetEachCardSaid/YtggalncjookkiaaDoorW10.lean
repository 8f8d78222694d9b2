/- The laws' helpers: awake, same. -/
import Derived.Test.YtggalncjookkiaaDoorW9
namespace Go.Proofs.YtggalncjookkiaaDoor
open Go.RowKit Go.Lib Nds

theorem cells_of_els {p q : Nat → Bool} (h : els p = els q) : cells p = cells q := cells_ext fun i hi => words_of_els h i hi

/-! ### The document's examples -/

def exP : Nat → Bool := ofP [7, 3, 2, 1]
theorem els_exP : els exP = [1, 2, 3, 7] := by
  symm
  refine eq_els (by decide) fun n => ?_
  unfold exP ofP
  simp only [List.mem_cons, List.not_mem_nil, or_false, decide_eq_true_eq]
  omega
theorem txt_list {p : Nat → Bool} {l : List Nat} (h : els p = l) : txt p = textR (runsOf l) := by unfold txt; rw [h]
theorem runs_ex : runsOf [1, 2, 3, 7] = [(1, 3), (7, 7)] := by decide
theorem txt_exP : txt exP = [49, 45, 51, 44, 55] := by
  rw [txt_list els_exP, runs_ex, textR_head]
  simp only [headT, tailT, runText]
  rw [if_neg (by decide)]
  simp only [if_true, List.append_nil]
  rw [dd_small (by omega), dd_small (by omega), dd_small (by omega)]
  rfl
theorem read_exP : els (readAll [49, 45, 51, 44, 55]) = els exP := by rw [← txt_exP, readAll_txt]
theorem parsed_ex : cells (parsed [49, 45, 51, 44, 55]).1 = cells exP ∧ (parsed [49, 45, 51, 44, 55]).2 = 0 := by
  have h : txt (readAll [49, 45, 51, 44, 55]) = [49, 45, 51, 44, 55] := by rw [txt_congr read_exP, txt_exP]
  unfold parsed
  rw [if_pos h]
  exact ⟨cells_of_els read_exP, rfl⟩
theorem runs_12 : runsOf [1, 2] = [(1, 2)] := by decide
theorem rp_12 : rp [] [49, 44, 50] = some [1, 2] := by
  have a1 : rnumber [49, 44, 50] = (1, 1) := by decide
  have a2 : lastOf [49, 44, 50] = (1, 1) := by decide
  have a3 : usedOf [49, 44, 50] = 1 := by decide
  have b1 : rnumber [50] = (2, 1) := by decide
  have b2 : lastOf [50] = (2, 1) := by decide
  have b3 : usedOf [50] = 1 := by decide
  rw [rp_step (by simp) (by decide), a1, a2, a3]
  simp only [List.drop_succ_cons, List.drop_zero, List.nil_append]
  rw [rp_step (by simp) (by decide), b1, b2, b3]
  simp only [List.drop_succ_cons, List.drop_nil]
  rw [rp_nil]; rfl
theorem no_12 (q : Nat → Bool) : txt q ≠ [49, 44, 50] := by
  intro h
  have h1 := rp_txt q
  rw [h, rp_12] at h1
  injection h1 with h1
  have h2 : els q = [1, 2] := by
    have h3 : ei q = List.map (fun (n : Nat) => (n : Int)) [1, 2] := h1.symm
    exact (List.map_inj_right (f := fun (n : Nat) => (n : Int)) (fun a b e => by omega)).1 h3
  rw [txt_list h2, runs_12, textR_head] at h
  simp only [headT, tailT, runText] at h
  rw [if_neg (by decide), dd_small (by omega), dd_small (by omega)] at h
  revert h; decide
theorem parsed_12 : (parsed [49, 44, 50]).2 = 2 := by
  unfold parsed
  rw [if_neg (no_12 _)]

theorem rd_four (W : World) (a b c d : Int) : Rd (W.alloc (.cells #[.int .i64 a, .int .i64 b, .int .i64 c, .int .i64 d] 3)) (some ⟨W.heap.size, 0, none⟩) 4 [a, b, c, d] := by
  refine ⟨rfl, fun _ => ⟨_, rfl, by simp, fun j hj => ?_⟩⟩
  have hadd : (⟨W.heap.size, 0, none⟩ : Addr).add j = ⟨W.heap.size, j, none⟩ := by unfold Addr.add; split <;> simp_all
  rw [hadd, cell_of_row _ _ j _ _ _ (heap_alloc_new W _)]
  match j, hj with
  | 0, _ => rfl
  | 1, _ => rfl
  | 2, _ => rfl
  | 3, _ => rfl

set_option maxRecDepth 100000 in
set_option maxHeartbeats 1000000 in
theorem awake_any (w : World) (hE : Env w) : Calls Tryd.prog 11 #[] w fun e w' => e = .returned (.bool true) ∧ Below w.heap.size w w' := by
  obtain ⟨q1, q2⟩ := parsed_ex
  have q3 := parsed_12
  have hsz := hE.size
  have Q1 := Lib.hid q1; clear q1
  have Q2 := Lib.hid q2; clear q2
  have Q3 := Lib.hid q3; clear q3
  go_enter Tryd.func11, Tryd.ntmps11
  go_wp2_with fail
  refine (parse_any [49, 45, 51, 44, 55] w hE (by simp)).mono ?_
  rintro e w1 ⟨rfl, b1⟩
  rw [Q1.out, Q2.out]
  have h3 : SetAt (w1.alloc (.cells (cells fun _ => false) 28)) w1.heap.size (fun _ => false) := SetAt.new w1 _
  have h4 : SetAt ((w1.alloc (.cells (cells fun _ => false) 28)).setRow w1.heap.size (cells exP)) w1.heap.size exP := h3.row
  have B2 : Below w.heap.size w ((w1.alloc (.cells (cells fun _ => false) 28)).setRow w1.heap.size (cells exP)) := below_setRow (b1.alloc b1.size _) b1.size _
  go_wp2_with (first | refine wpList_alloc_set rfl rfl ?_ | refine wpList_store_set _ _ _ _ _ rfl rfl rfl rfl h3 ?_)
  generalize (w1.alloc (.cells (cells fun _ => false) 28)).setRow w1.heap.size (cells exP) = W2 at h4 B2 ⊢
  clear h3
  refine (parse_any [49, 44, 50] W2 (hE.of B2) (by simp)).mono ?_
  rintro e w3 ⟨rfl, b3⟩
  rw [Q3.out]
  have h5 := h4.below b3 h4.lt
  have B3 := B2.trans (b3.mono B2.size)
  generalize (parsed [49, 44, 50]).1 = pz
  have h6 : SetAt (w3.alloc (.cells (cells fun _ => false) 28)) w3.heap.size (fun _ => false) := SetAt.new w3 _
  have h7 : SetAt ((w3.alloc (.cells (cells fun _ => false) 28)).setRow w3.heap.size (cells pz)) w1.heap.size exP := (setRow_other _ _ _ _ (by have := h5.lt; omega)).trans (h5.alloc _)
  have B4 : Below w.heap.size w ((w3.alloc (.cells (cells fun _ => false) 28)).setRow w3.heap.size (cells pz)) := below_setRow (B3.alloc B3.size _) B3.size _
  have f1 : ((els exP).length : Int) = 4 := by rw [els_exP]; rfl
  have f2 : hasB exP 7 = true := by decide
  have f3 : hasB exP 4 = false := by decide
  go_wp2_with (first | refine wpList_alloc_set rfl rfl ?_ | refine wpList_store_set _ _ _ _ _ rfl rfl rfl rfl h6 ?_ | refine wpList_load_set _ _ _ rfl rfl rfl h7 ?_)
  generalize (w3.alloc (.cells (cells fun _ => false) 28)).setRow w3.heap.size (cells pz) = W4 at h7 B4 ⊢
  clear h6
  refine (len_any exP W4).mono ?_
  rintro e w5 ⟨rfl, b5⟩
  have h8 := h7.below b5 h7.lt
  have B5 := B4.trans (b5.mono B4.size)
  go_wp2_with (refine wpList_load_set _ _ _ rfl rfl rfl h8 ?_)
  refine (has_any exP 7 w5).mono ?_
  rintro e w6 ⟨rfl, b6⟩
  have h9 := h8.below b6 h8.lt
  have B6 := B5.trans (b6.mono B5.size)
  go_wp2_with (refine wpList_load_set _ _ _ rfl rfl rfl h9 ?_)
  refine (has_any exP 4 w6).mono ?_
  rintro e w7 ⟨rfl, b7⟩
  have B7 := B6.trans (b7.mono B6.size)
  go_wp2_with fail
  refine (of_any _ _ _ _ _ (rd_four w7 7 3 2 1) (by omega)).mono ?_
  rintro e w8 ⟨rfl, b8⟩
  have B8 : Below w.heap.size w w8 := (B7.alloc B7.size _).trans (b8.mono (by have := B7.size; simp; omega))
  go_wp2_with fail
  refine (str_any _ w8 (hE.of B8)).mono ?_
  rintro e w9 ⟨rfl, b9⟩
  have f4 : (txt (ofP [7, 3, 2, 1]) == [49, 45, 51, 44, 55]) = true := by rw [beq_iff_eq]; exact txt_exP
  go_wp2_with fail
  go_ret
  exact ⟨rfl, B8.trans (b9.mono B8.size)⟩

set_option maxRecDepth 100000 in
set_option maxHeartbeats 1000000 in
theorem same_any (p : Nat → Bool) (A : Option Addr) (c n : Nat) (xs : List Int) (w : World) (hE : Env w) (hr : Rd w A n xs) (hx : xs = ei p) :
    Calls Tryd.prog 14 #[.agg (cells p), .slice A n c] w fun e w' => e = .returned (.bool true) ∧ Below w.heap.size w w' := by
  have hpl := eisz p
  have hn0 : n = (ei p).length := hr.1.trans (by rw [hx])
  have hn1 : n ≤ (ei p).length := Nat.le_of_eq hn0
  have hn2 : (ei p).length ≤ n := Nat.le_of_eq hn0.symm
  have hne : n = (els p).length := hn0.trans (ei_length p)
  have hs := SetAt.new w p
  have hsz := hE.size
  have B1 : Below w.heap.size w (w.alloc (.cells (cells p) 28)) := (Below.refl _ _).alloc (Nat.le_refl _) _
  have hfin : decide (ei p = xs) = true := by rw [hx]; simp
  have hlen : (((els p).length : Int) == (n : Int)) = true := by rw [beq_iff_eq, hne]
  have HX := Lib.hid hx; clear hx
  have HLen := Lib.hid hlen; clear hlen
  have HFin := Lib.hid hfin; clear hfin hn0 hne
  cases hc0 : ei p with
  | nil =>
    have hn : n = 0 := by rw [hc0] at hn1; simpa using hn1
    have hl : least (ei p) = (0, false) := by rw [hc0]; rfl
    have HL := Lib.hid hl; clear hl hc0 hn1 hn2
    have hnb : ((n : Int) == 0) = true := by rw [hn]; rfl
    have hnd : decide (0 < n) = false := by rw [hn]; rfl
    have HN := Lib.hid hn; clear hn
    go_enter Tryd.func14, Tryd.ntmps14
    go_wp2_with (refine wpList_load_set _ _ _ rfl rfl rfl hs ?_)
    refine (min_any p _ (hE.of B1)).mono ?_
    rintro e w1 ⟨rfl, b1⟩
    rw [HL.out]
    have hs1 := hs.below b1 hs.lt
    have B2 := B1.trans (b1.mono B1.size)
    have hr2 := hr.below B2
    have hlen := HLen.out
    go_wp2_with (refine wpList_load_set _ _ _ rfl rfl rfl hs1 ?_)
    refine (len_any p w1).mono ?_
    rintro e w2 ⟨rfl, b2⟩
    have hs2 := hs1.below b2 hs1.lt
    have B3 := B2.trans (b2.mono B2.size)
    go_wp2_with (refine wpList_load_set _ _ _ rfl rfl rfl hs2 ?_)
    refine (list_any p w2 (hE.of B3)).mono ?_
    rintro e w3 ⟨A3, c3, rfl, hr3, b3⟩
    have B4 := B3.trans (b3.mono B3.size)
    go_wp2_with fail
    refine (rsame_any _ _ _ _ _ _ _ _ w3 hr3 (hr.below B4) (by omega) (by rw [HN.out]; omega)).mono ?_
    rintro e w4 ⟨rfl, b4⟩
    rw [HFin.out]
    go_wp2_with fail
    go_ret
    exact ⟨rfl, B4.trans (b4.mono B4.size)⟩
  | cons x r =>
    have hnp : 0 < n := by rw [hc0] at hn2; simp at hn2; omega
    have hl : least (ei p) = (x, true) := by rw [hc0]; rfl
    have hx0 : xs.getD 0 0 = x := by rw [HX.out, hc0]; rfl
    have HL := Lib.hid hl; clear hl hc0
    have HX0 := Lib.hid hx0; clear hx0
    have hnb : ((n : Int) == 0) = false := by rw [beq_eq_false_iff_ne]; omega
    have hnd : decide (0 < n) = true := decide_eq_true hnp
    go_enter Tryd.func14, Tryd.ntmps14
    go_wp2_with (refine wpList_load_set _ _ _ rfl rfl rfl hs ?_)
    refine (min_any p _ (hE.of B1)).mono ?_
    rintro e w1 ⟨rfl, b1⟩
    rw [HL.out]
    have hs1 := hs.below b1 hs.lt
    have B2 := B1.trans (b1.mono B1.size)
    obtain ⟨ad, rfl, hcell⟩ := (hr.below B2).at_ hnp
    rw [HX0.out, show ad.add 0 = ad from rfl] at hcell
    have hxb : (x != x) = false := by simp
    have hlen := HLen.out
    go_wp2_with (refine wpList_load_set _ _ _ rfl rfl rfl hs1 ?_)
    refine (len_any p w1).mono ?_
    rintro e w2 ⟨rfl, b2⟩
    have hs2 := hs1.below b2 hs1.lt
    have B3 := B2.trans (b2.mono B2.size)
    go_wp2_with (refine wpList_load_set _ _ _ rfl rfl rfl hs2 ?_)
    refine (list_any p w2 (hE.of B3)).mono ?_
    rintro e w3 ⟨A3, c3, rfl, hr3, b3⟩
    have B4 := B3.trans (b3.mono B3.size)
    go_wp2_with fail
    refine (rsame_any _ _ _ _ _ _ _ _ w3 hr3 (hr.below B4) (by omega) (by omega)).mono ?_
    rintro e w4 ⟨rfl, b4⟩
    rw [HFin.out]
    go_wp2_with fail
    go_ret
    exact ⟨rfl, B4.trans (b4.mono B4.size)⟩

end Go.Proofs.YtggalncjookkiaaDoor
