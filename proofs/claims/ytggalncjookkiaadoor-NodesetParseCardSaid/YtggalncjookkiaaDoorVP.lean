/- The law on Parse: walk. -/
import Derived.Test.YtggalncjookkiaaDoorVR
namespace Go.Proofs.YtggalncjookkiaaDoor
open Go.RowKit Go.Lib Nds

theorem els_of_ei (p : Nat → Bool) : els (ofP (ei p)) = els p := by
  refine els_congr fun n hn => ?_
  unfold ofP
  rw [Bool.eq_iff_iff, decide_eq_true_iff, mem_ei]
  constructor
  · intro h; simpa using h.2.2
  · intro h; exact ⟨by omega, by omega, by simpa using h⟩
theorem ei_of_ei (p : Nat → Bool) : ei (ofP (ei p)) = ei p := ei_inj.2 (els_of_ei p)
theorem els_none : els (fun _ => false) = [] := by
  symm
  refine eq_els (by simp) fun n => ?_
  simp

theorem rparse_yes (l : Bs) (p : Nat → Bool) (w : World) (hl : l.length ≤ 60) (hq : txt p = l) :
    Calls Tryd.prog 32 #[.string ⟨l.toArray⟩] w fun e w' => ∃ A c, e = .returned (.tuple #[.slice A (ei p).length c, .bool true]) ∧ Rd w' A (ei p).length (ei p) ∧ Below w.heap.size w w' := by
  refine (rparse_any l w hl).mono ?_
  rintro e w' ⟨hb, h⟩
  have hr : rp [] l = some (ei p) := by rw [← hq]; exact rp_txt p
  rw [hr] at h
  simp only at h
  obtain ⟨A, c, he, h2⟩ := h
  have ht : (txt (ofP (ei p)) == l) = true := by rw [beq_iff_eq, txt_congr (els_of_ei p)]; exact hq
  rw [ei_of_ei, ht] at he
  rw [ei_of_ei] at h2
  exact ⟨A, c, he, h2, hb⟩

theorem rparse_no (l : Bs) (w : World) (hl : l.length ≤ 60) (hq : ¬ txt (readAll l) = l) :
    Calls Tryd.prog 32 #[.string ⟨l.toArray⟩] w fun e w' => ∃ A n c, e = .returned (.tuple #[.slice A n c, .bool false]) ∧ Below w.heap.size w w' := by
  refine (rparse_any l w hl).mono ?_
  rintro e w' ⟨hb, h⟩
  cases hr : rp [] l with
  | none =>
    rw [hr] at h
    exact ⟨none, 0, 0, h, hb⟩
  | some out =>
    rw [hr] at h
    simp only at h
    obtain ⟨A, c, he, _⟩ := h
    have ht : (txt (ofP out) == l) = false := by
      rw [beq_eq_false_iff_ne]
      intro e
      have := readAll_txt (ofP out)
      rw [e] at this
      exact hq ((txt_congr this).trans e)
    rw [ht] at he
    exact ⟨A, _, c, he, hb⟩

set_option maxRecDepth 100000 in
set_option maxHeartbeats 1000000 in
theorem lawParse (l : Bs) (w : World) (hE : Env w) (hn : l.length ≤ 9223372036854775807) :
    Calls Tryd.prog 8 #[.string ⟨l.toArray⟩] w fun e w' => e = .returned (.bool true) ∧ Below w.heap.size w w' := by
  by_cases hg : 60 < l.length
  · have hd : decide ((60 : Int) < (l.length : Int)) = true := by rw [decide_eq_true_iff]; omega
    go_enter Tryd.func8, Tryd.ntmps8
    go_wp2_with fail
    refine (awake_any w hE).mono ?_
    rintro e w1 ⟨rfl, b1⟩
    go_wp2_with fail
    go_ret
    exact ⟨rfl, b1⟩
  · have hd : decide ((60 : Int) < (l.length : Int)) = false := by rw [decide_eq_false_iff_not]; omega
    by_cases hq : txt (readAll l) = l
    · have hpar : parsed l = (readAll l, 0) := by unfold parsed; rw [if_pos hq]
      have hln : (((els (readAll l)).length : Int) == ((ei (readAll l)).length : Int)) = true := by rw [ei_length]; simp
      have hpl := eisz (readAll l)
      have hst := fun w => str_any (readAll l) w
      have hrp := fun w => rparse_yes l (readAll l) w (by omega) hq
      rw [hq] at hst
      clear hq
      generalize readAll l = p at hpar hln hpl hst hrp
      have HP := Lib.hid hpar; clear hpar
      have HS := Lib.hid hst; clear hst
      have HR := Lib.hid hrp; clear hrp
      have HL := Lib.hid hln; clear hln
      go_enter Tryd.func8, Tryd.ntmps8
      go_wp2_with fail
      refine (parse_any l w hE (by omega)).mono ?_
      rintro e w1 ⟨rfl, b1⟩
      rw [HP.out]
      have h3 : SetAt (w1.alloc (.cells (cells fun _ => false) 28)) w1.heap.size (fun _ => false) := SetAt.new w1 _
      have h4 := newSet w1 p
      have B4 := newSet_below b1 p
      go_wp2_with (first | refine wpList_alloc_set rfl rfl ?_ | refine wpList_store_set _ _ _ _ _ rfl rfl rfl rfl h3 ?_)
      generalize (w1.alloc (.cells (cells fun _ => false) 28)).setRow w1.heap.size (cells p) = W4 at h4 B4 ⊢
      clear h3
      refine (HR.out W4).mono ?_
      rintro e w5 ⟨A2, c2, rfl, hr5, b5⟩
      have h5 := h4.below b5 h4.lt
      have B5 := B4.trans (b5.mono B4.size)
      clear h4
      go_wp2_with (first | refine wpList_load_set _ _ _ rfl rfl rfl h5 ?_)
      refine (len_any p w5).mono ?_
      rintro e w6 ⟨rfl, b6⟩
      have h6 := h5.below b6 h5.lt
      have hr6 := hr5.below b6
      have B6 := B5.trans (b6.mono B5.size)
      clear h5
      have hln := HL.out
      go_wp2_with (first | refine wpList_load_set _ _ _ rfl rfl rfl h6 ?_)
      clear hln
      refine (list_any p w6 (hE.of B6)).mono ?_
      rintro e w7 ⟨A7, c7, rfl, hr7, b7⟩
      have h7 := h6.below b7 h6.lt
      have hr8 := hr6.below b7
      have B7 := B6.trans (b7.mono B6.size)
      clear h6
      go_wp2_with fail
      refine (rsame_any A7 A2 _ _ _ _ _ _ w7 hr7 hr8 (by omega) (by omega)).mono ?_
      rintro e w8 ⟨rfl, b8⟩
      have h8 := h7.below b8 h7.lt
      have B8 := B7.trans (b8.mono B7.size)
      clear h7
      rw [show decide (ei p = ei p) = true from decide_eq_true rfl]
      go_wp2_with (first | refine wpList_load_set _ _ _ rfl rfl rfl h8 ?_)
      refine (HS.out w8 (hE.of B8)).mono ?_
      rintro e w9 ⟨rfl, b9⟩
      have B9 := B8.trans (b9.mono B8.size)
      go_wp2_with fail
      refine (awake_any w9 (hE.of B9)).mono ?_
      rintro e w10 ⟨rfl, b10⟩
      go_wp2_with fail
      go_ret
      exact ⟨rfl, B9.trans (b10.mono B9.size)⟩
    · have hpar : parsed l = (fun _ => false, 2) := by unfold parsed; rw [if_neg hq]
      have hrp := fun w => rparse_no l w (by omega) hq
      have hln : ((els (fun _ => false)).length : Int) = 0 := by rw [els_none]; rfl
      clear hq
      have HP := Lib.hid hpar; clear hpar
      have HR := Lib.hid hrp; clear hrp
      have HL := Lib.hid hln; clear hln
      go_enter Tryd.func8, Tryd.ntmps8
      go_wp2_with fail
      refine (parse_any l w hE (by omega)).mono ?_
      rintro e w1 ⟨rfl, b1⟩
      rw [HP.out]
      have h3 : SetAt (w1.alloc (.cells (cells fun _ => false) 28)) w1.heap.size (fun _ => false) := SetAt.new w1 _
      have h4 := newSet w1 (fun _ => false)
      have B4 := newSet_below b1 (fun _ => false)
      go_wp2_with (first | refine wpList_alloc_set rfl rfl ?_ | refine wpList_store_set _ _ _ _ _ rfl rfl rfl rfl h3 ?_)
      generalize (w1.alloc (.cells (cells fun _ => false) 28)).setRow w1.heap.size (cells fun _ => false) = W4 at h4 B4 ⊢
      clear h3
      refine (HR.out W4).mono ?_
      rintro e w5 ⟨A2, n2, c2, rfl, b5⟩
      have h5 := h4.below b5 h4.lt
      have B5 := B4.trans (b5.mono B4.size)
      clear h4
      go_wp2_with (first | refine wpList_load_set _ _ _ rfl rfl rfl h5 ?_)
      refine (len_any (fun _ => false) w5).mono ?_
      rintro e w6 ⟨rfl, b6⟩
      have B6 := B5.trans (b6.mono B5.size)
      clear h5
      rw [HL.out]
      go_wp2_with fail
      refine (awake_any w6 (hE.of B6)).mono ?_
      rintro e w7 ⟨rfl, b7⟩
      go_wp2_with fail
      go_ret
      exact ⟨rfl, B6.trans (b7.mono B6.size)⟩

end Go.Proofs.YtggalncjookkiaaDoor
