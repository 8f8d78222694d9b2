/- The law on String: walk. -/
import Derived.Test.YtggalncjookkiaaDoorV3
import Derived.Test.YtggalncjookkiaaDoorW12
namespace Go.Proofs.YtggalncjookkiaaDoor
open Go.RowKit Go.Lib Nds

theorem sub_length : ∀ (l m : List Nat), l.Nodup → (∀ x ∈ l, x ∈ m) → l.length ≤ m.length
  | [], _, _, _ => by simp
  | a :: l, m, hn, hs => by
    rw [List.nodup_cons] at hn
    have ha := hs a (by simp)
    have h := sub_length l (m.erase a) hn.2 fun x hx => (List.mem_erase_of_ne (fun (e : x = a) => hn.1 (by rw [← e]; exact hx))).2 (hs x (by simp [hx]))
    rw [List.length_erase_of_mem ha] at h
    have := List.length_pos_of_mem ha
    simp; omega
theorem els_of_length (xs : List Int) : (els (ofP xs)).length ≤ xs.length := by
  have hn : (els (ofP xs)).Nodup := (els_sorted (ofP xs)).imp fun h => Nat.ne_of_lt h
  have := sub_length (els (ofP xs)) (xs.map Int.toNat) hn fun x hx => by
    have h := (mem_els (ofP xs) x).1 hx
    have h2 : ofP xs x = true := h.2
    unfold ofP at h2
    rw [decide_eq_true_iff] at h2
    rw [List.mem_map]
    exact ⟨(x : Int), h2, by simp⟩
  simpa using this
theorem txt_of_length (xs : List Int) : (txt (ofP xs)).length ≤ 10 * xs.length := by
  have h := els_of_length xs
  have h1 := runs_els (ofP xs)
  have h2 := textR_len h1.1
  rw [h1.2] at h2
  unfold txt
  omega

theorem rtext_p (A : Option Addr) (c n : Nat) (p : Nat → Bool) (w : World) (hr : Rd w A n (ei p)) :
    Calls Tryd.prog 31 #[.slice A n c] w fun e w' => e = .returned (.string ⟨(txt p).toArray⟩) ∧ Below w.heap.size w w' := by
  have h1 := runs_els p
  refine rtext_any A c n (runsOf (els p)) w ?_ h1.1 ?_
  · unfold ints'; rw [h1.2]; exact hr
  · have := hr.1; have := eisz p; omega

set_option maxRecDepth 100000 in
set_option maxHeartbeats 1000000 in
theorem lawString (A : Option Addr) (c n : Nat) (xs : List Int) (w : World) (hE : Env w) (hr : Rd w A n xs) (hn : n ≤ 9223372036854775807) :
    Calls Tryd.prog 7 #[.slice A n c] w fun e w' => e = .returned (.bool true) ∧ Below w.heap.size w w' := by
  by_cases hg : 60 < n
  · have hd : decide (60 < n) = true := decide_eq_true hg
    go_enter Tryd.func7, Tryd.ntmps7
    go_wp2_with (go_at_call 10; refine (great_any _ _ _ _ hn).mono ?_; rintro e w' ⟨rfl, rfl⟩)
    refine (awake_any w hE).mono ?_
    rintro e w1 ⟨rfl, b1⟩
    go_wp2_with fail
    go_ret
    exact ⟨rfl, b1⟩
  · have hd : decide (60 < n) = false := decide_eq_false hg
    have htl := txt_of_length xs
    have hxl := hr.1
    have hl : (txt (ofP xs)).length ≤ 1000 := by omega
    have hq := readAll_txt (ofP xs)
    have hpar : parsed (txt (ofP xs)) = (readAll (txt (ofP xs)), 0) := by unfold parsed; rw [if_pos (txt_congr hq)]
    have hqe : decide (els (readAll (txt (ofP xs))) = els (ofP xs)) = true := by rw [decide_eq_true_iff]; exact hq
    have hto := fun A c n w => rtext_p A c n (ofP xs) w
    clear htl hq
    have HX := Lib.hid hxl; clear hxl
    have hst := fun w => str_any (ofP xs) w
    generalize readAll (txt (ofP xs)) = q at hpar hqe
    generalize txt (ofP xs) = T at hl hpar hto hst
    have HP := Lib.hid hpar; clear hpar
    have HQ := Lib.hid hqe; clear hqe
    have HT := Lib.hid hto; clear hto
    have HS := Lib.hid hst; clear hst
    have HL := Lib.hid hl; clear hl
    go_enter Tryd.func7, Tryd.ntmps7
    go_wp2_with (go_at_call 10; refine (great_any _ _ _ _ hn).mono ?_; rintro e w' ⟨rfl, rfl⟩)
    refine (of_any A c n xs w hr hn).mono ?_
    rintro e w1 ⟨rfl, b1⟩
    have h3 : SetAt (w1.alloc (.cells (cells fun _ => false) 28)) w1.heap.size (fun _ => false) := SetAt.new w1 _
    have h4 := newSet w1 (ofP xs)
    have B4 := newSet_below b1 (ofP xs)
    go_wp2_with (first | refine wpList_alloc_set rfl rfl ?_ | refine wpList_store_set _ _ _ _ _ rfl rfl rfl rfl h3 ?_ | refine wpList_load_set _ _ _ rfl rfl rfl h4 ?_)
    generalize (w1.alloc (.cells (cells fun _ => false) 28)).setRow w1.heap.size (cells (ofP xs)) = W4 at h4 B4 ⊢
    clear h3
    refine (HS.out W4 (hE.of B4)).mono ?_
    rintro e w5 ⟨rfl, b5⟩
    have h5 := h4.below b5 h4.lt
    have B5 := B4.trans (b5.mono B4.size)
    clear h4
    go_wp2_with fail
    refine (parse_any T w5 (hE.of B5) HL.out).mono ?_
    rintro e w6 ⟨rfl, b6⟩
    rw [HP.out]
    have h6 := h5.below b6 h5.lt
    have B6 := B5.trans (b6.mono B5.size)
    clear h5
    have h7 : SetAt (w6.alloc (.cells (cells fun _ => false) 28)) w6.heap.size (fun _ => false) := SetAt.new w6 _
    have h8 := newSet w6 q
    have B8 := newSet_below B6 q
    have h9 := newSet_keep h6 q
    clear h6
    have hr8 := hr.below B8
    go_wp2_with (first | refine wpList_alloc_set rfl rfl ?_ | refine wpList_store_set _ _ _ _ _ rfl rfl rfl rfl h7 ?_)
    generalize (w6.alloc (.cells (cells fun _ => false) 28)).setRow w6.heap.size (cells q) = W8 at h8 h9 B8 hr8 ⊢
    clear h7
    refine (rof_any A c n xs W8 hr8 (by omega)).mono ?_
    rintro e w9 ⟨A2, c2, rfl, hr9, b9⟩
    have h10 := h8.below b9 h8.lt
    have h11 := h9.below b9 h9.lt
    have B9 := B8.trans (b9.mono B8.size)
    clear h8 h9
    go_wp2_with fail
    refine (HT.out A2 c2 _ w9 hr9).mono ?_
    rintro e w10 ⟨rfl, b10⟩
    have h12 := h10.below b10 h10.lt
    have h13 := h11.below b10 h11.lt
    have B10 := B9.trans (b10.mono B9.size)
    clear h10 h11
    go_wp2_with (first | refine wpList_load_set _ _ _ rfl rfl rfl h12 ?_ | refine wpList_load_set _ _ _ rfl rfl rfl h13 ?_)
    refine (equal_any q (ofP xs) w10).mono ?_
    rintro e w11 ⟨rfl, b11⟩
    have B11 := B10.trans (b11.mono B10.size)
    rw [HQ.out]
    go_wp2_with fail
    refine (awake_any w11 (hE.of B11)).mono ?_
    rintro e w12 ⟨rfl, b12⟩
    go_wp2_with fail
    go_ret
    exact ⟨rfl, B11.trans (b12.mono B11.size)⟩

end Go.Proofs.YtggalncjookkiaaDoor
