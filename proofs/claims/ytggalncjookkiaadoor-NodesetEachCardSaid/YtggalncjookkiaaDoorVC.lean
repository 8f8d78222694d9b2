/- The reference's Of, with its slice's capacity: walk (as rof_any). -/
import Derived.Test.YtggalncjookkiaaDoorW12
namespace Go.Proofs.YtggalncjookkiaaDoor
open Go.RowKit Go.Lib Nds

/-- A call gives a new slice with xs; its capacity is told. -/
def GivesC (w : World) (xs : List Int) (e : Ending) (w' : World) : Prop := ∃ A c, e = .returned (.slice A xs.length c) ∧ xs.length ≤ c ∧ Rd w' A xs.length xs ∧ Below w.heap.size w w'

theorem OwnI.givesC {w w' : World} {v : Value} {xs : List Int} (h : OwnI w' w.heap.size v xs) (hb : Below w.heap.size w w') : GivesC w xs (.returned v) w' := by
  obtain ⟨A, c, rfl, hc⟩ : ∃ A c, v = .slice A xs.length c ∧ xs.length ≤ c := by
    rcases h.2 with ⟨h1, h2⟩ | ⟨g, cap, _, h1, _, _, hc, _⟩
    · exact ⟨none, 0, by rw [h1, h2], by omega⟩
    · exact ⟨_, _, h1, hc⟩
  exact ⟨A, c, rfl, hc, h.rd, hb⟩

theorem same_yes {A B : Option Addr} {c d n m : Nat} {xs ys : List Int} {w : World} (hr : Rd w A n xs) (hs : Rd w B m ys) (he : xs = ys) (hn : n ≤ 9223372036854775807) (hm : m ≤ 9223372036854775807) :
    Calls Tryd.prog 20 #[.slice A n c, .slice B m d] w fun e w' => e = .returned (.bool true) ∧ Below w.heap.size w w' :=
  (rsame_any A B c d n m xs ys w hr hs hn hm).mono fun e w' ⟨h, hb⟩ => ⟨by rw [h, decide_eq_true he], hb⟩
theorem Rd.take {w : World} {A : Option Addr} {n k : Nat} {xs : List Int} (h : Rd w A n xs) (hk : k ≤ n) : Rd w A k (xs.take k) := by
  have hn := h.1
  refine ⟨by rw [List.length_take]; omega, fun h0 => ?_⟩
  obtain ⟨ad, e, hb, hc⟩ := h.2 (by omega)
  refine ⟨ad, e, hb, fun j hj => ?_⟩
  rw [List.length_take] at hj
  rw [hc j (by omega)]
  congr 2
  rw [List.getD_eq_getElem?_getD, List.getD_eq_getElem?_getD, List.getElem?_take, if_pos (by omega)]

set_option maxRecDepth 100000 in
set_option maxHeartbeats 1000000 in
theorem rof_cap (A : Option Addr) (c n : Nat) (xs : List Int) (w : World) (hr : Rd w A n xs) (hn : n ≤ 400000) :
    Calls Tryd.prog 13 #[.slice A n c] w (GivesC w (ei (ofP xs))) := by
  have hl1 : n ≤ xs.length := Nat.le_of_eq hr.1
  have hl2 : xs.length ≤ n := Nat.le_of_eq hr.1.symm
  go_enter Tryd.func13, Tryd.ntmps13
  go_wp2
  go_loopw [3, 12] (fun v i w' => ∃ k : Nat, i = .int .i64 k ∧ k ≤ n ∧ OwnI w' w.heap.size v (ei (ofP (xs.take k))) ∧ Below w.heap.size w w') (fun _ i _ => n - (RowKit.intOf i).toNat)
  case atStart => exact ⟨0, rfl, by omega, OwnI.nil _ _, Below.refl _ _⟩
  case round =>
    obtain ⟨k, rfl, hk, hown, hb⟩ := hrel
    have hz := hb.size
    have hel : (ei (ofP (xs.take k))).length ≤ 4096 := by rw [ei_length]; exact els_length _
    by_cases hlt : k < n
    · obtain ⟨ad, rfl, hc⟩ := (hr.below hb).at_ hlt
      have ht := take_next xs k (by omega)
      generalize xs.getD k 0 = x at hc ht
      have HT := Lib.hid ht; clear ht
      obtain ⟨Ao, co, rfl⟩ := hown.slice
      have hro := hown.rd
      clear hr
      by_cases hx : 0 ≤ x ∧ x < 4096
      · obtain ⟨hx0, hx1⟩ := hx
        have hof := ofP_has (xs.take k) x hx0 hx1
        by_cases hin : x ∈ ei (ofP (xs.take k))
        · have hd : decide (x ∈ ei (ofP (xs.take k))) = true := decide_eq_true hin
          have he := ei_snoc_old (xs.take k) x (Or.inr (hof.1 hin))
          have HE := Lib.hid he; clear he hof hin
          go_wp2_with (go_at_call 16; refine (rhas_any _ _ _ _ _ _ hro (by omega)).mono ?_; rintro e w' ⟨rfl, rfl⟩)
          go_roundw
          case rel => exact ⟨k + 1, by go_num, by omega, by rw [HT.out, HE.out]; exact hown, hb⟩
          case measure => simp [RowKit.intOf]; omega
        · have hd : decide (x ∈ ei (ofP (xs.take k))) = false := decide_eq_false hin
          obtain ⟨P, S, he, hP, hS⟩ := split_at x _ (ei_sorted (ofP (xs.take k))) hin
          have hnew := ei_snoc_new hx0 hx1 he hP hS
          have HN := Lib.hid hnew; clear hnew hof hin
          generalize ei (ofP (xs.take k)) = E at hown hro hel hd he ⊢
          have hlen3 : E.length = P.length + S.length := by rw [he, List.length_append]
          have hlen1 : E.length ≤ P.length + S.length := Nat.le_of_eq hlen3
          have hlen2 : P.length + S.length ≤ E.length := Nat.le_of_eq hlen3.symm
          clear hlen3
          have HE := Lib.hid he; clear he
          have HP := Lib.hid hP; clear hP
          have HS := Lib.hid hS; clear hS
          go_wp2_with (go_at_call 16; refine (rhas_any _ _ _ _ _ _ hro (by omega)).mono ?_; rintro e w' ⟨rfl, rfl⟩)
          obtain ⟨wo, rfl⟩ : ∃ wo : World, wo = wr := ⟨_, rfl⟩
          go_loopw [6, 7, 29] (fun nx pt j w' => ∃ t : Nat, j = .int .i64 t ∧ t ≤ E.length ∧ pt = .bool (decide (P.length < t)) ∧ OwnI w' wo.heap.size nx (built x P S t) ∧ Below wo.heap.size wo w') (fun _ _ j _ => E.length - (RowKit.intOf j).toNat)
          case atStart => exact ⟨0, rfl, by omega, rfl, by rw [built_zero]; exact OwnI.nil _ _, Below.refl _ _⟩
          case round =>
            obtain ⟨t, rfl, ht, rfl, hnx, hbo⟩ := hrel
            have hzo := hbo.size
            have hbl := built_length x P S t
            rw [List.length_append] at hbl
            by_cases htl : t < E.length
            · obtain ⟨ad2, rfl, hc2⟩ := (hro.below hbo).at_ htl
              by_cases hlow : t < P.length
              · have hy := HP.out _ (at_low (B := S) hlow)
                have hbs := built_low (m := x) (B := S) hlow
                rw [← HE.out] at hy hbs
                generalize E.getD t 0 = y at hc2 hy hbs
                have HB := Lib.hid hbs; clear hbs
                have hp : decide (P.length < t) = false := by rw [decide_eq_false_iff_not]; omega
                have hp2 : decide (P.length < t + 1) = false := by rw [decide_eq_false_iff_not]; omega
                have HP2 := Lib.hid hp2; clear hp2
                go_wp2_with (at_builtin; refine wpList_push _ _ wo.heap.size _ _ _ rfl rfl rfl rfl hnx (by omega) (by omega) ?_; intro v2 w2 hown2 hb2)
                go_roundw
                case rel => exact ⟨t + 1, by go_num, by omega, by rw [HP2.out], by rw [HB.out]; exact hown2, hbo.trans hb2⟩
                case measure => simp [RowKit.intOf]; omega
              · have hy := HS.out _ (at_high (A := P) (j := t) (by omega) (by rw [List.length_append]; omega))
                rw [← HE.out] at hy
                have hp2 : decide (P.length < t + 1) = true := by rw [decide_eq_true_iff]; omega
                have HP2 := Lib.hid hp2; clear hp2
                by_cases heq : t = P.length
                · have hbs := built_turn (m := x) (B := S) heq (by rw [List.length_append]; omega)
                  rw [← HE.out] at hbs
                  generalize E.getD t 0 = y at hc2 hy hbs
                  have HB := Lib.hid hbs; clear hbs
                  have hp : decide (P.length < t) = false := by rw [decide_eq_false_iff_not]; omega
                  clear heq
                  go_wp2_with (first | (at_builtin; refine wpList_push _ _ wo.heap.size _ _ _ rfl rfl rfl rfl hown2 (by simp; omega) (by have := hb2.size; omega) ?_; intro v3 w3 hown3 hb3) | (at_builtin; refine wpList_push _ _ wo.heap.size _ _ _ rfl rfl rfl rfl hnx (by omega) (by omega) ?_; intro v2 w2 hown2 hb2))
                  go_roundw
                  case rel => exact ⟨t + 1, by go_num, by omega, by rw [HP2.out], by rw [HB.out]; exact hown3, (hbo.trans hb2).trans hb3⟩
                  case measure => simp [RowKit.intOf]; omega
                · have hbs := built_high (m := x) (A := P) (B := S) (j := t) (by omega) (by rw [List.length_append]; omega)
                  rw [← HE.out] at hbs
                  generalize E.getD t 0 = y at hc2 hy hbs
                  have HB := Lib.hid hbs; clear hbs
                  have hp : decide (P.length < t) = true := by rw [decide_eq_true_iff]; omega
                  go_wp2_with (at_builtin; refine wpList_push _ _ wo.heap.size _ _ _ rfl rfl rfl rfl hnx (by omega) (by omega) ?_; intro v2 w2 hown2 hb2)
                  go_roundw
                  case rel => exact ⟨t + 1, by go_num, by omega, by rw [HP2.out], by rw [HB.out]; exact hown2, hbo.trans hb2⟩
                  case measure => simp [RowKit.intOf]; omega
            · have hbe : built x P S t = if P.length < t then P ++ x :: S else P := by
                unfold built
                by_cases h : P.length < t
                · rw [if_neg (by omega), if_pos h, List.take_of_length_le (by omega)]
                · rw [if_pos (by omega), if_neg h, List.take_of_length_le (by omega)]
              by_cases hput : P.length < t
              · rw [if_pos hput] at hbe
                rw [hbe] at hnx
                have hp : decide (P.length < t) = true := by rw [decide_eq_true_iff]; omega
                clear hbe hbl
                go_wp2
                go_roundw
                case rel => exact ⟨k + 1, by go_num, by omega, by rw [HT.out, HN.out]; exact hnx.mono hz, hb.trans (hbo.mono hz)⟩
                case measure => simp [RowKit.intOf]; omega
              · rw [if_neg hput] at hbe
                rw [hbe] at hnx
                have hS0 : S = [] := by
                  exact List.eq_nil_of_length_eq_zero (by omega)
                have hp : decide (P.length < t) = false := by rw [decide_eq_false_iff_not]; omega
                have hPl : P.length ≤ 4096 := by omega
                have HS0 := Lib.hid hS0
                clear hbe hbl hS0
                go_wp2_with (at_builtin; refine wpList_push _ _ wo.heap.size _ _ _ rfl rfl rfl rfl hnx (by omega) (by omega) ?_; intro v2 w2 hown2 hb2)
                go_roundw
                case rel => exact ⟨k + 1, by go_num, by omega, by rw [HT.out, HN.out, HS0.out]; exact hown2.mono hz, hb.trans ((hbo.trans hb2).mono hz)⟩
                case measure => simp [RowKit.intOf]; omega
      · have he := ei_snoc_old (xs.take k) x (Or.inl hx)
        have HE := Lib.hid he; clear he
        by_cases hx0 : x < 0
        · go_wp2
          go_roundw
          case rel => exact ⟨k + 1, by go_num, by omega, by rw [HT.out, HE.out]; exact hown, hb⟩
          case measure => simp [RowKit.intOf]; omega
        · have hx1 : 4096 ≤ x := by omega
          go_wp2
          go_roundw
          case rel => exact ⟨k + 1, by go_num, by omega, by rw [HT.out, HE.out]; exact hown, hb⟩
          case measure => simp [RowKit.intOf]; omega
    · have e : xs.take k = xs := List.take_of_length_le (by omega)
      rw [e] at hown
      clear e hr hel
      go_wp2
      go_ret
      exact hown.givesC hb

end Go.Proofs.YtggalncjookkiaaDoor
