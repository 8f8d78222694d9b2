/- The reference's Or and Of: walks. -/
import Derived.Test.YtggalncjookkiaaDoorW3
namespace Go.Proofs.YtggalncjookkiaaDoor
open Go.RowKit Go.Lib Nds

theorem OwnI.drewN {w : World} {base : Nat} {v : Value} {xs : List Int} (h : OwnI w base v xs) (n : Nat) : OwnI (w.drewN n) base v xs := h

/-- Where the merge stands. -/
structure At (xs ys out : List Int) (i k : Nat) : Prop where
  eq : out ++ mrg (xs.drop i) (ys.drop k) = mrg xs ys
  li : i ≤ xs.length
  lk : k ≤ ys.length
  len : out.length ≤ i + k

set_option maxRecDepth 100000 in
set_option maxHeartbeats 1000000 in
theorem ror_any (A B : Option Addr) (c d n m : Nat) (xs ys : List Int) (w : World) (hr : Rd w A n xs) (hs : Rd w B m ys) (hn : n ≤ 400000) (hm : m ≤ 400000) :
    Calls Tryd.prog 23 #[.slice A n c, .slice B m d] w (Gives w (mrg xs ys)) := by
  have hl1 : n ≤ xs.length := Nat.le_of_eq hr.1
  have hl2 : xs.length ≤ n := Nat.le_of_eq hr.1.symm
  have hm1 : m ≤ ys.length := Nat.le_of_eq hs.1
  have hm2 : ys.length ≤ m := Nat.le_of_eq hs.1.symm
  go_enter Tryd.func23, Tryd.ntmps23
  go_wp2
  go_loopw [5, 6, 7] (fun v i k w' => ∃ (a b : Nat) (out : List Int), i = .int .i64 a ∧ k = .int .i64 b ∧ At xs ys out a b ∧ OwnI w' w.heap.size v out ∧ Below w.heap.size w w') (fun _ i k _ => n + m - (intOf i).toNat - (intOf k).toNat)
  case atStart => exact ⟨0, 0, [], rfl, rfl, ⟨rfl, by omega, by omega, by simp⟩, OwnI.nil _ _, Below.refl _ _⟩
  case round =>
    obtain ⟨i, k, out, rfl, rfl, hat, hown, hb⟩ := hrel
    have hz := hb.size
    have hi := hat.li
    have hk := hat.lk
    have ho := hat.len
    by_cases h1 : i < n
    · obtain ⟨ad, rfl, hc⟩ := (hr.below hb).at_ h1
      by_cases h2 : k < m
      · obtain ⟨bd, rfl, hd⟩ := (hs.below hb).at_ h2
        have hL := mrg_left (xs := xs) (ys := ys) (i := i) (k := k) (by omega)
        have hR := mrg_right (xs := xs) (ys := ys) (i := i) (k := k) (by omega)
        have hB := mrg_both (xs := xs) (ys := ys) (i := i) (k := k) (by omega) (by omega)
        generalize xs.getD i 0 = x at hc hL hR hB
        generalize ys.getD k 0 = y at hd hL hR hB
        have HAT := Lib.hid hat; clear hat
        have e1 : ((k : Int) == (m : Int)) = false := by rw [beq_eq_false_iff_ne]; omega
        have e2 : ((i : Int) == (n : Int)) = false := by rw [beq_eq_false_iff_ne]; omega
        have e3 : decide (i < n) = true := by rw [decide_eq_true_iff]; exact h1
        clear hr hs
        by_cases hxy : x < y
        · have HL := Lib.hid (hL (Or.inr ⟨hxy, by omega⟩)); clear hL hR hB
          go_wp2
          go_quiet (fail)
          go_wp2_with (at_builtin; refine wpList_push _ _ w.heap.size _ _ _ rfl rfl rfl rfl (hown.drewN _) (by omega) (by simp; omega) ?_; intro v2 w2 hown2 hb2)
          go_roundw
          case rel => exact ⟨i + 1, k, _, by go_num, by go_num, ⟨by rw [← HAT.out.eq, HL.out]; simp, by omega, by omega, by simp; omega⟩, hown2, (hb.trans (below_drewN (Below.refl _ _) _)).trans hb2⟩
          case measure => simp [intOf]; omega
        · by_cases hyx : y < x
          · have HL := Lib.hid (hR (Or.inr ⟨hyx, by omega⟩)); clear hL hR hB
            go_wp2
            go_quiet (fail)
            go_wp2
            go_quiet (fail)
            go_wp2_with (at_builtin; refine wpList_push _ _ w.heap.size _ _ _ rfl rfl rfl rfl (hown.drewN _) (by omega) (by simp; omega) ?_; intro v2 w2 hown2 hb2)
            go_roundw
            case rel => exact ⟨i, k + 1, _, by go_num, by go_num, ⟨by rw [← HAT.out.eq, HL.out]; simp, by omega, by omega, by simp; omega⟩, hown2, (hb.trans (below_drewN (Below.refl _ _) _)).trans hb2⟩
            case measure => simp [intOf]; omega
          · have hE : x = y := by omega
            have HL := Lib.hid (hB hE); clear hL hR hB
            subst hE
            go_wp2
            go_quiet (fail)
            go_wp2
            go_quiet (fail)
            go_wp2_with (at_builtin; refine wpList_push _ _ w.heap.size _ _ _ rfl rfl rfl rfl (hown.drewN _) (by omega) (by simp; omega) ?_; intro v2 w2 hown2 hb2)
            go_roundw
            case rel => exact ⟨i + 1, k + 1, _, by go_num, by go_num, ⟨by rw [← HAT.out.eq, HL.out]; simp, by omega, by omega, by simp; omega⟩, hown2, (hb.trans (below_drewN (Below.refl _ _) _)).trans hb2⟩
            case measure => simp [intOf]; omega
      · have hL := mrg_left (xs := xs) (ys := ys) (i := i) (k := k) (by omega) (Or.inl (by omega))
        generalize xs.getD i 0 = x at hc hL
        have HL := Lib.hid hL; clear hL
        have HAT := Lib.hid hat; clear hat
        have e1 : ((k : Int) == (m : Int)) = true := by rw [beq_iff_eq]; omega
        have e3 : decide (i < n) = true := by rw [decide_eq_true_iff]; exact h1
        clear hr hs
        go_wp2
        go_quiet (fail)
        go_wp2_with (at_builtin; refine wpList_push _ _ w.heap.size _ _ _ rfl rfl rfl rfl (hown.drewN _) (by omega) (by simp; omega) ?_; intro v2 w2 hown2 hb2)
        go_roundw
        case rel => exact ⟨i + 1, k, _, by go_num, by go_num, ⟨by rw [← HAT.out.eq, HL.out]; simp, by omega, by omega, by simp; omega⟩, hown2, (hb.trans (below_drewN (Below.refl _ _) _)).trans hb2⟩
        case measure => simp [intOf]; omega
    · by_cases h2 : k < m
      · obtain ⟨bd, rfl, hd⟩ := (hs.below hb).at_ h2
        have hR := mrg_right (xs := xs) (ys := ys) (i := i) (k := k) (by omega) (Or.inl (by omega))
        generalize ys.getD k 0 = y at hd hR
        have HL := Lib.hid hR; clear hR
        have HAT := Lib.hid hat; clear hat
        have e1 : ((k : Int) == (m : Int)) = false := by rw [beq_eq_false_iff_ne]; omega
        have e2 : ((i : Int) == (n : Int)) = true := by rw [beq_iff_eq]; omega
        have e3 : decide (i < n) = false := by rw [decide_eq_false_iff_not]; exact h1
        clear hr hs
        go_wp2
        go_quiet (fail)
        go_wp2
        go_quiet (fail)
        go_wp2_with (at_builtin; refine wpList_push _ _ w.heap.size _ _ _ rfl rfl rfl rfl (hown.drewN _) (by omega) (by simp; omega) ?_; intro v2 w2 hown2 hb2)
        go_roundw
        case rel => exact ⟨i, k + 1, _, by go_num, by go_num, ⟨by rw [← HAT.out.eq, HL.out]; simp, by omega, by omega, by simp; omega⟩, hown2, (hb.trans (below_drewN (Below.refl _ _) _)).trans hb2⟩
        case measure => simp [intOf]; omega
      · have he := hat.eq
        rw [List.drop_eq_nil_of_le (by omega), List.drop_eq_nil_of_le (by omega), nil_mrg, List.append_nil] at he
        have HE := Lib.hid he; clear he hat
        clear hr hs
        go_wp2
        go_ret
        have := hown.gives hb
        rw [HE.out] at this
        exact this

theorem ofP_has (l : List Int) (x : Int) (h0 : 0 ≤ x) (h1 : x < 4096) : x ∈ ei (ofP l) ↔ x ∈ l := by
  rw [mem_ei]
  unfold ofP
  rw [decide_eq_true_iff, Int.toNat_of_nonneg h0]
  exact ⟨fun h => h.2.2, fun h => ⟨h0, h1, h⟩⟩
theorem ei_snoc_old (l : List Int) (x : Int) (h : ¬ (0 ≤ x ∧ x < 4096) ∨ x ∈ l) : ei (ofP (l ++ [x])) = ei (ofP l) := by
  refine ei_congr fun n hn => ?_
  unfold ofP
  rw [decide_eq_decide, List.mem_append, List.mem_singleton]
  constructor
  · rintro (h2 | h2)
    · exact h2
    · rcases h with h | h
      · omega
      · rw [h2]; exact h
  · exact Or.inl
theorem ei_snoc_new {l : List Int} {x : Int} {A B : List Int} (h0 : 0 ≤ x) (h1 : x < 4096) (e : ei (ofP l) = A ++ B) (hA : ∀ y ∈ A, y < x) (hB : ∀ y ∈ B, x < y) : ei (ofP (l ++ [x])) = A ++ x :: B := by
  symm
  refine eq_ei (insert_sorted (by rw [← e]; exact ei_sorted _) hA hB) fun y => ?_
  have hm := mem_ei (ofP l) y
  rw [e, List.mem_append] at hm
  rw [List.mem_append, List.mem_cons]
  have e2 : ofP (l ++ [x]) y.toNat = true ↔ (ofP l y.toNat = true ∨ ((y.toNat : Nat) : Int) = x) := by
    unfold ofP
    simp only [decide_eq_true_eq, List.mem_append, List.mem_singleton]
  rw [e2]
  constructor
  · rintro (h | h | h)
    · have := hm.1 (Or.inl h); exact ⟨this.1, this.2.1, Or.inl this.2.2⟩
    · subst h; exact ⟨h0, h1, Or.inr (by omega)⟩
    · have := hm.1 (Or.inr h); exact ⟨this.1, this.2.1, Or.inl this.2.2⟩
  · rintro ⟨a, b, c | c⟩
    · rcases hm.2 ⟨a, b, c⟩ with h | h
      · exact Or.inl h
      · exact Or.inr (Or.inr h)
    · exact Or.inr (Or.inl (by omega))

set_option maxRecDepth 100000 in
set_option maxHeartbeats 1000000 in
theorem rof_any (A : Option Addr) (c n : Nat) (xs : List Int) (w : World) (hr : Rd w A n xs) (hn : n ≤ 400000) :
    Calls Tryd.prog 13 #[.slice A n c] w (Gives w (ei (ofP xs))) := by
  have hl1 : n ≤ xs.length := Nat.le_of_eq hr.1
  have hl2 : xs.length ≤ n := Nat.le_of_eq hr.1.symm
  go_enter Tryd.func13, Tryd.ntmps13
  go_wp2
  go_loopw [3, 12] (fun v i w' => ∃ k : Nat, i = .int .i64 k ∧ k ≤ n ∧ OwnI w' w.heap.size v (ei (ofP (xs.take k))) ∧ Below w.heap.size w w') (fun _ i _ => n - (intOf i).toNat)
  case atStart => exact ⟨0, rfl, by omega, OwnI.nil _ _, Below.refl _ _⟩
  case round =>
    obtain ⟨k, rfl, hk, hown, hb⟩ := hrel
    have hz := hb.size
    have hel : (ei (ofP (xs.take k))).length ≤ 4096 := by rw [ei_length]; exact els_length _
    by_cases hlt : k < n
    · obtain ⟨ad, rfl, hc⟩ := (hr.below hb).at_ hlt
      have ht := take_next xs k (by omega)
      generalize xs.getD k 0 = x at hc ht
      have HT := Lib.hid ht; clear ht
      obtain ⟨Ao, co, rfl⟩ := hown.slice
      have hro := hown.rd
      clear hr
      by_cases hx : 0 ≤ x ∧ x < 4096
      · obtain ⟨hx0, hx1⟩ := hx
        have hof := ofP_has (xs.take k) x hx0 hx1
        by_cases hin : x ∈ ei (ofP (xs.take k))
        · have hd : decide (x ∈ ei (ofP (xs.take k))) = true := decide_eq_true hin
          have he := ei_snoc_old (xs.take k) x (Or.inr (hof.1 hin))
          have HE := Lib.hid he; clear he hof hin
          go_wp2_with (go_at_call 16; refine (rhas_any _ _ _ _ _ _ hro (by omega)).mono ?_; rintro e w' ⟨rfl, rfl⟩)
          go_roundw
          case rel => exact ⟨k + 1, by go_num, by omega, by rw [HT.out, HE.out]; exact hown, hb⟩
          case measure => simp [intOf]; omega
        · have hd : decide (x ∈ ei (ofP (xs.take k))) = false := decide_eq_false hin
          obtain ⟨P, S, he, hP, hS⟩ := split_at x _ (ei_sorted (ofP (xs.take k))) hin
          have hnew := ei_snoc_new hx0 hx1 he hP hS
          have HN := Lib.hid hnew; clear hnew hof hin
          generalize ei (ofP (xs.take k)) = E at hown hro hel hd he ⊢
          have hlen3 : E.length = P.length + S.length := by rw [he, List.length_append]
          have hlen1 : E.length ≤ P.length + S.length := Nat.le_of_eq hlen3
          have hlen2 : P.length + S.length ≤ E.length := Nat.le_of_eq hlen3.symm
          clear hlen3
          have HE := Lib.hid he; clear he
          have HP := Lib.hid hP; clear hP
          have HS := Lib.hid hS; clear hS
          go_wp2_with (go_at_call 16; refine (rhas_any _ _ _ _ _ _ hro (by omega)).mono ?_; rintro e w' ⟨rfl, rfl⟩)
          obtain ⟨wo, rfl⟩ : ∃ wo : World, wo = wr := ⟨_, rfl⟩
          go_loopw [6, 7, 29] (fun nx pt j w' => ∃ t : Nat, j = .int .i64 t ∧ t ≤ E.length ∧ pt = .bool (decide (P.length < t)) ∧ OwnI w' wo.heap.size nx (built x P S t) ∧ Below wo.heap.size wo w') (fun _ _ j _ => E.length - (intOf j).toNat)
          case atStart => exact ⟨0, rfl, by omega, rfl, by rw [built_zero]; exact OwnI.nil _ _, Below.refl _ _⟩
          case round =>
            obtain ⟨t, rfl, ht, rfl, hnx, hbo⟩ := hrel
            have hzo := hbo.size
            have hbl := built_length x P S t
            rw [List.length_append] at hbl
            by_cases htl : t < E.length
            · obtain ⟨ad2, rfl, hc2⟩ := (hro.below hbo).at_ htl
              by_cases hlow : t < P.length
              · have hy := HP.out _ (at_low (B := S) hlow)
                have hbs := built_low (m := x) (B := S) hlow
                rw [← HE.out] at hy hbs
                generalize E.getD t 0 = y at hc2 hy hbs
                have HB := Lib.hid hbs; clear hbs
                have hp : decide (P.length < t) = false := by rw [decide_eq_false_iff_not]; omega
                have hp2 : decide (P.length < t + 1) = false := by rw [decide_eq_false_iff_not]; omega
                have HP2 := Lib.hid hp2; clear hp2
                go_wp2_with (at_builtin; refine wpList_push _ _ wo.heap.size _ _ _ rfl rfl rfl rfl hnx (by omega) (by omega) ?_; intro v2 w2 hown2 hb2)
                go_roundw
                case rel => exact ⟨t + 1, by go_num, by omega, by rw [HP2.out], by rw [HB.out]; exact hown2, hbo.trans hb2⟩
                case measure => simp [intOf]; omega
              · have hy := HS.out _ (at_high (A := P) (j := t) (by omega) (by rw [List.length_append]; omega))
                rw [← HE.out] at hy
                have hp2 : decide (P.length < t + 1) = true := by rw [decide_eq_true_iff]; omega
                have HP2 := Lib.hid hp2; clear hp2
                by_cases heq : t = P.length
                · have hbs := built_turn (m := x) (B := S) heq (by rw [List.length_append]; omega)
                  rw [← HE.out] at hbs
                  generalize E.getD t 0 = y at hc2 hy hbs
                  have HB := Lib.hid hbs; clear hbs
                  have hp : decide (P.length < t) = false := by rw [decide_eq_false_iff_not]; omega
                  clear heq
                  go_wp2_with (first | (at_builtin; refine wpList_push _ _ wo.heap.size _ _ _ rfl rfl rfl rfl hown2 (by simp; omega) (by have := hb2.size; omega) ?_; intro v3 w3 hown3 hb3) | (at_builtin; refine wpList_push _ _ wo.heap.size _ _ _ rfl rfl rfl rfl hnx (by omega) (by omega) ?_; intro v2 w2 hown2 hb2))
                  go_roundw
                  case rel => exact ⟨t + 1, by go_num, by omega, by rw [HP2.out], by rw [HB.out]; exact hown3, (hbo.trans hb2).trans hb3⟩
                  case measure => simp [intOf]; omega
                · have hbs := built_high (m := x) (A := P) (B := S) (j := t) (by omega) (by rw [List.length_append]; omega)
                  rw [← HE.out] at hbs
                  generalize E.getD t 0 = y at hc2 hy hbs
                  have HB := Lib.hid hbs; clear hbs
                  have hp : decide (P.length < t) = true := by rw [decide_eq_true_iff]; omega
                  go_wp2_with (at_builtin; refine wpList_push _ _ wo.heap.size _ _ _ rfl rfl rfl rfl hnx (by omega) (by omega) ?_; intro v2 w2 hown2 hb2)
                  go_roundw
                  case rel => exact ⟨t + 1, by go_num, by omega, by rw [HP2.out], by rw [HB.out]; exact hown2, hbo.trans hb2⟩
                  case measure => simp [intOf]; omega
            · have hbe : built x P S t = if P.length < t then P ++ x :: S else P := by
                unfold built
                by_cases h : P.length < t
                · rw [if_neg (by omega), if_pos h, List.take_of_length_le (by omega)]
                · rw [if_pos (by omega), if_neg h, List.take_of_length_le (by omega)]
              by_cases hput : P.length < t
              · rw [if_pos hput] at hbe
                rw [hbe] at hnx
                have hp : decide (P.length < t) = true := by rw [decide_eq_true_iff]; omega
                clear hbe hbl
                go_wp2
                go_roundw
                case rel => exact ⟨k + 1, by go_num, by omega, by rw [HT.out, HN.out]; exact hnx.mono hz, hb.trans (hbo.mono hz)⟩
                case measure => simp [intOf]; omega
              · rw [if_neg hput] at hbe
                rw [hbe] at hnx
                have hS0 : S = [] := by
                  exact List.eq_nil_of_length_eq_zero (by omega)
                have hp : decide (P.length < t) = false := by rw [decide_eq_false_iff_not]; omega
                have hPl : P.length ≤ 4096 := by omega
                have HS0 := Lib.hid hS0
                clear hbe hbl hS0
                go_wp2_with (at_builtin; refine wpList_push _ _ wo.heap.size _ _ _ rfl rfl rfl rfl hnx (by omega) (by omega) ?_; intro v2 w2 hown2 hb2)
                go_roundw
                case rel => exact ⟨k + 1, by go_num, by omega, by rw [HT.out, HN.out, HS0.out]; exact hown2.mono hz, hb.trans ((hbo.trans hb2).mono hz)⟩
                case measure => simp [intOf]; omega
      · have he := ei_snoc_old (xs.take k) x (Or.inl hx)
        have HE := Lib.hid he; clear he
        by_cases hx0 : x < 0
        · go_wp2
          go_roundw
          case rel => exact ⟨k + 1, by go_num, by omega, by rw [HT.out, HE.out]; exact hown, hb⟩
          case measure => simp [intOf]; omega
        · have hx1 : 4096 ≤ x := by omega
          go_wp2
          go_roundw
          case rel => exact ⟨k + 1, by go_num, by omega, by rw [HT.out, HE.out]; exact hown, hb⟩
          case measure => simp [intOf]; omega
    · have e : xs.take k = xs := List.take_of_length_le (by omega)
      rw [e] at hown
      clear e hr hel
      go_wp2
      go_ret
      exact hown.gives hb

end Go.Proofs.YtggalncjookkiaaDoor
