/- The reference's reader of times. -/
import Derived.Test.YtpndgjhednfpdaaDoorW6
namespace Go.Proofs.YtpndgjhednfpdaaDoor
open Go.RowKit Go.Lib Go.Sort Clk

def DayOk (d : Int) : Prop := 0 ≤ d ∧ d ≤ 1000000000000009

theorem day_round {l : Bs} {k : Nat} {d d' : Int} (hlt : k < l.length) (HF : Hid ((l.take k).foldlM dayStep 0 = some d)) (hs : dayStep d ((⟨l.toArray⟩ : ByteArray)[k]'hlt) = some d') : Hid ((l.take (k + 1)).foldlM dayStep 0 = some d') := by
  show _ = _
  have hs' : dayStep d (l[k]'hlt) = some d' := hs
  rw [take_snoc' l k hlt, List.foldlM_append, HF.out]
  simp [hs']

theorem day_stop {l : Bs} {k n : Nat} {d : Int} (hlt : k < l.length) (hn : k < n) (HF : Hid ((l.take k).foldlM dayStep 0 = some d)) (hs : dayStep d ((⟨l.toArray⟩ : ByteArray)[k]'hlt) = none) : (l.take n).foldlM dayStep 0 = none := by
  have hs' : dayStep d (l[k]'hlt) = none := hs
  have e : l.take n = l.take k ++ (l[k]'hlt :: (l.take n).drop (k + 1)) := by
    have h1 : (l.take n).take k = l.take k := by rw [List.take_take]; congr 1; omega
    have h2 : k < (l.take n).length := by simp; omega
    have h3 : (l.take n)[k]'h2 = l[k]'hlt := by simp
    rw [← h1, ← h3, ← List.drop_eq_getElem_cons h2, List.take_append_drop]
  rw [e, List.foldlM_append, HF.out, Option.bind_eq_bind, Option.bind_some, List.foldlM_cons, hs']
  rfl

theorem sec_cell (w : World) (k : Nat) (hk : k < 8) (T : TypeId) : (w.alloc (Obj.cells #[Value.int IntKind.i64 36000, Value.int IntKind.i64 3600, Value.int IntKind.i64 0, Value.int IntKind.i64 600, Value.int IntKind.i64 60, Value.int IntKind.i64 0, Value.int IntKind.i64 10, Value.int IntKind.i64 1] T)).cell? ⟨w.heap.size, k, none⟩ = some (.int .i64 (secBy.getD k 0)) := by
  rw [cell_of_row _ _ k _ _ _ (heap_alloc_new w _)]
  match k, hk with
  | 0, _ => rfl
  | 1, _ => rfl
  | 2, _ => rfl
  | 3, _ => rfl
  | 4, _ => rfl
  | 5, _ => rfl
  | 6, _ => rfl
  | 7, _ => rfl

theorem secBy_bd (k : Nat) : 0 ≤ secBy.getD k 0 ∧ secBy.getD k 0 ≤ 36000 := by
  match k with
  | 0 => decide
  | 1 => decide
  | 2 => decide
  | 3 => decide
  | 4 => decide
  | 5 => decide
  | 6 => decide
  | 7 => decide
  | k + 8 => simp [secBy]

theorem sec_zip (T : Bs) (k : Nat) (hk : k < 8) (hk' : k < T.length) : (secBy.zip T)[k]? = some (secBy.getD k 0, T[k]'hk') := by
  have h1 : secBy[k]? = some (secBy.getD k 0) := by
    match k, hk with
    | 0, _ => rfl
    | 1, _ => rfl
    | 2, _ => rfl
    | 3, _ => rfl
    | 4, _ => rfl
    | 5, _ => rfl
    | 6, _ => rfl
    | 7, _ => rfl
  rw [List.getElem?_zip_eq_some]
  exact ⟨h1, List.getElem?_eq_getElem hk'⟩

theorem sec_round {T : Bs} {k : Nat} {s s' : Int} (hk : k < 8) (hlt : k < T.length) (HF : Hid (((secBy.zip T).take k).foldlM secStep 0 = some s)) (hs : secStep s (secBy.getD k 0, (⟨T.toArray⟩ : ByteArray)[k]'hlt) = some s') : Hid (((secBy.zip T).take (k + 1)).foldlM secStep 0 = some s') := by
  show _ = _
  have hz := sec_zip T k hk hlt
  have hs' : secStep s (secBy.getD k 0, T[k]'hlt) = some s' := hs
  rw [List.take_add_one, hz, List.foldlM_append, HF.out, Option.bind_eq_bind, Option.bind_some, Option.toList_some, List.foldlM_cons, hs']
  rfl

theorem sec_stop {T : Bs} {k : Nat} {s : Int} (hk : k < 8) (hlt : k < T.length) (HF : Hid (((secBy.zip T).take k).foldlM secStep 0 = some s)) (hs : secStep s (secBy.getD k 0, (⟨T.toArray⟩ : ByteArray)[k]'hlt) = none) : secs T = none := by
  have hz := sec_zip T k hk hlt
  have hs' : secStep s (secBy.getD k 0, T[k]'hlt) = none := hs
  obtain ⟨hkz, hz2⟩ := List.getElem?_eq_some_iff.1 hz
  have e : secBy.zip T = (secBy.zip T).take k ++ ((secBy.getD k 0, T[k]'hlt) :: (secBy.zip T).drop (k + 1)) := by
    rw [← hz2, ← List.drop_eq_getElem_cons hkz, List.take_append_drop]
  unfold secs
  rw [e, List.foldlM_append, HF.out, Option.bind_eq_bind, Option.bind_some, List.foldlM_cons, hs']
  rfl

theorem ext_drop (l : Bs) : (⟨l.toArray⟩ : ByteArray).extract (l.length - 8) l.length = ⟨(l.drop (l.length - 8)).toArray⟩ := by
  rw [extract_eq]
  congr 2
  exact List.take_of_length_le (by simp)

/-- What is left of samaritanref01.clock behind its first loop. -/
def clkRest (T : Bs) (x : Int) : Int := match secs T with | none => -1 | some sum => worth sum 86400 x

theorem clk_of (l : Bs) (h11 : ¬ l.length < 11) (h30 : ¬ 30 < l.length) (x : Int) (h : (l.take (l.length - 10)).foldlM dayStep 0 = some x) : clk l = clkRest (l.drop (l.length - 8)) x := by
  unfold clk clkRest
  rw [if_neg (by omega), h]
  cases secs (l.drop (l.length - 8)) <;> rfl

theorem mul_bd (b c : Int) (h0 : 0 ≤ b) (h1 : b ≤ 36000) (c0 : -48 ≤ c) (c1 : c ≤ 255) : -10000000 ≤ b * c ∧ b * c ≤ 10000000 := by
  have h2 : b * c ≤ b * 255 := Int.mul_le_mul_of_nonneg_left c1 h0
  have h3 : b * (-48) ≤ b * c := Int.mul_le_mul_of_nonneg_left c0 h0
  omega

set_option maxRecDepth 100000 in
set_option maxHeartbeats 1000000 in
theorem refClock_any (l : Bs) (w : World) (hl : l.length ≤ 1000) :
    Calls Tryd.prog 31 #[.string ⟨l.toArray⟩] w fun e w' => e = .returned (.int .i64 (clk l)) ∧ Below w.heap.size w w' := by
  by_cases h11 : l.length < 11
  · go_enter Tryd.func31, Tryd.ntmps31
    go_wp2_with fail
    go_ret
    exact ⟨ret_i (by unfold clk; rw [if_pos (Or.inl h11)]), Below.refl _ _⟩
  by_cases h30 : 30 < l.length
  · go_enter Tryd.func31, Tryd.ntmps31
    go_wp2_with fail
    go_ret
    exact ⟨ret_i (by unfold clk; rw [if_pos (Or.inr h30)]), Below.refl _ _⟩
  go_enter Tryd.func31, Tryd.ntmps31
  go_wp2_with fail
  go_loop [3, 4] (fun d i => ∃ (k : Nat) (x : Int), k ≤ l.length - 10 ∧ i = .int .i64 k ∧ d = .int .i64 x ∧ Hid ((l.take k).foldlM dayStep 0 = some x) ∧ DayOk x) (fun _ i => l.length - (RowKit.intOf i).toNat)
  case atStart => exact ⟨0, 0, Nat.zero_le _, rfl, rfl, rfl, by unfold DayOk; omega⟩
  case round =>
    obtain ⟨k, x, hk, rfl, rfl, HF, o1, o2⟩ := hrel
    by_cases hlt : k < l.length - 10
    · have hlt' : k < l.length := by omega
      have hb1 : (0 : Int) ≤ (((⟨l.toArray⟩ : ByteArray)[k]'hlt').toNat : Int) := by omega
      have hb2 : (((⟨l.toArray⟩ : ByteArray)[k]'hlt').toNat : Int) ≤ 255 := by have := UInt8.toNat_lt ((⟨l.toArray⟩ : ByteArray)[k]'hlt'); omega
      by_cases hbad : (((⟨l.toArray⟩ : ByteArray)[k]'hlt').toNat : Int) < 48 ∨ 57 < (((⟨l.toArray⟩ : ByteArray)[k]'hlt').toNat : Int) ∨ 100000000000000 < x
      · have hday := day_stop (n := l.length - 10) hlt' hlt HF (by unfold dayStep; rw [if_pos (by omega)])
        have HD := Lib.hid hday; clear hday
        rcases hbad with hb | hb | hb
        all_goals
          go_wp2_with fail
          all_goals go_ret
          all_goals exact ⟨ret_i (by unfold clk; rw [if_neg (by omega), HD.out]), Below.refl _ _⟩
      · go_wp2_with fail
        exact ⟨⟨k + 1, _, by omega, by go_num, rfl, day_round hlt' HF (by unfold dayStep; rw [if_neg (by omega)]), by unfold DayOk; omega⟩, by simp [RowKit.intOf]; omega⟩
    · obtain rfl : k = l.length - 10 := by omega
      go_wp2_with fail
      rw [ext_drop l]
      have hT : (l.drop (l.length - 8)).length = 8 := by rw [List.length_drop]; omega
      have hclk := clk_of l h11 h30 x HF.out
      have HC := Lib.hid hclk; clear hclk
      generalize l.drop (l.length - 8) = T at *
      have HT := Lib.hid hT
      have hT1 : T.length ≤ 8 := by omega
      have hT2 : 8 ≤ T.length := by omega
      clear hT
      go_loopw [6, 8] (fun d i w' => ∃ (k : Nat) (s : Int), k ≤ 8 ∧ i = .int .i64 k ∧ d = .int .i64 s ∧ Hid (((secBy.zip T).take k).foldlM secStep 0 = some s) ∧ 0 ≤ s ∧ s ≤ 10000000 * (k : Int) ∧ Hid (∀ j, j < 8 → w'.cell? ⟨w.heap.size, j, none⟩ = some (.int .i64 (secBy.getD j 0))) ∧ Below w.heap.size w w') (fun _ i _ => 8 - (RowKit.intOf i).toNat)
      case atStart => exact ⟨0, 0, Nat.zero_le _, rfl, rfl, rfl, by omega, by omega, fun j hj => sec_cell w j hj _, (Below.refl _ _).alloc (Nat.le_refl _) _⟩
      case round =>
        obtain ⟨k, s, hk, rfl, rfl, HS, s1, s2, HCL, hBW⟩ := hrel
        by_cases hlt : k < 8
        · have hlt' : k < T.length := by omega
          have hb1 : (0 : Int) ≤ (((⟨T.toArray⟩ : ByteArray)[k]'hlt').toNat : Int) := by omega
          have hb2 : (((⟨T.toArray⟩ : ByteArray)[k]'hlt').toNat : Int) ≤ 255 := by have := UInt8.toNat_lt ((⟨T.toArray⟩ : ByteArray)[k]'hlt'); omega
          have hcell := HCL.out k hlt
          have hby := secBy_bd k
          generalize hB : secBy.getD k 0 = B at *
          have HB := Lib.hid hB; clear hB
          have hm := mul_bd B ((((⟨T.toArray⟩ : ByteArray)[k]'hlt').toNat : Int) - 48) hby.1 hby.2 (by omega) (by omega)
          by_cases hbad : 0 < B ∧ ((((⟨T.toArray⟩ : ByteArray)[k]'hlt').toNat : Int) < 48 ∨ 57 < (((⟨T.toArray⟩ : ByteArray)[k]'hlt').toNat : Int))
          · have hsec := sec_stop hlt hlt' HS (by rw [HB.out]; unfold secStep; simp only []; rw [if_pos ⟨hbad.1, by omega⟩])
            have HX := Lib.hid hsec; clear hsec
            obtain ⟨hB0, hb | hb⟩ := hbad
            all_goals
              go_wp2_with fail
              all_goals go_ret
              all_goals exact ⟨ret_i (by rw [HC.out]; unfold clkRest; rw [HX.out]), hBW⟩
          · have hgood := sec_round hlt hlt' HS (by rw [HB.out]; unfold secStep; simp only []; rw [if_neg (by omega)])
            by_cases hB0 : 0 < B
            · have hd1 : 48 ≤ (((⟨T.toArray⟩ : ByteArray)[k]'hlt').toNat : Int) := by omega
              have hd2 : (((⟨T.toArray⟩ : ByteArray)[k]'hlt').toNat : Int) ≤ 57 := by omega
              have k0 : (0 : Int) ≤ (k : Int) := by omega
              have k8 : (k : Int) < 8 := by omega
              have k9 : (k : Int) < (T.length : Int) := by omega
              clear hbad
              have hm2 : 0 ≤ B * ((((⟨T.toArray⟩ : ByteArray)[k]'hlt').toNat : Int) - 48) := Int.mul_nonneg hby.1 (by omega)
              go_wp2_with fail
              go_quiet (fail)
              go_wp2_with fail
              go_roundw
              case rel =>
                refine ⟨k + 1, _, by omega, by go_num, ?_, hgood, by omega, by omega, fun j hj => HCL.out j hj, below_drewN hBW _⟩
                rfl
              case measure => simp [RowKit.intOf]; omega
            · have k0 : (0 : Int) ≤ (k : Int) := by omega
              have k8 : (k : Int) < 8 := by omega
              have k9 : (k : Int) < (T.length : Int) := by omega
              clear hbad
              have hm2 : B * ((((⟨T.toArray⟩ : ByteArray)[k]'hlt').toNat : Int) - 48) = 0 := by rw [show B = 0 by omega, Int.zero_mul]
              have HM := Lib.hid hm2; clear hm2
              go_wp2_with fail
              go_quiet (fail)
              go_wp2_with fail
              go_roundw
              case rel =>
                refine ⟨k + 1, _, by omega, by go_num, ?_, hgood, by rw [HM.out]; omega, by rw [HM.out]; omega, fun j hj => HCL.out j hj, below_drewN hBW _⟩
                rfl
              case measure => simp [RowKit.intOf]; omega
        · obtain rfl : k = 8 := by omega
          have hsec : secs T = some s := by
            have h := HS.out
            rw [List.take_of_length_le (by rw [List.length_zip]; simp [secBy]; omega)] at h
            exact h
          have HX := Lib.hid hsec; clear hsec
          go_wp2_with fail
          refine (worth_any _ _ _ _ (by omega) (by omega) (by omega) (by omega) o1 (by omega)).mono ?_
          rintro e w' ⟨rfl, rfl⟩
          go_wp2_with fail
          go_ret
          exact ⟨ret_i (by rw [HC.out]; unfold clkRest; rw [HX.out]), hBW⟩

theorem clk_bd (l : Bs) : clk l ≤ 4611686018427387904 := by
  have dk : ∀ (l : Bs) (d : Int), DayOk d → ∀ p, l.foldlM dayStep d = some p → DayOk p := by
    intro l
    induction l with
    | nil => intro st h p hp; simp only [List.foldlM_nil] at hp; cases hp; exact h
    | cons c r ih =>
      intro st h p hp
      rw [List.foldlM_cons] at hp
      cases hs : dayStep st c with
      | none => rw [hs] at hp; cases hp
      | some st' =>
        rw [hs] at hp
        refine ih st' ?_ p hp
        unfold dayStep at hs
        split at hs
        · cases hs
        · injection hs with hs
          unfold DayOk at *
          have := UInt8.toNat_lt c
          omega
  unfold clk
  split
  · omega
  · split
    · omega
    · rename_i days hd
      have h1 := dk _ 0 (by unfold DayOk; omega) _ hd
      split
      · omega
      · unfold worth
        split
        · omega
        · rename_i sum hs h
          simp only [not_or, Int.not_lt] at h
          have h2 := (Int.le_ediv_iff_mul_le (by omega)).1 h.2
          rw [Int.mul_comm] at h2
          omega

/-- What samaritanref01.Parse returns. -/
def refT (l : Bs) : Int × Int := if l = never then (4611686018427387904, 0) else if clk l < 0 ∨ text (hold (clk l)).toNat ≠ l then (0, 2) else (clk l, 0)

theorem refParse_any (l : Bs) (w : World) (hl : l.length ≤ 1000) :
    Calls Tryd.prog 19 #[.string ⟨l.toArray⟩] w fun e w' => e = .returned (.tuple #[.int .i64 (refT l).1, .int .i64 (refT l).2]) ∧ Below w.heap.size w w' := by
  have hr := clk_bd l
  by_cases hn : l = [110, 101, 118, 101, 114]
  · subst hn
    go_enter Tryd.func19, Tryd.ntmps19
    go_wp2_with (go_at_call 25; refine (never_any _).mono ?_; rintro e w' ⟨rfl, rfl⟩)
    go_ret2
    exact ⟨rfl, Below.refl _ _⟩
  · have hne : (l == [110, 101, 118, 101, 114]) = false := by simpa using hn
    have hn' : ¬ l = never := hn
    go_enter Tryd.func19, Tryd.ntmps19
    by_cases h0 : clk l < 0
    · go_wp2_with (go_at_call 31; refine (refClock_any _ _ hl).mono ?_; rintro e w0 ⟨rfl, b0⟩)
      go_ret2
      exact ⟨ret_2 (by unfold refT; rw [if_neg hn', if_pos (Or.inl h0)]) (by unfold refT; rw [if_neg hn', if_pos (Or.inl h0)]), b0⟩
    · by_cases hs : text (hold (clk l)).toNat = l
      · have hb : (!text (hold (clk l)).toNat == l) = false := by simpa using hs
        have HS := Lib.hid hs; clear hs
        go_wp2_with (first | (go_at_call 31; refine (refClock_any _ _ hl).mono ?_; rintro e w0 ⟨rfl, b0⟩) | (go_at_call 17; refine (refText_any _ _).mono ?_; rintro e w1 ⟨rfl, b1⟩))
        go_ret2
        exact ⟨ret_2 (by unfold refT; rw [if_neg hn', if_neg (by rw [HS.out]; simp; omega)]) (by unfold refT; rw [if_neg hn', if_neg (by rw [HS.out]; simp; omega)]), then_ b0 b1⟩
      · have hb : (!text (hold (clk l)).toNat == l) = true := by simpa using hs
        go_wp2_with (first | (go_at_call 31; refine (refClock_any _ _ hl).mono ?_; rintro e w0 ⟨rfl, b0⟩) | (go_at_call 17; refine (refText_any _ _).mono ?_; rintro e w1 ⟨rfl, b1⟩))
        go_ret2
        exact ⟨ret_2 (by unfold refT; rw [if_neg hn', if_pos (Or.inr hs)]) (by unfold refT; rw [if_neg hn', if_pos (Or.inr hs)]), then_ b0 b1⟩

/-- A reader of loose fields that is held against the formatter agrees with the reference's. -/
theorem agree (txt : Nat → Bs) (r1 r2 : Bs → Int) (hnev : txt 4611686018427387904 = never)
    (h1 : ∀ n, n < 4611686018427387904 → r1 (txt n) = n) (h2 : ∀ n, n < 4611686018427387904 → r2 (txt n) = n) (hn : r1 never = 4611686018427387904) (l : Bs) :
    (if txt (hold (r1 l)).toNat = l then ((r1 l, 0) : Int × Int) else (0, 2)) = (if l = never then (4611686018427387904, 0) else if r2 l < 0 ∨ txt (hold (r2 l)).toNat ≠ l then (0, 2) else (r2 l, 0)) := by
  have hb1 := hold_bd (r1 l)
  have hb2 := hold_bd (r2 l)
  by_cases hl : l = never
  · subst hl
    rw [if_pos rfl, hn, hold_id (by omega) (by omega), if_pos (by exact hnev)]
  · rw [if_neg hl]
    by_cases hA : txt (hold (r1 l)).toNat = l
    · rw [if_pos hA]
      have hlt : (hold (r1 l)).toNat < 4611686018427387904 := by
        rcases Nat.lt_or_ge (hold (r1 l)).toNat 4611686018427387904 with h | h
        · exact h
        · exfalso
          have : (hold (r1 l)).toNat = 4611686018427387904 := by omega
          rw [this, hnev] at hA
          exact hl hA.symm
      have e1 := h1 _ hlt
      have e2 := h2 _ hlt
      rw [hA] at e1 e2
      rw [if_neg (by
        simp only [not_or, Int.not_lt]
        refine ⟨by omega, fun h => h ?_⟩
        rw [e2, ← e1, hA])]
      rw [e1, e2]
    · rw [if_neg hA]
      by_cases hB : r2 l < 0 ∨ txt (hold (r2 l)).toNat ≠ l
      · rw [if_pos hB]
      · exfalso
        have hB' : txt (hold (r2 l)).toNat = l := Classical.byContradiction fun h => hB (Or.inr h)
        have hlt : (hold (r2 l)).toNat < 4611686018427387904 := by
          rcases Nat.lt_or_ge (hold (r2 l)).toNat 4611686018427387904 with h | h
          · exact h
          · exfalso
            have : (hold (r2 l)).toNat = 4611686018427387904 := by omega
            rw [this, hnev] at hB'
            exact hl hB'.symm
        have e1 := h1 _ hlt
        rw [hB'] at e1
        apply hA
        rw [e1, hold_id (by omega) (by omega)]
        exact hB'

theorem pT_ref (l : Bs) : pT l = refT l := agree text readT clk (by unfold text; rw [if_pos rfl]) readT_text clk_text (by unfold readT; rw [if_pos rfl]) l
theorem pD_ref (l : Bs) : pD l = refD l := agree span readD rd (by unfold span; rw [if_pos rfl]) readD_span rd_span (by unfold readD; rw [if_pos rfl]) l

end Go.Proofs.YtpndgjhednfpdaaDoor
