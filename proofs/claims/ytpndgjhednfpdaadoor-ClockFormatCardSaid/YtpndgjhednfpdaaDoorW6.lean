/- The reference's readers. -/
import Derived.Test.YtpndgjhednfpdaaDoorW5
namespace Go.Proofs.YtpndgjhednfpdaaDoor
open Go.RowKit Go.Lib Go.Sort Clk

theorem take_snoc' (l : Bs) (k : Nat) (h : k < l.length) : l.take (k + 1) = l.take k ++ [l[k]] := List.take_succ_eq_append_getElem h

theorem rd_round {l : Bs} {k : Nat} {st st' : Int × Int} (hlt : k < l.length) (HF : Hid ((l.take k).foldlM rdStep (0, 0) = some st)) (ok : RdOk st) (hs : rdStep st ((⟨l.toArray⟩ : ByteArray)[k]'hlt) = some st') : Hid ((l.take (k + 1)).foldlM rdStep (0, 0) = some st') ∧ RdOk st' := by
  refine ⟨?_, rdStep_ok ok hs⟩
  show _ = _
  have hs' : rdStep st (l[k]'hlt) = some st' := hs
  rw [take_snoc' l k hlt, List.foldlM_append, HF.out]
  simp [hs']

theorem rd_stop {l : Bs} {k : Nat} {st : Int × Int} (hlt : k < l.length) (HF : Hid ((l.take k).foldlM rdStep (0, 0) = some st)) (hs : rdStep st ((⟨l.toArray⟩ : ByteArray)[k]'hlt) = none) : rd l = -1 := by
  have hs' : rdStep st (l[k]'hlt) = none := hs
  have e : l = l.take k ++ (l[k]'hlt :: l.drop (k + 1)) := by
    rw [← List.drop_eq_getElem_cons hlt, List.take_append_drop]
  unfold rd
  rw [e, List.foldlM_append, HF.out, Option.bind_eq_bind, Option.bind_some, List.foldlM_cons, hs']
  rfl

set_option maxHeartbeats 1000000 in
theorem refRead_any (l : Bs) (w : World) (hl : l.length ≤ 1000) :
    Calls Tryd.prog 34 #[.string ⟨l.toArray⟩] w fun e w' => e = .returned (.int .i64 (rd l)) ∧ w = w' := by
  go_enter Tryd.func34, Tryd.ntmps34
  go_wp2_with fail
  go_loop [3, 4, 5] (fun s n i => ∃ (k : Nat) (st : Int × Int), k ≤ l.length ∧ i = .int .i64 k ∧ s = .int .i64 st.1 ∧ n = .int .i64 st.2 ∧ Hid ((l.take k).foldlM rdStep (0, 0) = some st) ∧ RdOk st) (fun _ _ i => l.length - (RowKit.intOf i).toNat)
  case atStart => exact ⟨0, (0, 0), Nat.zero_le _, rfl, rfl, rfl, rfl, by unfold RdOk; omega⟩
  case round =>
    obtain ⟨k, ⟨sum, n⟩, hk, rfl, rfl, rfl, HF, ok⟩ := hrel
    obtain ⟨o1, o2, o3, o4⟩ := ok
    simp only [] at o1 o2 o3 o4
    by_cases hlt : k < l.length
    · have hb1 : (0 : Int) ≤ (((⟨l.toArray⟩ : ByteArray)[k]'hlt).toNat : Int) := by omega
      have hb2 : (((⟨l.toArray⟩ : ByteArray)[k]'hlt).toNat : Int) ≤ 255 := by have := UInt8.toNat_lt ((⟨l.toArray⟩ : ByteArray)[k]'hlt); omega
      go_wp2_with (go_at_call 38; refine (worth_any _ _ _ _ o1 o2 (by omega) (by omega) o3 o4).mono ?_; rintro e w' ⟨rfl, rfl⟩)
      · go_ret
        exact ⟨ret_i (rd_stop hlt HF (by unfold rdStep; simp only []; (repeat' split) <;> first | rfl | (exfalso; omega))).symm, rfl⟩
      · obtain ⟨h1, h2⟩ := rd_round hlt HF ⟨o1, o2, o3, o4⟩ (st' := (sum, 10 * n + (((⟨l.toArray⟩ : ByteArray)[k]'hlt).toNat : Int) - 48)) (by unfold rdStep; simp only []; (repeat' split) <;> first | rfl | (exfalso; omega))
        exact ⟨⟨k + 1, _, by omega, by go_num, rfl, rfl, h1, h2⟩, by simp [RowKit.intOf]; omega⟩
      · skip
        have e104 := beq_iff_eq.1 (show ((((⟨l.toArray⟩ : ByteArray)[k]'hlt).toNat : Int) == 104) = true by assumption)
        obtain ⟨h1, h2⟩ := rd_round hlt HF ⟨o1, o2, o3, o4⟩ (st' := (worth sum 3600 n, 0)) (by unfold rdStep; simp only []; (repeat' split) <;> first | rfl | (exfalso; omega))
        exact ⟨⟨k + 1, _, by omega, by go_num, rfl, rfl, h1, h2⟩, by simp [RowKit.intOf]; omega⟩
      · skip
        have e104 := beq_eq_false_iff_ne.1 (show ((((⟨l.toArray⟩ : ByteArray)[k]'hlt).toNat : Int) == 104) = false by assumption)
        have e109 := beq_iff_eq.1 (show ((((⟨l.toArray⟩ : ByteArray)[k]'hlt).toNat : Int) == 109) = true by assumption)
        obtain ⟨h1, h2⟩ := rd_round hlt HF ⟨o1, o2, o3, o4⟩ (st' := (worth sum 60 n, 0)) (by unfold rdStep; simp only []; (repeat' split) <;> first | rfl | (exfalso; omega))
        exact ⟨⟨k + 1, _, by omega, by go_num, rfl, rfl, h1, h2⟩, by simp [RowKit.intOf]; omega⟩
      · skip
        have e104 := beq_eq_false_iff_ne.1 (show ((((⟨l.toArray⟩ : ByteArray)[k]'hlt).toNat : Int) == 104) = false by assumption)
        have e109 := beq_eq_false_iff_ne.1 (show ((((⟨l.toArray⟩ : ByteArray)[k]'hlt).toNat : Int) == 109) = false by assumption)
        have e115 := beq_iff_eq.1 (show ((((⟨l.toArray⟩ : ByteArray)[k]'hlt).toNat : Int) == 115) = true by assumption)
        obtain ⟨h1, h2⟩ := rd_round hlt HF ⟨o1, o2, o3, o4⟩ (st' := (worth sum 1 n, 0)) (by unfold rdStep; simp only []; (repeat' split) <;> first | rfl | (exfalso; omega))
        exact ⟨⟨k + 1, _, by omega, by go_num, rfl, rfl, h1, h2⟩, by simp [RowKit.intOf]; omega⟩
      · skip
        have e104 := beq_eq_false_iff_ne.1 (show ((((⟨l.toArray⟩ : ByteArray)[k]'hlt).toNat : Int) == 104) = false by assumption)
        have e109 := beq_eq_false_iff_ne.1 (show ((((⟨l.toArray⟩ : ByteArray)[k]'hlt).toNat : Int) == 109) = false by assumption)
        have e115 := beq_eq_false_iff_ne.1 (show ((((⟨l.toArray⟩ : ByteArray)[k]'hlt).toNat : Int) == 115) = false by assumption)
        obtain ⟨h1, h2⟩ := rd_round hlt HF ⟨o1, o2, o3, o4⟩ (st' := (sum, n)) (by unfold rdStep; simp only []; (repeat' split) <;> first | rfl | (exfalso; omega))
        exact ⟨⟨k + 1, _, by omega, by go_num, rfl, rfl, h1, h2⟩, by simp [RowKit.intOf]; omega⟩
      · skip
        have e104 := beq_eq_false_iff_ne.1 (show ((((⟨l.toArray⟩ : ByteArray)[k]'hlt).toNat : Int) == 104) = false by assumption)
        have e109 := beq_eq_false_iff_ne.1 (show ((((⟨l.toArray⟩ : ByteArray)[k]'hlt).toNat : Int) == 109) = false by assumption)
        have e115 := beq_eq_false_iff_ne.1 (show ((((⟨l.toArray⟩ : ByteArray)[k]'hlt).toNat : Int) == 115) = false by assumption)
        obtain ⟨h1, h2⟩ := rd_round hlt HF ⟨o1, o2, o3, o4⟩ (st' := (sum, n)) (by unfold rdStep; simp only []; (repeat' split) <;> first | rfl | (exfalso; omega))
        exact ⟨⟨k + 1, _, by omega, by go_num, rfl, rfl, h1, h2⟩, by simp [RowKit.intOf]; omega⟩
    · obtain rfl : k = l.length := by omega
      go_wp2_with fail
      go_ret
      refine ⟨ret_i ?_, rfl⟩
      have h := HF.out
      rw [List.take_length] at h
      unfold rd; rw [h]

/-- What Length returns. -/
def refD (l : Bs) : Int × Int := if l = never then (4611686018427387904, 0) else if rd l < 0 ∨ span (hold (rd l)).toNat ≠ l then (0, 2) else (rd l, 0)

theorem rd_bd (l : Bs) : -1 ≤ rd l ∧ rd l ≤ 4611686018427387904 := by
  have key : ∀ (l : Bs) (st : Int × Int), RdOk st → ∀ p, l.foldlM rdStep st = some p → RdOk p := by
    intro l
    induction l with
    | nil => intro st h p hp; simp only [List.foldlM_nil] at hp; cases hp; exact h
    | cons c r ih =>
      intro st h p hp
      rw [List.foldlM_cons] at hp
      cases hs : rdStep st c with
      | none => rw [hs] at hp; cases hp
      | some st' => rw [hs] at hp; exact ih st' (rdStep_ok h hs) p hp
  unfold rd
  cases h : l.foldlM rdStep (0, 0) with
  | none => simp only []; omega
  | some p => have := key l (0, 0) (by unfold RdOk; omega) p h; exact ⟨this.1, this.2.1⟩

theorem refLength_any (l : Bs) (w : World) (hl : l.length ≤ 1000) :
    Calls Tryd.prog 23 #[.string ⟨l.toArray⟩] w fun e w' => e = .returned (.tuple #[.int .i64 (refD l).1, .int .i64 (refD l).2]) ∧ Below w.heap.size w w' := by
  have hr := rd_bd l
  by_cases hn : l = [110, 101, 118, 101, 114]
  · subst hn
    go_enter Tryd.func23, Tryd.ntmps23
    go_wp2_with (go_at_call 25; refine (never_any _).mono ?_; rintro e w' ⟨rfl, rfl⟩)
    go_ret2
    exact ⟨rfl, Below.refl _ _⟩
  · have hne : (l == [110, 101, 118, 101, 114]) = false := by simpa using hn
    have hn' : ¬ l = never := hn
    go_enter Tryd.func23, Tryd.ntmps23
    by_cases h0 : rd l < 0
    · go_wp2_with (go_at_call 34; refine (refRead_any _ _ hl).mono ?_; rintro e w' ⟨rfl, rfl⟩)
      go_ret2
      exact ⟨ret_2 (by unfold refD; rw [if_neg hn', if_pos (Or.inl h0)]) (by unfold refD; rw [if_neg hn', if_pos (Or.inl h0)]), Below.refl _ _⟩
    · by_cases hs : span (hold (rd l)).toNat = l
      · have hb : (!span (hold (rd l)).toNat == l) = false := by simpa using hs
        have HS := Lib.hid hs; clear hs
        go_wp2_with (first | (go_at_call 34; refine (refRead_any _ _ hl).mono ?_; rintro e w' ⟨rfl, rfl⟩) | (go_at_call 22; refine (refSpan_any _ _).mono ?_; rintro e w1 ⟨rfl, b1⟩))
        go_ret2
        exact ⟨ret_2 (by unfold refD; rw [if_neg hn', if_neg (by rw [HS.out]; simp; omega)]) (by unfold refD; rw [if_neg hn', if_neg (by rw [HS.out]; simp; omega)]), b1⟩
      · have hb : (!span (hold (rd l)).toNat == l) = true := by simpa using hs
        go_wp2_with (first | (go_at_call 34; refine (refRead_any _ _ hl).mono ?_; rintro e w' ⟨rfl, rfl⟩) | (go_at_call 22; refine (refSpan_any _ _).mono ?_; rintro e w1 ⟨rfl, b1⟩))
        go_ret2
        exact ⟨ret_2 (by unfold refD; rw [if_neg hn', if_pos (Or.inr hs)]) (by unfold refD; rw [if_neg hn', if_pos (Or.inr hs)]), b1⟩

end Go.Proofs.YtpndgjhednfpdaaDoor
