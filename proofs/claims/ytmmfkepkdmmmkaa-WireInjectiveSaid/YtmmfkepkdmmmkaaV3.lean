/- The laws' small functions: all, awake. -/
import Derived.Test.YtmmfkepkdmmmkaaV2
set_option linter.unusedVariables false
set_option linter.unusedSimpArgs false
namespace Go.Proofs.Ytmmfkepkdmmmkaa
open Go.RowKit Go.Lib Wr

theorem all_any (A : Option Addr) (c : Nat) (l : List Th) (w : World) (hr : RT w A l) (hw : ∀ t ∈ l, WfT t) (hc : cost l ≤ 10000) : Calls Try.prog 17 #[.slice A l.length c] w fun r w' => ∃ v, r = .returned v ∧ OwnB w' w.heap.size v (Wr.all l) ∧ Below w.heap.size w w' := by
  have hr' := Lib.hid hr
  clear hr
  have hcl := cost_length l
  have hal := all_len l hw
  have hB1 : Below w.heap.size w (w.alloc (.cells wrZero 46)) := (Below.refl _ _).alloc (Nat.le_refl _) _
  have hP1 := WrP.zero w (Nat.le_refl _)
  unfold wrZero at hB1 hP1
  have hP1' := Lib.hid hP1
  clear hP1
  go_enter Try.func17, Try.ntmps17
  go_wp2_with fail
  go_loopw [8] (fun i w' => ∃ k : Nat, i = .int .i64 (k : Int) ∧ k ≤ l.length ∧ WrP w' w.heap.size w.heap.size (Wr.all (l.take k)) ∧ Below w.heap.size w w') (fun i _ => l.length - (intOf i).toNat)
  case atStart => exact ⟨0, rfl, by omega, hP1'.out, hB1⟩
  case round =>
    obtain ⟨k, rfl, hk, hP, hB⟩ := hrel
    have hkl : (Wr.all (l.take k)).length ≤ 100000 := by
      have h1 := all_len (l.take k) (fun x hx => hw x (List.mem_of_mem_take hx))
      have h2 := cost_le (l := l) k
      omega
    have hP' := Lib.hid hP
    clear hP
    by_cases hlt : k < l.length
    · obtain ⟨t, ht⟩ : ∃ t, l[k]? = some t := ⟨_, List.getElem?_eq_getElem hlt⟩
      obtain ⟨ad, u, rfl, hat, hru⟩ := (hr'.out.below hB).at_ ht
      obtain ⟨ua, uc, rfl⟩ := hru.form
      have hwt := hw t (List.mem_of_getElem? ht)
      have hct := cost_mem ht
      have e1 : (k : Int) < (l.length : Int) := by omega
      have e2 : (0 : Int) ≤ (k : Int) := by omega
      have hst := Lib.hid (all_take ht)
      have hB2 : Below wr.heap.size wr (wr.alloc (.cells #[.int .i64 t.k, .int .i64 t.n, .bool t.b, .string ⟨t.d.toArray⟩, .slice ua t.l.length uc] 33)) := (Below.refl _ _).alloc (Nat.le_refl _) _
      have hru2 := Lib.hid (hru.below hB2)
      clear ht hru
      go_wp2_with (refine wpList_load_thing rfl _ rfl (ad.add (k * 5)) rfl t (.slice ua t.l.length uc) hat ?_)
      refine (write_any _ _ _ t (.slice ua t.l.length uc) _ (hP'.out.below hB2) (Nat.le_trans hB.size hB2.size) hwt hru2.out (by omega) (by omega) hkl).mono ?_
      rintro r w2 ⟨⟨u2, rfl⟩, H2, b2⟩
      rw [← hst.out] at H2
      have H2' := Lib.hid H2
      have hB3 : Below w.heap.size w w2 := (then_ hB hB2).trans b2
      clear H2
      go_wp2
      go_roundw
      case rel => exact ⟨k + 1, by go_num, by omega, H2'.out, hB3⟩
      case measure => simp [intOf]; omega
    · obtain rfl : k = l.length := by omega
      rw [List.take_length] at hP' hkl
      go_wp2_with fail
      refine (pencoded_any _ _ _ _ hP'.out hkl).mono ?_
      rintro r w2 ⟨v, rfl, O2, b2⟩
      have O2' := Lib.hid (O2.mono hB.size)
      clear O2
      go_wp2
      go_ret
      exact ⟨_, rfl, O2'.out, then_ hB b2⟩

theorem chg_below {lo hi B : Nat} {a b : World} (k : Chg (Iv lo hi) a b) (hlo : B ≤ lo) (hB : B ≤ a.heap.size) : Below B a b := k.belowAt hB fun i h => Nat.le_trans hlo h.1

end Go.Proofs.Ytmmfkepkdmmmkaa
