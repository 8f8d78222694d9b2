/- The reference: All, Same, Few, Only. -/
import Derived.Test.YtmmfkepkdmmmkaaR2
set_option linter.unusedVariables false
namespace Go.Proofs.Ytmmfkepkdmmmkaa
open Go.RowKit Go.Lib Wr

/-- The things of an argument are few: their sizes. -/
def cost (l : List Th) : Nat := (l.map fun t => 1 + t.d.length + t.l.length).sum
theorem cost_take {l : List Th} {k : Nat} {t : Th} (h : l[k]? = some t) : cost (l.take (k + 1)) = cost (l.take k) + (1 + t.d.length + t.l.length) := by
  unfold cost
  rw [List.take_add_one, h]
  simp
theorem cost_le {l : List Th} (k : Nat) : cost (l.take k) ≤ cost l := by
  have : cost l = cost (l.take k) + cost (l.drop k) := by unfold cost; rw [← List.sum_append, ← List.map_append, List.take_append_drop]
  omega
theorem cost_mem {l : List Th} {k : Nat} {t : Th} (h : l[k]? = some t) : 1 + t.d.length + t.l.length ≤ cost l := by
  have := cost_take h
  have := cost_le (l := l) (k + 1)
  omega
theorem cost_length (l : List Th) : l.length ≤ cost l := by
  induction l with
  | nil => simp
  | cons a l ih => simp only [cost, List.map_cons, List.sum_cons, List.length_cons] at *; omega
theorem put_len {t : Th} (hw : WfT t) : (Wr.put t).length ≤ 10 + t.d.length + 10 * t.l.length := by
  unfold Wr.put
  split
  · have := int_len10 hw.n; omega
  split
  · simp; omega
  split
  · have := int_len10 (i64_len hw.d); simp; omega
  split
  · have := int_len10 (i64_len hw.l.1); have := ints_len t.l hw.l.2; simp; omega
  · simp
theorem all_len (l : List Th) (hw : ∀ t ∈ l, WfT t) : (Wr.all l).length ≤ 10 * cost l := by
  induction l with
  | nil => simp [Wr.all]
  | cons a l ih =>
    rw [Wr.all_cons, List.length_append]
    have h1 := put_len (hw a (by simp))
    have h2 := ih fun t ht => hw t (by simp [ht])
    have : cost (a :: l) = 1 + a.d.length + a.l.length + cost l := by simp [cost]
    omega

theorem rall_any (A : Option Addr) (c : Nat) (l : List Th) (w : World) (hr : RT w A l) (hw : ∀ t ∈ l, WfT t) (hc : cost l ≤ 10000) : Calls Try.prog 22 #[.slice A l.length c] w fun r w' => ∃ v, r = .returned v ∧ OwnB w' w.heap.size v (Wr.all l) ∧ Below w.heap.size w w' := by
  have hr' := Lib.hid hr
  clear hr
  have hcl := cost_length l
  have hal := all_len l hw
  go_enter Try.func22, Try.ntmps22
  go_wp2_with fail
  go_loopw [3, 4] (fun v i w' => ∃ k : Nat, i = .int .i64 (k : Int) ∧ k ≤ l.length ∧ OwnB w' w.heap.size v (Wr.all (l.take k)) ∧ Below w.heap.size w w') (fun _ i _ => l.length - (intOf i).toNat)
  case atStart => exact ⟨0, rfl, by omega, OwnB.empty w (Nat.le_refl _), (Below.refl _ _).alloc (Nat.le_refl _) _⟩
  case round =>
    obtain ⟨k, rfl, hk, hO, hB⟩ := hrel
    by_cases hlt : k < l.length
    · obtain ⟨t, ht⟩ : ∃ t, l[k]? = some t := ⟨_, List.getElem?_eq_getElem hlt⟩
      obtain ⟨ad, u, rfl, hat, hru⟩ := (hr'.out.below hB).at_ ht
      have hwt := hw t (List.mem_of_getElem? ht)
      have hct := cost_mem ht
      have e1 : (k : Int) < (l.length : Int) := by omega
      have e2 : (0 : Int) ≤ (k : Int) := by omega
      have hst := Lib.hid (all_take ht)
      have hO' := Lib.hid hO
      clear hO ht
      go_wp2_with (refine wpList_load_thing rfl _ rfl (ad.add (k * 5)) rfl t u hat ?_)
      refine (rput_any t u wr hwt hru (by omega) (by omega)).mono ?_
      rintro r w2 ⟨v2, rfl, O2, b2⟩
      have B2 : Below w.heap.size w w2 := then_ hB b2
      have hR2 := O2.rb
      have O2b := Lib.hid (hO'.out.below b2)
      have h63 : (Wr.all (l.take k)).length + (Wr.put t).length ≤ 100000000 := by
        have h1 := all_len (l.take k) (fun x hx => hw x (List.mem_of_mem_take hx))
        have h2 := cost_le (l := l) k
        have h3 := put_len hwt
        omega
      have hbs := B2.size
      go_wp2_with (at_builtin; refine wpList_append_bytes rfl _ _ rfl w.heap.size _ (Wr.all (l.take k)) rfl O2b.out v2 (Wr.put t) rfl hR2 h63 hbs ?_; intro v3 w3 hO3 hg3 _)
      have hB3 := grown_below B2 O2b.out hbs hg3
      rw [← hst.out] at hO3
      go_roundw
      case rel => exact ⟨k + 1, by go_num, by omega, hO3, hB3⟩
      case measure => simp [intOf]; omega
    · obtain rfl : k = l.length := by omega
      rw [List.take_length] at hO
      have hO' := Lib.hid hO
      clear hO
      go_wp2
      go_ret
      exact ⟨_, rfl, hO'.out, hB⟩
end Go.Proofs.Ytmmfkepkdmmmkaa
