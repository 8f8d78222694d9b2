/- The reference: Only, Few. -/
import Derived.Test.YtmmfkepkdmmmkaaR4
set_option linter.unusedVariables false
namespace Go.Proofs.Ytmmfkepkdmmmkaa
open Go.RowKit Go.Lib Wr

/-- The list's value that Only leaves. -/
def onU (t : Th) (u : Value) : Value := if t.k = 4 then u else .slice none 0 0
/-- The value that Only gives. -/
def onV (t : Th) (u : Value) : Value := .agg #[.int .i64 (only t).k, .int .i64 (only t).n, .bool (only t).b, .string ⟨(only t).d.toArray⟩, onU t u]
theorem onV_th {w : World} {t : Th} {u : Value} (hu : RN w u t.l) : ThV w (onV t u) (only t) := by
  refine ⟨onU t u, rfl, ?_⟩
  obtain ⟨k, n, b, d, l⟩ := t
  unfold onU only
  simp only at hu ⊢
  by_cases h0 : k = 0
  · subst h0; exact RN.nil _
  by_cases h1 : k = 1
  · subst h1; exact RN.nil _
  by_cases h4 : k = 4
  · subst h4; exact hu
  · rw [if_neg h0, if_neg h1, if_neg h4, if_neg h4]; exact RN.nil _
theorem ronly_is (t : Th) (u : Value) (w : World) (hu : RN w u t.l) : Calls Try.prog 18 #[.agg #[.int .i64 t.k, .int .i64 t.n, .bool t.b, .string ⟨t.d.toArray⟩, u]] w fun r w' => r = .returned (onV t u) ∧ Below w.heap.size w w' := by
  obtain ⟨k, n, b, d, l⟩ := t
  simp only at hu ⊢
  have hB : ∀ o1 o2, Below w.heap.size w ((w.alloc o1).alloc o2) := fun o1 o2 => ((Below.refl _ _).alloc (Nat.le_refl _) o1).alloc (by simp) o2
  have hB := Lib.hid hB
  unfold onV onU only
  by_cases h0 : k = 0
  · subst h0
    go_enter Try.func18, Try.ntmps18
    go_wp2
    refine bodyPost_ret (v := .agg #[.int .i64 0, .int .i64 n, .bool false, .string ⟨#[]⟩, .slice none 0 0]) (by simp [results, Try.results18, go_sem]) rfl ⟨rfl, hB.out _ _⟩
  by_cases h1 : k = 1
  · subst h1
    go_enter Try.func18, Try.ntmps18
    go_wp2
    refine bodyPost_ret (v := .agg #[.int .i64 1, .int .i64 0, .bool b, .string ⟨#[]⟩, .slice none 0 0]) (by simp [results, Try.results18, go_sem]) rfl ⟨rfl, hB.out _ _⟩
  by_cases h4 : k = 4
  · subst h4
    obtain ⟨A, c, rfl⟩ := hu.form
    clear hu
    go_enter Try.func18, Try.ntmps18
    go_wp2
    refine bodyPost_ret (v := .agg #[.int .i64 4, .int .i64 0, .bool false, .string ⟨#[]⟩, .slice A l.length c]) (by simp [results, Try.results18, go_sem]) rfl ⟨rfl, hB.out _ _⟩
  · simp only [if_neg h0, if_neg h1, if_neg h4]
    have t0 : (k == 0) = false := by simpa using h0
    have t1 : (k == 1) = false := by simpa using h1
    have t4 : (k == 4) = false := by simpa using h4
    go_enter Try.func18, Try.ntmps18
    go_wp2
    refine bodyPost_ret (v := .agg #[.int .i64 k, .int .i64 0, .bool false, .string ⟨d.toArray⟩, .slice none 0 0]) (by simp [results, Try.results18, go_sem]) rfl ⟨rfl, hB.out _ _⟩
theorem ronly_any (t : Th) (u : Value) (w : World) (hu : RN w u t.l) : Calls Try.prog 18 #[.agg #[.int .i64 t.k, .int .i64 t.n, .bool t.b, .string ⟨t.d.toArray⟩, u]] w fun r w' => ∃ v, r = .returned v ∧ ThV w' v (only t) ∧ Below w.heap.size w w' :=
  (ronly_is t u w hu).mono fun r w' h => ⟨_, h.1, onV_th (hu.below h.2), h.2⟩

def few (l : List Th) : Bool := decide (cost l ≤ 400) && l.all fun t => decide (0 ≤ t.k) && decide (t.k ≤ 4)
theorem few_take {l : List Th} (h : few l = true) (k : Nat) : few (l.take k) = true := by
  unfold few at *
  simp only [Bool.and_eq_true, decide_eq_true_eq, List.all_eq_true] at *
  exact ⟨Nat.le_trans (cost_le k) h.1, fun x hx => h.2 x (List.mem_of_mem_take hx)⟩
theorem few_of {l : List Th} (h : few l = true) : cost l ≤ 400 ∧ ∀ t ∈ l, 0 ≤ t.k ∧ t.k ≤ 4 := by
  unfold few at h
  simp only [Bool.and_eq_true, decide_eq_true_eq, List.all_eq_true] at h
  exact h
theorem few_bad {l : List Th} {k : Nat} (h : ¬ few (l.take k) = true) : few l = false := by
  cases hf : few l with
  | false => rfl
  | true => exact absurd (few_take hf k) h

theorem rfew_any (A : Option Addr) (c : Nat) (l : List Th) (w : World) (hr : RT w A l) (hs : ∀ t ∈ l, I64 t.k ∧ t.d.length ≤ 2 ^ 61 ∧ t.l.length ≤ 2 ^ 61) (hl : l.length ≤ 9223372036854775807) : Calls Try.prog 16 #[.slice A l.length c] w fun r w' => r = .returned (.bool (few l)) ∧ Below w.heap.size w w' := by
  have hr' := Lib.hid hr
  clear hr
  go_enter Try.func16, Try.ntmps16
  go_wp2_with fail
  go_loopw [3, 4] (fun n i w' => ∃ k m : Nat, i = .int .i64 (k : Int) ∧ n = .int .i64 (m : Int) ∧ k ≤ l.length ∧ cost (l.take k) = m ∧ few (l.take k) = true ∧ Below w.heap.size w w') (fun _ i _ => l.length - (intOf i).toNat)
  case atStart => exact ⟨0, 0, rfl, rfl, by omega, rfl, rfl, Below.refl _ _⟩
  case round =>
    obtain ⟨k, m, rfl, rfl, hk, hm, hf, hB⟩ := hrel
    by_cases hlt : k < l.length
    · obtain ⟨t, ht⟩ : ∃ t, l[k]? = some t := ⟨_, List.getElem?_eq_getElem hlt⟩
      obtain ⟨ad, u, rfl, ⟨c0, c1, c2, c3, c4⟩, hru⟩ := (hr'.out.below hB).at_ ht
      obtain ⟨hkt, hdt, hlt2⟩ := hs t (List.mem_of_getElem? ht)
      obtain ⟨ua, uc, rfl⟩ := hru.form
      have c3' : wr.cell? ⟨(ad.add (k * 5)).block, (ad.add (k * 5)).off + 3, none⟩ = some (.string ⟨t.d.toArray⟩) := c3
      have c4' : wr.cell? ⟨(ad.add (k * 5)).block, (ad.add (k * 5)).off + 4, none⟩ = some (.slice ua t.l.length uc) := c4
      clear c3 c4
      have hct := cost_take ht
      rw [hm] at hct
      have hm4 : m ≤ 400 := hm ▸ (few_of hf).1
      have e1 : (k : Int) < (l.length : Int) := by omega
      have e2 : (0 : Int) ≤ (k : Int) := by omega
      obtain ⟨M, hM⟩ : ∃ M, m + (1 + t.d.length + t.l.length) = M := ⟨_, rfl⟩
      rw [hM] at hct
      have s1 : IntKind.i64.wrap ((m : Int) + 1) = ((m + 1 : Nat) : Int) := by rw [IntKind.wrap_i64]; omega
      have s2 : IntKind.i64.wrap (((m + 1 : Nat) : Int) + (t.d.length : Int)) = ((m + 1 + t.d.length : Nat) : Int) := by rw [IntKind.wrap_i64]; omega
      have s3 : IntKind.i64.wrap (((m + 1 + t.d.length : Nat) : Int) + (t.l.length : Int)) = (M : Int) := by rw [IntKind.wrap_i64]; omega
      have hfs : few (l.take (k + 1)) = (decide (M ≤ 400) && (decide (0 ≤ t.k) && decide (t.k ≤ 4))) := by
        unfold few
        rw [hct, List.take_add_one, ht]
        have := (few_of hf).2
        simp only [Option.toList_some, List.all_append, List.all_cons, List.all_nil, Bool.and_true]
        congr 1
        rw [show ((l.take k).all fun t => decide (0 ≤ t.k) && decide (t.k ≤ 4)) = true from by simp only [List.all_eq_true, Bool.and_eq_true, decide_eq_true_eq]; exact this, Bool.true_and]
      have hfs := Lib.hid hfs
      have hct := Lib.hid hct
      have hf := Lib.hid hf
      have hm := Lib.hid hm
      clear hm hf c1 c2
      by_cases b1 : 400 < M
      · have hbad : few l = false := few_bad (k := k + 1) (by rw [hfs.out]; simp; omega)
        have b1' : (400 : Int) < (M : Int) := by omega
        have hbad := Lib.hid hbad
        go_wp2_with fail
        go_quiet (fail)
        go_wp2
        go_ret
        exact ⟨rfl, below_drewN hB _⟩
      · have b1' : ¬ (400 : Int) < (M : Int) := by omega
        by_cases b2 : 0 ≤ t.k
        · have b2' : ¬ t.k < 0 := by omega
          by_cases b3 : t.k ≤ 4
          · have b3' : ¬ 4 < t.k := by omega
            have hf2 : few (l.take (k + 1)) = true := by rw [hfs.out]; simp; omega
            have hf2 := Lib.hid hf2
            go_wp2_with fail
            go_quiet (fail)
            go_wp2
            go_roundw
            case rel => exact ⟨k + 1, M, by go_num, congrArg (Value.int .i64) (by omega), by omega, hct.out, hf2.out, below_drewN hB _⟩
            case measure => simp [intOf]; omega
          · have b3' : 4 < t.k := by omega
            have hbad : few l = false := few_bad (k := k + 1) (by rw [hfs.out]; simp; omega)
            have hbad := Lib.hid hbad
            go_wp2_with fail
            go_quiet (fail)
            go_wp2
            go_ret
            exact ⟨ret_b hbad.out.symm, below_drewN hB _⟩
        · have b2' : t.k < 0 := by omega
          have hbad : few l = false := few_bad (k := k + 1) (by rw [hfs.out]; simp; omega)
          have hbad := Lib.hid hbad
          go_wp2_with fail
          go_quiet (fail)
          go_wp2
          go_ret
          exact ⟨ret_b hbad.out.symm, below_drewN hB _⟩
    · obtain rfl : k = l.length := by omega
      rw [List.take_length] at hf
      have hf := Lib.hid hf
      clear hm
      go_wp2
      go_ret
      exact ⟨ret_b hf.out.symm, hB⟩
end Go.Proofs.Ytmmfkepkdmmmkaa
