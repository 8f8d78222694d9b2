/- New, Len, Min, Key, Put. -/
import Derived.Test.YtkdabnhhjjmibaaHI5
namespace Go.Proofs.Ytkdabnhhjjmibaa
open Go.RowKit Go.Lib Hp

/-- Block hb holds a heap with the IDs and keys of x. -/
def RepI (w : World) (hb : Nat) (v : Value) (m : Option Nat) (x : List (Int × KI)) (n : Nat) : Prop :=
  ∃ s, HeapAtI w hb v m s n ∧ Hp.Good ltI s x ∧ ND x ∧ ∀ a ∈ x, Fits a.1

section
variable {w w' : World} {hb : Nat} {v : Value} {m : Option Nat} {x : List (Int × KI)} {n : Nat}
theorem RepI.lt (h : RepI w hb v m x n) : ∀ k, foot hb v m k → k < w.heap.size := let ⟨_, h1, _⟩ := h; h1.lt
theorem RepI.nd (h : RepI w hb v m x n) : ND x := let ⟨_, _, _, h1, _⟩ := h; h1
theorem RepI.fits (h : RepI w hb v m x n) : ∀ a ∈ x, Fits a.1 := let ⟨_, _, _, _, h1⟩ := h; h1
theorem RepI.kept (h : RepI w hb v m x n) (hk : ∀ k, foot hb v m k → w'.heap[k]? = w.heap[k]?) : RepI w' hb v m x n := let ⟨s, h1, h2⟩ := h; ⟨s, h1.kept hk, h2⟩
theorem RepI.below (h : RepI w hb v m x n) (hc : Below w.heap.size w w') : RepI w' hb v m x n := let ⟨s, h1, h2⟩ := h; ⟨s, h1.below hc, h2⟩
theorem RepI.mono (h : RepI w hb v m x n) {n' : Nat} (hn : n ≤ n') : RepI w hb v m x n' := let ⟨s, h1, h2⟩ := h; ⟨s, h1.mono hn, h2⟩
theorem RepI.chg {S : Nat → Prop} (h : RepI w hb v m x n) (hc : Chg S w w') (hs : ∀ k, foot hb v m k → ¬ S k) : RepI w' hb v m x n := let ⟨s, h1, h2⟩ := h; ⟨s, h1.chg hc hs, h2⟩
end

theorem new_anyI (w : World) : Calls Try.prog 10 #[] w fun r w' => r = .returned (.pointer (some ⟨w.heap.size, 0, none⟩)) ∧ RepI w' w.heap.size (.slice none 0 0) none [] 0 ∧ Below w.heap.size w w' := by
  have hR : RepI (w.alloc (.cells #[.slice none 0 0, .map none] 64)) w.heap.size (.slice none 0 0) none [] 0 :=
    ⟨⟨[], fun _ => none⟩, ⟨heap_alloc_new w _, World.ownsRow_nil _ _ _ _, fun _ => rfl⟩, good_nil, nd_nil, by simp⟩
  go_enter Try.func10, Try.ntmps10
  go_wp2
  go_ret
  exact ⟨rfl, hR, (Below.refl _ _).alloc (Nat.le_refl _) _⟩

theorem len_anyI (hb : Nat) (v : Value) (m : Option Nat) (x : List (Int × KI)) (n : Nat) (w : World) (H : RepI w hb v m x n) : Calls Try.prog 21 #[.pointer (some ⟨hb, 0, none⟩)] w fun r w' => r = .returned (.int .i64 (x.length : Int)) ∧ w = w' := by
  obtain ⟨s, H, hg, _⟩ := H
  rw [← hg.len]
  obtain ⟨A, cap, rfl⟩ := H.row.form
  have c0 := H.c0
  go_enter Try.func21, Try.ntmps21
  go_wp2
  go_ret
  exact ⟨rfl, rfl⟩

theorem min_noneI (hb : Nat) (v : Value) (m : Option Nat) (n : Nat) (w : World) (H : RepI w hb v m [] n) : Calls Try.prog 28 #[.pointer (some ⟨hb, 0, none⟩)] w fun r w' => r = .returned (.tuple #[.int .i64 0, (Value.int .i64 (0)), .bool false]) ∧ Below w.heap.size w w' := by
  obtain ⟨s, H, hg, _⟩ := H
  have hl := hg.len
  obtain ⟨A, cap, rfl⟩ := H.row.form
  rw [hl] at H
  have c0 := H.c0
  go_enter Try.func28, Try.ntmps28
  go_wp2
  go_ret3
  exact ⟨rfl, Below.refl _ _⟩

theorem min_someI (hb : Nat) (v : Value) (m : Option Nat) (x : List (Int × KI)) (n : Nat) (w : World) (H : RepI w hb v m x n) (h0 : 0 < x.length) : Calls Try.prog 28 #[.pointer (some ⟨hb, 0, none⟩)] w fun r w' => ∃ a, IsTop ltI x a ∧ r = .returned (.tuple #[.int .i64 a.1, (Value.int .i64 (a.2)), .bool true]) ∧ Below w.heap.size w w' := by
  obtain ⟨s, H, hg, _⟩ := H
  have hl := hg.len
  obtain ⟨g, cap, rfl⟩ := H.row.form' (by omega)
  obtain ⟨a, ha⟩ : ∃ a, s.l[0]? = some a := ⟨_, List.getElem?_eq_getElem (by omega)⟩
  have c0 := H.c0
  obtain ⟨p0, p1⟩ := H.row.cell ha
  rw [Nat.zero_mul] at p0 p1
  have e0 : ((s.l.length : Int) == 0) = false := by rw [beq_eq_false_iff_ne]; omega
  have e1 : (s.l.length == 0) = false := by rw [beq_eq_false_iff_ne]; omega
  have e2 : ¬ s.l.length = 0 := by omega
  have e3 : (0 : Int) < (s.l.length : Int) := by omega
  have e4 : 0 < s.l.length := by omega
  have ht := hg.top strictI ha
  go_enter Try.func28, Try.ntmps28
  go_wp2
  go_quiet (fail)
  go_wp2
  go_ret3
  exact ⟨a, ht, rfl, below_drewN (Below.refl _ _) _⟩
theorem key_anyI (hb : Nat) (v : Value) (m : Option Nat) (x : List (Int × KI)) (n : Nat) (y : Int) (w : World) (H : RepI w hb v m x n) (hy : Fits y) : Calls Try.prog 22 #[.pointer (some ⟨hb, 0, none⟩), .int .i64 y] w fun r w' => r = .returned (.tuple #[.int .i64 ((rkey x y).getD 0), .bool (rhas x y)]) ∧ w = w' := by
  obtain ⟨s, H, hg, nd, _⟩ := H
  have c1 := H.c1
  have c0 := H.c0
  have hh := hg.has y
  obtain ⟨c, hrun, hc⟩ := H.map.look hy
  cases hf : s.f y with
  | none =>
    rw [hf] at hrun hh
    simp only [Option.isSome_none] at hrun hh
    rw [rkey_none hh, hh]
    go_enter Try.func22, Try.ntmps22
    go_wp2
    go_ret2
    exact ⟨rfl, rfl⟩
  | some i =>
    obtain rfl := hc i hf
    rw [hf] at hrun hh
    simp only [Option.isSome_some] at hrun hh
    obtain ⟨a, ha, e⟩ := hg.back _ _ hf
    have hil := (List.getElem?_eq_some_iff.1 ha).1
    obtain ⟨g, cap, rfl⟩ := H.row.form' (by omega)
    obtain ⟨p0, p1⟩ := H.row.cell ha
    have hk := hg.key nd hf ha
    rw [hk, hh]
    have e3 : (i : Int) < (s.l.length : Int) := by omega
    have e4 : (0 : Int) ≤ (i : Int) := by omega
    go_enter Try.func22, Try.ntmps22
    go_wp2
    go_ret2
    exact ⟨rfl, rfl⟩

end Go.Proofs.Ytkdabnhhjjmibaa
