/- New, Len, Min, Key, Put. -/
import Derived.Test.YtkdabnhhjjmibaaHS5
namespace Go.Proofs.Ytkdabnhhjjmibaa
open Go.RowKit Go.Lib Hp

/-- Block hb holds a heap with the IDs and keys of x. -/
def RepS (w : World) (hb : Nat) (v : Value) (m : Option Nat) (x : List (Int × KS)) (n : Nat) : Prop :=
  ∃ s, HeapAtS w hb v m s n ∧ Hp.Good ltS s x ∧ ND x ∧ ∀ a ∈ x, Fits a.1

section
variable {w w' : World} {hb : Nat} {v : Value} {m : Option Nat} {x : List (Int × KS)} {n : Nat}
theorem RepS.lt (h : RepS w hb v m x n) : ∀ k, foot hb v m k → k < w.heap.size := let ⟨_, h1, _⟩ := h; h1.lt
theorem RepS.nd (h : RepS w hb v m x n) : ND x := let ⟨_, _, _, h1, _⟩ := h; h1
theorem RepS.fits (h : RepS w hb v m x n) : ∀ a ∈ x, Fits a.1 := let ⟨_, _, _, _, h1⟩ := h; h1
theorem RepS.kept (h : RepS w hb v m x n) (hk : ∀ k, foot hb v m k → w'.heap[k]? = w.heap[k]?) : RepS w' hb v m x n := let ⟨s, h1, h2⟩ := h; ⟨s, h1.kept hk, h2⟩
theorem RepS.below (h : RepS w hb v m x n) (hc : Below w.heap.size w w') : RepS w' hb v m x n := let ⟨s, h1, h2⟩ := h; ⟨s, h1.below hc, h2⟩
theorem RepS.mono (h : RepS w hb v m x n) {n' : Nat} (hn : n ≤ n') : RepS w hb v m x n' := let ⟨s, h1, h2⟩ := h; ⟨s, h1.mono hn, h2⟩
theorem RepS.chg {S : Nat → Prop} (h : RepS w hb v m x n) (hc : Chg S w w') (hs : ∀ k, foot hb v m k → ¬ S k) : RepS w' hb v m x n := let ⟨s, h1, h2⟩ := h; ⟨s, h1.chg hc hs, h2⟩
end

theorem new_anyS (w : World) : Calls Try.prog 23 #[] w fun r w' => r = .returned (.pointer (some ⟨w.heap.size, 0, none⟩)) ∧ RepS w' w.heap.size (.slice none 0 0) none [] 0 ∧ Below w.heap.size w w' := by
  have hR : RepS (w.alloc (.cells #[.slice none 0 0, .map none] 71)) w.heap.size (.slice none 0 0) none [] 0 :=
    ⟨⟨[], fun _ => none⟩, ⟨heap_alloc_new w _, World.ownsRow_nil _ _ _ _, fun _ => rfl⟩, good_nil, nd_nil, by simp⟩
  go_enter Try.func23, Try.ntmps23
  go_wp2
  go_ret
  exact ⟨rfl, hR, (Below.refl _ _).alloc (Nat.le_refl _) _⟩

theorem len_anyS (hb : Nat) (v : Value) (m : Option Nat) (x : List (Int × KS)) (n : Nat) (w : World) (H : RepS w hb v m x n) : Calls Try.prog 26 #[.pointer (some ⟨hb, 0, none⟩)] w fun r w' => r = .returned (.int .i64 (x.length : Int)) ∧ w = w' := by
  obtain ⟨s, H, hg, _⟩ := H
  rw [← hg.len]
  obtain ⟨A, cap, rfl⟩ := H.row.form
  have c0 := H.c0
  go_enter Try.func26, Try.ntmps26
  go_wp2
  go_ret
  exact ⟨rfl, rfl⟩

theorem min_noneS (hb : Nat) (v : Value) (m : Option Nat) (n : Nat) (w : World) (H : RepS w hb v m [] n) : Calls Try.prog 30 #[.pointer (some ⟨hb, 0, none⟩)] w fun r w' => r = .returned (.tuple #[.int .i64 0, (Value.string ⟨List.toArray ([])⟩), .bool false]) ∧ Below w.heap.size w w' := by
  obtain ⟨s, H, hg, _⟩ := H
  have hl := hg.len
  obtain ⟨A, cap, rfl⟩ := H.row.form
  rw [hl] at H
  have c0 := H.c0
  go_enter Try.func30, Try.ntmps30
  go_wp2
  go_ret3
  exact ⟨rfl, Below.refl _ _⟩

theorem min_someS (hb : Nat) (v : Value) (m : Option Nat) (x : List (Int × KS)) (n : Nat) (w : World) (H : RepS w hb v m x n) (h0 : 0 < x.length) : Calls Try.prog 30 #[.pointer (some ⟨hb, 0, none⟩)] w fun r w' => ∃ a, IsTop ltS x a ∧ r = .returned (.tuple #[.int .i64 a.1, (Value.string ⟨List.toArray (a.2)⟩), .bool true]) ∧ Below w.heap.size w w' := by
  obtain ⟨s, H, hg, _⟩ := H
  have hl := hg.len
  obtain ⟨g, cap, rfl⟩ := H.row.form' (by omega)
  obtain ⟨a, ha⟩ : ∃ a, s.l[0]? = some a := ⟨_, List.getElem?_eq_getElem (by omega)⟩
  have c0 := H.c0
  obtain ⟨p0, p1⟩ := H.row.cell ha
  rw [Nat.zero_mul] at p0 p1
  have e0 : ((s.l.length : Int) == 0) = false := by rw [beq_eq_false_iff_ne]; omega
  have e1 : (s.l.length == 0) = false := by rw [beq_eq_false_iff_ne]; omega
  have e2 : ¬ s.l.length = 0 := by omega
  have e3 : (0 : Int) < (s.l.length : Int) := by omega
  have e4 : 0 < s.l.length := by omega
  have ht := hg.top strictS ha
  go_enter Try.func30, Try.ntmps30
  go_wp2
  go_quiet (fail)
  go_wp2
  go_ret3
  exact ⟨a, ht, rfl, below_drewN (Below.refl _ _) _⟩

end Go.Proofs.Ytkdabnhhjjmibaa
