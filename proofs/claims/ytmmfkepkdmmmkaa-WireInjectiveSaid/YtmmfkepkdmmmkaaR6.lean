/- The reference's reader: its memory; Int. -/
import Derived.Test.YtmmfkepkdmmmkaaR5
set_option linter.unusedVariables false
namespace Go.Proofs.Ytmmfkepkdmmmkaa
open Go.RowKit Go.Lib Wr

/-! ### What has changed -/

/-- Of the blocks of w, only those of S may have changed. -/
structure Chg (S : Nat → Prop) (w w' : World) : Prop where
  os : w'.os = w.os
  tape : w'.tape = w.tape
  output : w'.output = w.output
  size : w.heap.size ≤ w'.heap.size
  block : ∀ k, k < w.heap.size → ¬ S k → w'.heap[k]? = w.heap[k]?

section
variable {S T : Nat → Prop} {w a b : World}
theorem Chg.refl (S : Nat → Prop) (w : World) : Chg S w w := ⟨rfl, rfl, rfl, Nat.le_refl _, fun _ _ _ => rfl⟩
theorem Chg.trans (h : Chg S w a) (k : Chg T a b) (hs : ∀ i, i < w.heap.size → T i → S i) : Chg S w b :=
  ⟨k.os.trans h.os, k.tape.trans h.tape, k.output.trans h.output, Nat.le_trans h.size k.size, fun i hi hn => (k.block i (Nat.lt_of_lt_of_le hi h.size) (fun ht => hn (hs i hi ht))).trans (h.block i hi hn)⟩
theorem Chg.of_below (S : Nat → Prop) (h : Below w.heap.size w a) : Chg S w a := ⟨h.os, h.tape, h.output, h.size, fun k hk _ => h.block k hk⟩
theorem Chg.below (h : Chg S w a) (hs : ∀ k, S k → w.heap.size ≤ k) : Below w.heap.size w a := ⟨h.os, h.tape, h.output, h.size, fun k hk => h.block k hk (fun h2 => by have := hs k h2; omega)⟩
theorem Chg.belowAt {B : Nat} (h : Chg S w a) (hB : B ≤ w.heap.size) (hs : ∀ k, S k → B ≤ k) : Below B w a := ⟨h.os, h.tape, h.output, h.size, fun k hk => h.block k (by omega) (fun h2 => by have := hs k h2; omega)⟩
theorem Chg.mono (h : Chg S w a) (hs : ∀ k, S k → T k) : Chg T w a := ⟨h.os, h.tape, h.output, h.size, fun k hk hn => h.block k hk fun h2 => hn (hs k h2)⟩
theorem Chg.then (h : Chg S w a) (k : Below a.heap.size a b) : Chg S w b := h.trans (Chg.of_below S k) fun _ _ h => h
theorem Chg.drew (h : Chg S w a) : Chg S w a.drew := ⟨h.os, h.tape, h.output, h.size, h.block⟩
theorem Chg.alloc (h : Chg S w a) (o : Obj) : Chg S w (a.alloc o) := h.then ((Below.refl _ _).alloc (Nat.le_refl _) o)
theorem Chg.setCell (h : Chg S w a) {p : Addr} (hp : p.block < w.heap.size → S p.block) (u : Value) : Chg S w (a.setCell p u) :=
  ⟨h.os, h.tape, h.output, by simpa using h.size, fun k hk hn => (Below.heap_setCell a p u k (fun e => hn (e ▸ hp (e ▸ hk)))).trans (h.block k hk hn)⟩
theorem Chg.grown {row : Option Nat} (h : Chg S w a) (k : a.grownBy b row) (hr : ∀ i, row = some i → i < w.heap.size → S i) : Chg S w b :=
  ⟨k.os.trans h.os, k.tape.trans h.tape, k.output.trans h.output, Nat.le_trans h.size k.size, fun i hi hn => (k.block i (Nat.lt_of_lt_of_le hi h.size) (fun e => hn (hr i e.symm hi))).trans (h.block i hi hn)⟩
theorem Chg.at (h : Chg S w a) {g : Nat} {o : Obj} (hg : w.heap[g]? = some o) (hn : ¬ S g) : a.heap[g]? = some o := (h.block g (Array.getElem?_eq_some_iff.1 hg).1 hn).trans hg
end

/-! ### The reader's memory -/

/-- The reference's reader at block g. -/
def RefAt (w : World) (g N : Nat) (s : St) : Prop := ∃ v e, w.heap[g]? = some (.cells #[v, .int .i64 e] 29 (0, 0)) ∧ (∃ A n c, v = .slice A n c) ∧
  match s with
  | .live b => e = 0 ∧ RB w v b ∧ ∀ ad n c, v = .slice (some ad) n c → 0 < c → ad.block < N ∧ N ≤ g
  | .dead x => e = (x : Int) ∧ x ≠ 0
theorem RB.other {w w' : World} {v : Value} {l : Bs} (h : RB w v l) {g : Nat} {v0 : Value} {e : Int} {t : TypeId} {fr : Nat × Nat} (hg : w.heap[g]? = some (.cells #[v0, .int .i64 e] t fr)) (hv : ∃ A n c, v0 = .slice A n c) (hs : w.heap.size ≤ w'.heap.size) (hk : ∀ k, k < w.heap.size → k ≠ g → w'.heap[k]? = w.heap[k]?) : RB w' v l := by
  rcases h with h | ⟨ad, c, e1, hl0, hl, hc⟩
  · exact .inl h
  · refine .inr ⟨ad, c, e1, hl0, fun h => Nat.lt_of_lt_of_le (hl h) hs, fun j z hj => ?_⟩
    have hc0 : 0 < c := by have := (List.getElem?_eq_some_iff.1 hj).1; omega
    have h2 := hc j z hj
    by_cases hb : ad.block = g
    · exfalso
      unfold World.cell? at h2
      rw [block_add', hb, hg] at h2
      obtain ⟨A, n, c', rfl⟩ := hv
      simp only at h2
      split at h2
      · cases h2
      · match (ad.add j).off, h2 with
        | 0, h2 => simp at h2
        | 1, h2 => simp at h2
        | n + 2, h2 => simp at h2
    · unfold World.cell? at h2 ⊢
      rw [block_add'] at h2 ⊢
      rw [hk _ (hl hc0) hb]; exact h2
section
variable {w w' : World} {g N : Nat} {s : St}
theorem RefAt.lt (h : RefAt w g N s) : g < w.heap.size := by
  obtain ⟨v, e, h, _⟩ := h
  exact (Array.getElem?_eq_some_iff.1 h).1
theorem RefAt.below (h : RefAt w g N s) (hb : Below w.heap.size w w') : RefAt w' g N s := by
  have hl := h.lt
  obtain ⟨v, e, h1, h2, h3⟩ := h
  refine ⟨v, e, (hb.block g hl).trans h1, h2, ?_⟩
  cases s with
  | live b => exact ⟨h3.1, h3.2.1.below hb, h3.2.2⟩
  | dead x => exact h3
theorem RefAt.die (h : RefAt w g N s) {x : Nat} (hx : x ≠ 0) : RefAt (w.setCell ⟨g, 1, none⟩ (.int .i64 (x : Int))) g N (.dead x) := by
  obtain ⟨v, e, h1, h2, h3⟩ := h
  exact ⟨v, x, by rw [heap_setCell_same w g 1 _ _ _ h1]; rfl, h2, rfl, hx⟩
theorem RefAt.go {b b' : Bs} (h : RefAt w g N (.live b)) {A : Option Addr} {n c : Nat} (hr : RB w (.slice A n c) b') (hl : ∀ ad, A = some ad → 0 < c → ad.block < N ∧ N ≤ g) : RefAt (w.setCell ⟨g, 0, none⟩ (.slice A n c)) g N (.live b') := by
  obtain ⟨v, e, h1, h2, h3, _⟩ := h
  refine ⟨.slice A n c, e, by rw [heap_setCell_same w g 0 _ _ _ h1]; rfl, ⟨_, _, _, rfl⟩, h3, ?_, fun ad n' c' e h0 => by injection e with e1 e2 e3; exact hl ad e1 (e3 ▸ h0)⟩
  exact hr.other h1 h2 (by simp) fun k hk hn => heap_setCell_other w ⟨g, 0, none⟩ k _ hn
/-- Only the reader's own block and what lies below it matter. -/
theorem RefAt.kept (h : RefAt w g N s) (hs : w.heap.size ≤ w'.heap.size) (hk : ∀ k, k ≤ g → w'.heap[k]? = w.heap[k]?) : RefAt w' g N s := by
  obtain ⟨v, e, h1, h2, h3⟩ := h
  refine ⟨v, e, (hk g (Nat.le_refl _)).trans h1, h2, ?_⟩
  cases s with
  | live b => exact ⟨h3.1, h3.2.1.kept hs (fun ad n c e h0 => hk _ (by have := h3.2.2 ad n c e h0; omega)), h3.2.2⟩
  | dead x => exact h3
/-- The same, told block by block. -/
theorem RefAt.kept2 (h : RefAt w g N s) (hs : w.heap.size ≤ w'.heap.size) (hg : w'.heap[g]? = w.heap[g]?) (hk : ∀ k, k < N → w'.heap[k]? = w.heap[k]?) : RefAt w' g N s := by
  obtain ⟨v, e, h1, h2, h3⟩ := h
  refine ⟨v, e, hg.trans h1, h2, ?_⟩
  cases s with
  | live b => exact ⟨h3.1, h3.2.1.kept hs (fun ad n c e h0 => hk _ (h3.2.2 ad n c e h0).1), h3.2.2⟩
  | dead x => exact h3
theorem Chg.one (w : World) (g i : Nat) (u : Value) : Chg (· = g) w (w.setCell ⟨g, i, none⟩ u) := Chg.setCell (S := (· = g)) (p := ⟨g, i, none⟩) (Chg.refl _ _) (fun _ => rfl) u
end

theorem add_succ' (ad : Addr) (k : Nat) : ad.add (k + 1) = ⟨ad.block, ad.off + (k + 1), none⟩ := by simp [Addr.add]
/-- s[k+1:], as the walk spells it. -/
theorem RB.dropc {w : World} {ad : Addr} {c k : Nat} {l : Bs} (h : RB w (.slice (some ad) l.length c) l) (hk : k < l.length) :
    (c = k + 1 → RB w (.slice (some ad) (l.length - (k + 1)) 0) (l.drop (k + 1))) ∧ RB w (.slice (some ⟨ad.block, ad.off + (k + 1), none⟩) (l.length - (k + 1)) (c - (k + 1))) (l.drop (k + 1)) := by
  have h0 := h
  refine ⟨fun e => ?_, by rw [← add_succ']; exact h.drop (by omega)⟩
  rcases h0 with ⟨e1, _⟩ | ⟨ad', c', e1, h1, h2, h3⟩
  · cases e1
  · simp only [Value.slice.injEq, Option.some.injEq, true_and] at e1
    obtain ⟨rfl, rfl⟩ := e1
    have hl : l.length = k + 1 := by omega
    rw [List.drop_of_length_le (by omega)]
    refine .inr ⟨ad, 0, by rw [hl]; simp, by simp, (fun h => absurd h (by omega)), fun j b hj => by simp at hj⟩
theorem good_bound {k U P : Nat} {c : UInt8} (hk : k ≤ 9) (hnb : ¬ ((k = 9 ∧ c.toNat ≠ 1) ∨ (c.toNat = 0 ∧ 0 < k))) (hs : c.toNat < 128) (hU : U < P) (hP : 128 ^ k = P) : U + P * c.toNat < 18446744073709551616 := by
  by_cases h9 : k = 9
  · subst h9
    rw [pow128_9] at hP
    have : c.toNat = 1 := by omega
    rw [this]; omega
  · have hPl : P ≤ 72057594037927936 := hP ▸ pow128_8 (by omega)
    have hPc : P * c.toNat ≤ P * 127 := Nat.mul_le_mul_left _ (by omega)
    omega
theorem unzig_odd {V q : Nat} (h : V % 2 = 1) (hq : V / 2 = q) : unzig V = -(q : Int) - 1 := by unfold unzig; rw [if_pos h, hq]
theorem unzig_even {V q : Nat} (h : ¬ V % 2 = 1) (hq : V / 2 = q) : unzig V = (q : Int) := by unfold unzig; rw [if_neg h, hq]
end Go.Proofs.Ytmmfkepkdmmmkaa
