/- The code: its objects in memory; fail, take. -/
import Derived.Test.YtmmfkepkdmmmkaaRB
import Derived.Test.YtmmfkepkdmmmkaaK1
set_option linter.unusedVariables false
namespace Go.Proofs.Ytmmfkepkdmmmkaa
open Go.RowKit Go.Lib Wr

/-- Only blocks from lo to hi. -/
def Iv (lo hi : Nat) (k : Nat) : Prop := lo ≤ k ∧ k < hi

/-- The cells of the zero Writer. -/
def wrZero : Array Value := #[.slice none 0 0]
/-- A Writer at block g that has written l; its blocks are not below B. -/
def WrP (w : World) (g B : Nat) (l : Bs) : Prop := ∃ v, w.heap[g]? = some (.cells #[v] 46 (0, 0)) ∧ OwnB w B v l ∧ v.ownBlock ≠ some g ∧ B ≤ g
theorem WrP.below {w w' : World} {g B : Nat} {l : Bs} (h : WrP w g B l) (hb : Below w.heap.size w w') : WrP w' g B l := by
  obtain ⟨v, h1, h2, h3⟩ := h
  exact ⟨v, (hb.block g (Array.getElem?_eq_some_iff.1 h1).1).trans h1, h2.below hb, h3⟩
theorem WrP.zero (w : World) {B : Nat} (hB : B ≤ w.heap.size) : WrP (w.alloc (.cells wrZero 46)) w.heap.size B [] :=
  ⟨.slice none 0 0, heap_alloc_new w _, OwnB.nil _ _, (fun e => by cases e), hB⟩

/-- A Reader at block g; its blocks lie from lo to hi. -/
def RdP (w : World) (g lo hi : Nat) (s : St) : Prop := ∃ v e, w.heap[g]? = some (.cells #[v, .int .i64 e] 60 (0, 0)) ∧ lo ≤ g ∧ g < hi ∧ hi ≤ w.heap.size ∧
  match s with
  | .live b => e = 0 ∧ RB w v b ∧ ∀ ad n c, v = .slice (some ad) n c → 0 < c → lo ≤ ad.block ∧ ad.block < hi
  | .dead x => e = (x : Int) ∧ x ≠ 0 ∧ v = .slice none 0 0
theorem RdP.kept {w w' : World} {g lo hi : Nat} {s : St} (h : RdP w g lo hi s) (hs : w.heap.size ≤ w'.heap.size) (hk : ∀ k, lo ≤ k → k < hi → w'.heap[k]? = w.heap[k]?) : RdP w' g lo hi s := by
  obtain ⟨v, e, h1, h2, h3, h4, h5⟩ := h
  refine ⟨v, e, (hk g h2 h3).trans h1, h2, h3, Nat.le_trans h4 hs, ?_⟩
  cases s with
  | live b => exact ⟨h5.1, h5.2.1.kept hs (fun ad n c e h0 => hk _ (h5.2.2 ad n c e h0).1 (h5.2.2 ad n c e h0).2), h5.2.2⟩
  | dead x => exact h5
theorem RdP.hi {w : World} {g lo hi : Nat} {s : St} (h : RdP w g lo hi s) : hi ≤ w.heap.size := by
  obtain ⟨v, e, h1, h2, h3, h4, h5⟩ := h
  exact h4
theorem RdP.below {w w' : World} {g lo hi : Nat} {s : St} (h : RdP w g lo hi s) (hb : Below w.heap.size w w') : RdP w' g lo hi s :=
  h.kept hb.size fun k _ hk => hb.block k (Nat.lt_of_lt_of_le hk h.hi)
/-- Another reader's work. -/
theorem RdP.far {w w' : World} {g lo hi lo' hi' : Nat} {s : St} (h : RdP w g lo hi s) (k : Chg (Iv lo' hi') w w') (hd : hi ≤ lo' ∨ hi' ≤ lo) : RdP w' g lo hi s :=
  h.kept k.size fun i h1 h2 => k.block i (Nat.lt_of_lt_of_le h2 h.hi) (fun e => by obtain ⟨e1, e2⟩ := e; omega)

theorem two_cells {w : World} {g : Nat} {v : Value} {e : Int} {t : TypeId} (h : w.heap[g]? = some (.cells #[v, .int .i64 e] t (0, 0))) : w.cell? ⟨g, 0, none⟩ = some v ∧ w.cell? ⟨g, 1, none⟩ = some (.int .i64 e) ∧ w.frozen? ⟨g, 0, none⟩ = false ∧ w.frozen? ⟨g, 1, none⟩ = false := by
  refine ⟨by rw [cell_of_row _ _ 0 _ _ _ h]; rfl, by rw [cell_of_row _ _ 1 _ _ _ h]; rfl, ?_, ?_⟩
  · unfold World.frozen?; rw [h]; rfl
  · unfold World.frozen?; rw [h]; rfl
/-- What an error leaves. -/
def St.failed (x : Nat) : St → Nat
  | .live _ => x
  | .dead e => e
theorem iv_in {w : World} {g lo hi : Nat} {s : St} (h : RdP w g lo hi s) : lo ≤ g ∧ g < hi := by
  obtain ⟨v, e, h1, h2, h3, h4⟩ := h
  exact ⟨h2, h3⟩
theorem RdP.die {w : World} {g lo hi : Nat} {b : Bs} (h : RdP w g lo hi (.live b)) {x : Nat} (hx : x ≠ 0) : RdP ((w.setCell ⟨g, 1, none⟩ (.int .i64 (x : Int))).setCell ⟨g, 0, none⟩ (.slice none 0 0)) g lo hi (.dead x) := by
  obtain ⟨v, e, h1, h2, h3, h4, h5⟩ := h
  have h1' : (w.setCell ⟨g, 1, none⟩ (.int .i64 (x : Int))).heap[g]? = some (.cells #[v, .int .i64 (x : Int)] 60 (0, 0)) := by rw [heap_setCell_same w g 1 _ _ _ h1]; rfl
  exact ⟨.slice none 0 0, x, by rw [heap_setCell_same _ g 0 _ _ _ h1']; rfl, h2, h3, by simpa using h4, rfl, hx, rfl⟩
theorem RdP.dead_again {w : World} {g lo hi : Nat} {x : Nat} (h : RdP w g lo hi (.dead x)) : RdP (w.setCell ⟨g, 0, none⟩ (.slice none 0 0)) g lo hi (.dead x) := by
  obtain ⟨v, e, h1, h2, h3, h4, h5, h6, h7⟩ := h
  exact ⟨.slice none 0 0, e, by rw [heap_setCell_same w g 0 _ _ _ h1]; rfl, h2, h3, by simpa using h4, h5, h6, rfl⟩
theorem RdP.go {w : World} {g lo hi : Nat} {b b' : Bs} (h : RdP w g lo hi (.live b)) {A : Option Addr} {n c : Nat} (hr : RB w (.slice A n c) b') (hl : ∀ ad, A = some ad → 0 < c → lo ≤ ad.block ∧ ad.block < hi) : RdP (w.setCell ⟨g, 0, none⟩ (.slice A n c)) g lo hi (.live b') := by
  obtain ⟨v, e, h1, h2, h3, h4, h5, h6, h7⟩ := h
  refine ⟨.slice A n c, e, by rw [heap_setCell_same w g 0 _ _ _ h1]; rfl, h2, h3, by simpa using h4, h5, ?_, fun ad n' c' e h0 => by injection e with e1 e2 e3; exact hl ad e1 (e3 ▸ h0)⟩
  exact hr.other h1 (by obtain ⟨A, c, e⟩ := h6.form; exact ⟨A, _, c, e⟩) (by simp) fun k hk hn => heap_setCell_other w ⟨g, 0, none⟩ k _ hn
theorem Chg.iv1 {w : World} {g lo hi : Nat} (h : lo ≤ g ∧ g < hi) (i : Nat) (u : Value) : Chg (Iv lo hi) w (w.setCell ⟨g, i, none⟩ u) := Chg.setCell (p := ⟨g, i, none⟩) (Chg.refl _ _) (fun _ => h) u

theorem fail_live (g lo hi : Nat) (b : Bs) (x : Nat) (w : World) (H : RdP w g lo hi (.live b)) (hx : x ≠ 0) (hx6 : x < 100) : Calls Try.prog 38 #[.pointer (some ⟨g, 0, none⟩), .int .i64 (x : Int)] w fun r w' => (∃ u, r = .returned u) ∧ RdP w' g lo hi (.dead x) ∧ Chg (Iv lo hi) w w' := by
  have H' := Lib.hid H
  have hg := iv_in H
  obtain ⟨v, e', h1, _, _, _, rfl, hR, hlow⟩ := H
  obtain ⟨c0, c1, f0, f1⟩ := two_cells h1
  obtain ⟨A, cap, rfl⟩ := hR.form
  clear h1
  have f0' : (w.setCell ⟨g, 1, none⟩ (.int .i64 (x : Int))).frozen? ⟨g, 0, none⟩ = false := by rw [World.frozen?_setCell]; exact f0
  go_enter Try.func38, Try.ntmps38
  go_wp2
  go_end0
  exact ⟨⟨_, rfl⟩, H'.out.die hx, (Chg.iv1 hg 1 _).trans (Chg.iv1 hg 0 _) fun _ _ h => h⟩
theorem fail_dead (g lo hi : Nat) (e x : Nat) (w : World) (H : RdP w g lo hi (.dead e)) : Calls Try.prog 38 #[.pointer (some ⟨g, 0, none⟩), .int .i64 (x : Int)] w fun r w' => (∃ u, r = .returned u) ∧ RdP w' g lo hi (.dead e) ∧ Chg (Iv lo hi) w w' := by
  have H' := Lib.hid H
  have hg := iv_in H
  obtain ⟨v, e', h1, _, _, _, rfl, h0, rfl⟩ := H
  obtain ⟨c0, c1, f0, f1⟩ := two_cells h1
  have t1 : ((e : Int) == 0) = false := by simp; omega
  have t2 : ¬ e = 0 := h0
  clear h1
  go_enter Try.func38, Try.ntmps38
  go_wp2
  go_end0
  exact ⟨⟨_, rfl⟩, H'.out.dead_again, Chg.iv1 hg 0 _⟩
theorem fail_any (g lo hi : Nat) (s : St) (x : Nat) (w : World) (H : RdP w g lo hi s) (hx : x ≠ 0) (hx6 : x < 100) : Calls Try.prog 38 #[.pointer (some ⟨g, 0, none⟩), .int .i64 (x : Int)] w fun r w' => (∃ u, r = .returned u) ∧ RdP w' g lo hi (.dead (St.failed x s)) ∧ Chg (Iv lo hi) w w' := by
  cases s with
  | live b => exact fail_live g lo hi b x w H hx hx6
  | dead e => exact fail_dead g lo hi e x w H

theorem take_dead (g lo hi : Nat) (e : Nat) (w : World) (H : RdP w g lo hi (.dead e)) : Calls Try.prog 39 #[.pointer (some ⟨g, 0, none⟩), .int .i64 0] w fun r w' => r = .returned (.slice none 0 0) ∧ RdP w' g lo hi (.dead e) ∧ Chg (Iv lo hi) w w' := by
  have H' := Lib.hid H
  have hg := iv_in H
  obtain ⟨v, e', h1, _, _, _, rfl, h0, rfl⟩ := H
  obtain ⟨c0, c1, f0, f1⟩ := two_cells h1
  clear h1
  go_enter Try.func39, Try.ntmps39
  go_wp2
  go_ret
  exact ⟨rfl, H'.out.dead_again, Chg.iv1 hg 0 _⟩

theorem take_live (g lo hi : Nat) (b : Bs) (n : Nat) (w : World) (H : RdP w g lo hi (.live b)) (hn : n ≤ b.length) (hb : b.length ≤ 100000) : Calls Try.prog 39 #[.pointer (some ⟨g, 0, none⟩), .int .i64 (n : Int)] w fun r w' => ∃ v, r = .returned v ∧ RB w' v (b.take n) ∧ RdP w' g lo hi (.live (b.drop n)) ∧ Chg (Iv lo hi) w w' := by
  have H' := Lib.hid H
  have hg := iv_in H
  obtain ⟨v, e', h1, _, _, _, rfl, hR, hlow⟩ := H
  obtain ⟨c0, c1, f0, f1⟩ := two_cells h1
  obtain ⟨A, cap, rfl⟩ := hR.form
  have hRt := hR.take' hn
  have ho : ∀ u, RB (w.setCell ⟨g, 0, none⟩ u) (.slice A n cap) (b.take n) := fun u => hRt.other h1 ⟨A, _, cap, rfl⟩ (by simp) fun k hk hne => heap_setCell_other w ⟨g, 0, none⟩ k _ hne
  have ho' := Lib.hid ho
  have n1 : (n : Int) ≤ (b.length : Int) := by omega
  have n2 : (0 : Int) ≤ (n : Int) := by omega
  have hcb := hR.cap
  have hcn : n ≤ cap := Nat.le_trans hn hR.cap
  obtain ⟨r1, r2⟩ := hR.drop' hn
  have r1 := Lib.hid r1
  have r2 := Lib.hid r2
  clear h1 ho hRt
  by_cases hcap : cap = n
  · have hR3 := r1.out hcap
    rw [show b.length - n = 0 from by omega] at hR3
    have hR3 := Lib.hid hR3
    subst hcap
    go_enter Try.func39, Try.ntmps39
    go_wp2
    go_ret
    exact ⟨_, rfl, ho'.out _, H'.out.go hR3.out (fun _ _ h => absurd h (by omega)), Chg.iv1 hg 0 _⟩
  · obtain ⟨ad, rfl, hR3⟩ := r2.out hcap
    have hR3 := Lib.hid hR3
    have hl : ∀ ad', some (ad.add n) = some ad' → 0 < cap - n → lo ≤ ad'.block ∧ ad'.block < hi := fun ad' h h0 => by injection h with h; subst h; rw [block_add']; exact hlow _ _ _ rfl (by omega)
    have hl := Lib.hid hl
    clear hlow
    go_enter Try.func39, Try.ntmps39
    go_wp2
    go_ret
    exact ⟨_, rfl, ho'.out _, H'.out.go hR3.out hl.out, Chg.iv1 hg 0 _⟩
end Go.Proofs.Ytmmfkepkdmmmkaa
