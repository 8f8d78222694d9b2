/- moveUp. -/
import Derived.Test.YtkdabnhhjjmibaaHS2
namespace Go.Proofs.Ytkdabnhhjjmibaa
open Go.RowKit Go.Lib Hp

theorem place_anyS (hb : Nat) (v : Value) (m : Option Nat) (s : St KS) (n i : Nat) (e : Int × KS) (w : World) (H : HeapAtS w hb v m s n) (hi : i < s.l.length) (hl : s.l.length ≤ 1000000) (he : Fits e.1) (hn : n < maxLen) :
    Calls Try.prog 37 #[.pointer (some ⟨hb, 0, none⟩), .int .i64 i, .agg #[.int .i64 e.1, (Value.string ⟨List.toArray (e.2)⟩)]] w fun r w' => (∃ v, r = .returned v) ∧ ∃ m', HeapAtS w' hb v m' (s.place i e) (n + 1) ∧ Moved hb v m v m' w w' := by
  obtain ⟨g, cap, rfl⟩ := H.row.form' (by omega)
  cases m with
  | none =>
    refine (place_noneS hb g cap s n i e w H hi (by omega) he hn _ rfl).mono ?_
    rintro r w' ⟨h1, h2, h3⟩
    refine ⟨h1, _, h2, h3, ?_⟩
    rintro k (h | h | h)
    · exact .inl (.inl h)
    · exact .inl (.inr (.inl h))
    · injection h with h; subst h; exact .inr (Nat.le_succ _)
  | some b =>
    refine (place_someS hb g cap b s n i e w H hi (by omega) he hn).mono ?_
    rintro r w' ⟨h1, h2, h3⟩
    exact ⟨h1, _, h2, h3, fun _ h => .inl h⟩

def boxedS (e : Int × KS) : Obj := .cells #[.int .i64 e.1, (Value.string ⟨List.toArray (e.2)⟩)] 73 (0, 0)

theorem up_anyS (hb : Nat) (v : Value) (m : Option Nat) (s : St KS) (n i : Nat) (e : Int × KS) (x : List (Int × KS)) (w : World) (H : HeapAtS w hb v m s n) (ho : Hole ltS s i e x) (hl : s.l.length ≤ 1000000) (hx : ∀ a ∈ x, Fits a.1) (hn : n + i < maxLen) :
    Calls Try.prog 35 #[.pointer (some ⟨hb, 0, none⟩), .int .i64 i, .agg #[.int .i64 e.1, (Value.string ⟨List.toArray (e.2)⟩)]] w fun r w' => ∃ (k : Nat) (m' : Option Nat) (s' : St KS), r = .returned (.int .i64 k) ∧ HeapAtS w' hb v m' s' (n + i) ∧ Hole ltS s' k e x ∧ Up ltS s' k e ∧ Moved hb v m v m' w w' := by
  have hbx : (w.alloc (.cells #[.int .i64 e.1, (Value.string ⟨List.toArray (e.2)⟩)] 73)).heap[w.heap.size]? = some (boxedS e) := heap_alloc_new w _
  have H1 := H.below ((Below.refl _ _).alloc (Nat.le_refl _) (.cells #[.int .i64 e.1, (Value.string ⟨List.toArray (e.2)⟩)] 73))
  have M1 : Moved hb v m v m w (w.alloc (.cells #[.int .i64 e.1, (Value.string ⟨List.toArray (e.2)⟩)] 73)) := Moved.of_below ((Below.refl _ _).alloc (Nat.le_refl _) _)
  have hB : ¬ foot hb v m w.heap.size := fun h => by have := H.lt _ h; omega
  have hBl : w.heap.size < (w.alloc (.cells #[.int .i64 e.1, (Value.string ⟨List.toArray (e.2)⟩)] 73)).heap.size := by simp
  have hil := ho.ins
  obtain ⟨g, cap, rfl⟩ := H.row.form' (by omega)
  go_enter Try.func35, Try.ntmps35
  go_wp2
  generalize (w.alloc (.cells #[.int .i64 e.1, (Value.string ⟨List.toArray (e.2)⟩)] 73)) = W1 at *
  generalize w.heap.size = B at *
  go_loopw [1] (fun i' w' => ∃ (k : Nat) (m' : Option Nat) (s' : St KS), i' = .int .i64 k ∧ k ≤ i ∧ HeapAtS w' hb (.slice (some ⟨g, 0, none⟩) s.l.length cap) m' s' (n + (i - k)) ∧ Hole ltS s' k e x ∧ Moved hb (.slice (some ⟨g, 0, none⟩) s.l.length cap) m (.slice (some ⟨g, 0, none⟩) s.l.length cap) m' W1 w' ∧ w'.heap[B]? = some (boxedS e)) (fun i' _ => (intOf i').toNat)
  case atStart => exact ⟨i, m, s, rfl, Nat.le_refl _, H1.mono (by omega), ho, Moved.refl _ _ _ _, hbx⟩
  case round =>
    obtain ⟨k, m', s', rfl, hk, H2, ho2, M2, hbx2⟩ := hrel
    by_cases h0 : k = 0
    · subst h0
      go_wp2
      go_ret
      exact ⟨0, m', s', rfl, H2.mono (by omega), ho2, fun p h => by omega, M1.trans M2⟩
    · have hlen : s'.l.length = s.l.length := by rw [ho2.len, ho.len]
      have hkl := ho2.ins
      have hq : IntKind.i64.wrap ((k : Int) - 1) = ((k - 1 : Nat) : Int) := by rw [IntKind.wrap_i64]; omega
      obtain ⟨q, hqd⟩ : ∃ q, (k - 1) / 2 = q := ⟨_, rfl⟩
      have hq2 : (((k - 1 : Nat) : Int)) / 2 = (q : Int) := by omega
      have hql : q < s'.l.length := by omega
      have hkp : (0 : Int) < (k : Int) := by omega
      obtain ⟨p, hp⟩ : ∃ p, s'.l[q]? = some p := ⟨_, List.getElem?_eq_getElem hql⟩
      have hrow := H2.row
      rw [← hlen] at hrow
      obtain ⟨p0, p1⟩ := hrow.cell hp
      clear hrow
      have c0 := H2.c0
      have d0 : wr.cell? ⟨B, 0, none⟩ = some (.int .i64 e.1) := by rw [cell_of_row _ _ 0 _ _ _ hbx2]; rfl
      have d1 : wr.cell? ⟨B, 1, none⟩ = some (Value.string ⟨List.toArray (e.2)⟩) := by rw [cell_of_row _ _ 1 _ _ _ hbx2]; rfl
      have hq0 : (0 : Int) ≤ (q : Int) := by omega
      have hql' : (q : Int) < (s.l.length : Int) := by omega
      go_wp2
      go_region_held3 (fun w' => w'.cell? ⟨hb, 0, none⟩ = some (.slice (some ⟨g, 0, none⟩) s.l.length cap) ∧ w'.cell? ⟨g, q * 2, none⟩ = some (.int .i64 p.1) ∧ w'.cell? ⟨g, q * 2 + 1, none⟩ = some (Value.string ⟨List.toArray (p.2)⟩) ∧ w'.cell? ⟨B, 0, none⟩ = some (.int .i64 e.1) ∧ w'.cell? ⟨B, 1, none⟩ = some (Value.string ⟨List.toArray (e.2)⟩) ∧ Below wr.heap.size wr w')
        (first | exact ⟨c0, p0, p1, d0, d1, (Below.refl _ _).drew⟩ | exact keep5 (w0 := wr) (w := wr.drew) ⟨c0, p0, p1, d0, d1, (Below.refl _ _).drew⟩ (by assumption))
        ((go_at_call 40; refine (precedesS e p _).mono ?_; rintro r w' ⟨rfl, hbw⟩))
      have b3 : Below wr.heap.size wr w' := (Below.refl _ _).drew.trans hbw
      have H3 := H2.below b3
      have M3 := M2.trans (Moved.of_below b3)
      have hBn : ¬ foot hb (.slice (some ⟨g, 0, none⟩) s.l.length cap) m' B := M2.not hBl hB
      have hBr : B < wr.heap.size := (Array.getElem?_eq_some_iff.1 hbx2).1
      have hbx3 : w'.heap[B]? = some (boxedS e) := (b3.block B hBr).trans hbx2
      have hBr3 : B < w'.heap.size := (Array.getElem?_eq_some_iff.1 hbx3).1
      clear c0 p0 p1 d0 d1 hbw hbx2 H2 M2
      have hrow := H3.row
      rw [← hlen] at hrow
      have c0 := H3.c0
      obtain ⟨p0, p1⟩ := hrow.cell hp
      clear hrow
      cases hpr : prec ltS e p
      · go_wp2
        go_ret
        exact ⟨k, m', s', rfl, H3.mono (by omega), ho2, fun p' _ hp' => by rw [hqd, hp] at hp'; injection hp' with hp'; rw [← hp']; exact hpr, M1.trans M3⟩
      · have hpx : p ∈ x := (ho2.M p).2 (.inr ⟨q, by omega, hp⟩)
        have H3' := Lib.hid H3
        go_wp2_with (go_at_call 37; refine (place_anyS hb _ m' s' _ k p _ H3'.out hkl (by omega) (hx p hpx) (by omega)).mono ?_; rintro r w4 ⟨⟨v4, rfl⟩, m4, H4, M4⟩)
        refine ⟨⟨q, m4, s'.place k p, rfl, by omega, H4.mono (by omega), ?_, M3.trans M4, M4.chg.at hbx3 (M3.not hBl hB)⟩, by simp [intOf]; omega⟩
        rw [← hqd]
        exact ho2.moveUp strictS (by omega) (by rw [hqd]; exact hp)
end Go.Proofs.Ytkdabnhhjjmibaa
