/- moveDown, settle. -/
import Derived.Test.YtkdabnhhjjmibaaHS4
namespace Go.Proofs.Ytkdabnhhjjmibaa
open Go.RowKit Go.Lib Hp

theorem boxed_cellsS {w : World} {B : Nat} {e : Int × KS} (h : w.heap[B]? = some (boxedS e)) : w.cell? ⟨B, 0, none⟩ = some (.int .i64 e.1) ∧ w.cell? ⟨B, 1, none⟩ = some (Value.string ⟨List.toArray (e.2)⟩) := by
  constructor
  · rw [cell_of_row _ _ 0 _ _ _ h]; rfl
  · rw [cell_of_row _ _ 1 _ _ _ h]; rfl

theorem down_anyS (hb : Nat) (v : Value) (m : Option Nat) (s : St KS) (n i : Nat) (e : Int × KS) (x : List (Int × KS)) (w : World) (H : HeapAtS w hb v m s n) (ho : Hole ltS s i e x) (hu : Up ltS s i e) (hl : s.l.length ≤ 1000000) (hx : ∀ a ∈ x, Fits a.1) (hn : n + s.l.length < maxLen) :
    Calls Try.prog 36 #[.pointer (some ⟨hb, 0, none⟩), .int .i64 i, .agg #[.int .i64 e.1, (Value.string ⟨List.toArray (e.2)⟩)]] w fun r w' => ∃ (k : Nat) (m' : Option Nat) (s' : St KS), r = .returned (.int .i64 k) ∧ HeapAtS w' hb v m' s' (n + s.l.length) ∧ Hole ltS s' k e x ∧ Up ltS s' k e ∧ (∀ j b, 0 < j → (j - 1) / 2 = k → s'.l[j]? = some b → prec ltS b e = false) ∧ Moved hb v m v m' w w' := by
  have hbx : (w.alloc (.cells #[.int .i64 e.1, (Value.string ⟨List.toArray (e.2)⟩)] 73)).heap[w.heap.size]? = some (boxedS e) := heap_alloc_new w _
  have H1 := H.below ((Below.refl _ _).alloc (Nat.le_refl _) (.cells #[.int .i64 e.1, (Value.string ⟨List.toArray (e.2)⟩)] 73))
  have M1 : Moved hb v m v m w (w.alloc (.cells #[.int .i64 e.1, (Value.string ⟨List.toArray (e.2)⟩)] 73)) := Moved.of_below ((Below.refl _ _).alloc (Nat.le_refl _) _)
  have hB : ¬ foot hb v m w.heap.size := fun h => by have := H.lt _ h; omega
  have hBl : w.heap.size < (w.alloc (.cells #[.int .i64 e.1, (Value.string ⟨List.toArray (e.2)⟩)] 73)).heap.size := by simp
  have hil := ho.ins
  obtain ⟨g, cap, rfl⟩ := H.row.form' (by omega)
  go_enter Try.func36, Try.ntmps36
  go_wp2
  generalize (w.alloc (.cells #[.int .i64 e.1, (Value.string ⟨List.toArray (e.2)⟩)] 73)) = W1 at *
  generalize w.heap.size = B at *
  go_loopw [1] (fun i' w' => ∃ (k : Nat) (m' : Option Nat) (s' : St KS), i' = .int .i64 k ∧ i ≤ k ∧ HeapAtS w' hb (.slice (some ⟨g, 0, none⟩) s.l.length cap) m' s' (n + (k - i)) ∧ Hole ltS s' k e x ∧ Up ltS s' k e ∧ Moved hb (.slice (some ⟨g, 0, none⟩) s.l.length cap) m (.slice (some ⟨g, 0, none⟩) s.l.length cap) m' W1 w' ∧ w'.heap[B]? = some (boxedS e)) (fun i' _ => s.l.length - (intOf i').toNat)
  case atStart => exact ⟨i, m, s, rfl, Nat.le_refl _, H1.mono (by omega), ho, hu, Moved.refl _ _ _ _, hbx⟩
  case round =>
    obtain ⟨k, m', s', rfl, hk, H2, ho2, hu2, M2, hbx2⟩ := hrel
    have hlen : s'.l.length = s.l.length := by rw [ho2.len, ho.len]
    have hkl := ho2.ins
    have H2' := Lib.hid H2
    clear H2
    go_wp2_with (go_at_call 41; refine (child_anyS hb _ m' s' _ k _ H2'.out hkl (by omega)).mono ?_; rintro r w2 ⟨c, rfl, hc, b2⟩)
    have H2 := H2'.out.below b2
    have M2 := M2.trans (Moved.of_below b2)
    have hBr0 : B < wr.heap.size := (Array.getElem?_eq_some_iff.1 hbx2).1
    have hbx3 : w2.heap[B]? = some (boxedS e) := (b2.block B hBr0).trans hbx2
    have hBr : B < w2.heap.size := (Array.getElem?_eq_some_iff.1 hbx3).1
    have hBn : ¬ foot hb (.slice (some ⟨g, 0, none⟩) s.l.length cap) m' B := M2.not hBl hB
    clear H2' b2 hbx2 hBr0
    rcases hc with ⟨rfl, hno⟩ | ⟨hc0, hci, p, hp, hmin⟩
    · have hend : ∀ j b, 0 < j → (j - 1) / 2 = k → s'.l[j]? = some b → prec ltS b e = false := fun j b hj hj2 hb => by
        have := (List.getElem?_eq_some_iff.1 hb).1; omega
      have hend := Lib.hid hend
      go_wp2
      go_quiet (fail)
      go_wp2
      go_ret
      exact ⟨k, m', s', rfl, (H2.below (below_drewN (Below.refl _ _) _)).mono (by omega), ho2, hu2, hend.out, (M1.trans M2).trans (Moved.of_below (below_drewN (Below.refl _ _) _))⟩
    · have hcl : c < s'.l.length := (List.getElem?_eq_some_iff.1 hp).1
      have hg1 : ((c : Int) == 0) = false := by simp; omega
      have hg2 : (c == 0) = false := by simp; omega
      have hcz : ¬ c = 0 := by omega
      have hc1 : (0 : Int) ≤ (c : Int) := by omega
      have hc2 : (c : Int) < (s.l.length : Int) := by omega
      have c0 := H2.c0
      have d0 : w2.cell? ⟨B, 0, none⟩ = some (.int .i64 e.1) := by rw [cell_of_row _ _ 0 _ _ _ hbx3]; rfl
      have d1 : w2.cell? ⟨B, 1, none⟩ = some (Value.string ⟨List.toArray (e.2)⟩) := by rw [cell_of_row _ _ 1 _ _ _ hbx3]; rfl
      have hrow := H2.row
      rw [← hlen] at hrow
      obtain ⟨p0, p1⟩ := hrow.cell hp
      clear hrow
      have hmin := Lib.hid hmin
      go_wp2
      go_region_held3 (fun w' => w'.cell? ⟨hb, 0, none⟩ = some (.slice (some ⟨g, 0, none⟩) s.l.length cap) ∧ w'.cell? ⟨g, c * 2, none⟩ = some (.int .i64 p.1) ∧ w'.cell? ⟨g, c * 2 + 1, none⟩ = some (Value.string ⟨List.toArray (p.2)⟩) ∧ w'.cell? ⟨B, 0, none⟩ = some (.int .i64 e.1) ∧ w'.cell? ⟨B, 1, none⟩ = some (Value.string ⟨List.toArray (e.2)⟩) ∧ Below w2.heap.size w2 w')
        (first | exact ⟨c0, p0, p1, d0, d1, (Below.refl _ _).drew⟩ | exact keep5 (w0 := w2) (w := w2.drew) ⟨c0, p0, p1, d0, d1, (Below.refl _ _).drew⟩ (by assumption))
        ((go_at_call 40; refine (precedesS p e _).mono ?_; rintro r w' ⟨rfl, hbw⟩))
      have b3 : Below w2.heap.size w2 w' := (Below.refl _ _).drew.trans hbw
      have H3 := H2.below b3
      have M3 := M2.trans (Moved.of_below b3)
      have hbx4 : w'.heap[B]? = some (boxedS e) := (b3.block B hBr).trans hbx3
      have hBr3 : B < w'.heap.size := (Array.getElem?_eq_some_iff.1 hbx4).1
      clear c0 p0 p1 d0 d1 hbw hbx3 H2 M2
      have hrow := H3.row
      rw [← hlen] at hrow
      have c0 := H3.c0
      obtain ⟨p0, p1⟩ := hrow.cell hp
      clear hrow
      cases hpr : prec ltS p e
      · have hend : ∀ j b, 0 < j → (j - 1) / 2 = k → s'.l[j]? = some b → prec ltS b e = false := fun j b hj hj2 hb => le_tr strictS hpr (hmin.out j b hj hj2 hb)
        have hend := Lib.hid hend
        go_wp2
        go_ret
        exact ⟨k, m', s', rfl, H3.mono (by omega), ho2, hu2, hend.out, M1.trans M3⟩
      · have hpx : p ∈ x := (ho2.M p).2 (.inr ⟨c, by omega, hp⟩)
        have H3' := Lib.hid H3
        go_wp2_with (go_at_call 37; refine (place_anyS hb _ m' s' _ k p _ H3'.out hkl (by omega) (hx p hpx) (by omega)).mono ?_; rintro r w4 ⟨⟨v4, rfl⟩, m4, H4, M4⟩)
        obtain ⟨ho4, hu4⟩ := ho2.moveDown strictS hc0 hci hp hmin.out hpr
        refine ⟨⟨c, m4, s'.place k p, rfl, by omega, H4.mono (by omega), ho4, hu4, M3.trans M4, M4.chg.at hbx4 (M3.not hBl hB)⟩, by simp [intOf]; omega⟩

theorem settle_anyS (hb : Nat) (v : Value) (m : Option Nat) (s : St KS) (n i : Nat) (e : Int × KS) (x : List (Int × KS)) (w : World) (H : HeapAtS w hb v m s n) (ho : Hole ltS s i e x) (hl : s.l.length ≤ 1000000) (hx : ∀ a ∈ x, Fits a.1) (hn : n + 2 * s.l.length + 1 < maxLen) :
    Calls Try.prog 29 #[.pointer (some ⟨hb, 0, none⟩), .int .i64 i, .agg #[.int .i64 e.1, (Value.string ⟨List.toArray (e.2)⟩)]] w fun r w' => (∃ v, r = .returned v) ∧ ∃ (m' : Option Nat) (s' : St KS), HeapAtS w' hb v m' s' (n + 2 * s.l.length + 1) ∧ Hp.Good ltS s' x ∧ Moved hb v m v m' w w' := by
  have hbx : (w.alloc (.cells #[.int .i64 e.1, (Value.string ⟨List.toArray (e.2)⟩)] 73)).heap[w.heap.size]? = some (boxedS e) := heap_alloc_new w _
  have H1 := Lib.hid (H.below ((Below.refl _ _).alloc (Nat.le_refl _) (.cells #[.int .i64 e.1, (Value.string ⟨List.toArray (e.2)⟩)] 73)))
  have M1 : Moved hb v m v m w (w.alloc (.cells #[.int .i64 e.1, (Value.string ⟨List.toArray (e.2)⟩)] 73)) := Moved.of_below ((Below.refl _ _).alloc (Nat.le_refl _) _)
  have hB : ¬ foot hb v m w.heap.size := fun h => by have := H.lt _ h; omega
  have hBl : w.heap.size < (w.alloc (.cells #[.int .i64 e.1, (Value.string ⟨List.toArray (e.2)⟩)] 73)).heap.size := by simp
  have hil := ho.ins
  have hex : Fits e.1 := hx e ((ho.M e).2 (.inl rfl))
  obtain ⟨d1, t1⟩ := boxed_cellsS hbx
  go_enter Try.func29, Try.ntmps29
  go_wp2_with fail
  generalize (w.alloc (.cells #[.int .i64 e.1, (Value.string ⟨List.toArray (e.2)⟩)] 73)) = W1 at *
  generalize w.heap.size = B at *
  refine (up_anyS hb v m s n i e x W1 H1.out ho hl hx (by omega)).mono ?_
  rintro r w2 ⟨k, m2, s2, rfl, H2, ho2, hu2, M2⟩
  have hl2 : s2.l.length = s.l.length := by rw [ho2.len, ho.len]
  have hbx2 := M2.chg.at hbx hB
  obtain ⟨d2, t2⟩ := boxed_cellsS hbx2
  have H2 := Lib.hid H2
  go_wp2_with fail
  refine (down_anyS hb v m2 s2 (n + i) k e x w2 H2.out ho2 hu2 (by omega) hx (by omega)).mono ?_
  rintro r w3 ⟨k3, m3, s3, rfl, H3, ho3, hu3, hd3, M3⟩
  have hbx3 := M3.chg.at hbx2 (M2.not hBl hB)
  obtain ⟨d3, t3⟩ := boxed_cellsS hbx3
  have H3 := Lib.hid H3
  have hd3 := Lib.hid hd3
  have hl3 : s3.l.length = s.l.length := by rw [ho3.len, ho.len]
  go_wp2_with fail
  refine (place_anyS hb v m3 s3 (n + i + s2.l.length) k3 e w3 H3.out ho3.ins (by omega) hex (by omega)).mono ?_
  rintro r w4 ⟨⟨v4, rfl⟩, m4, H4, M4⟩
  have H4 := Lib.hid H4
  go_wp2
  go_end0
  exact ⟨⟨_, rfl⟩, m4, _, H4.out.mono (by omega), ho3.done strictS hu3 hd3.out, ((M1.trans M2).trans M3).trans M4⟩
end Go.Proofs.Ytkdabnhhjjmibaa
