/- The law WireStickyError. -/
import Derived.Test.YtmmfkepkdmmmkaaV5
set_option linter.unusedVariables false
set_option linter.unusedSimpArgs false
namespace Go.Proofs.Ytmmfkepkdmmmkaa
open Go.RowKit Go.Lib Wr

set_option maxRecDepth 20000 in
set_option maxHeartbeats 2000000 in
theorem lawSticky (A K : Option Addr) (c d : Nat) (b ks : Bs) (W : World) (hb : RB W (.slice A b.length c) b) (hk : RB W (.slice K ks.length d) ks) (hl : b.length ≤ 9223372036854775807) (hm : ks.length ≤ 9223372036854775807) :
    Calls Try.prog 7 #[.slice A b.length c, .slice K ks.length d] W fun r w' => r = .returned (.bool true) ∧ Below W.heap.size W w' := by
  by_cases hbig : 300 < b.length
  · have hb1 : (300 : Int) < (b.length : Int) := by omega
    go_enter Try.func7, Try.ntmps7
    go_wp2_with fail
    refine (awake_any _).mono ?_
    rintro r w1 ⟨rfl, b1⟩
    go_wp2_with fail
    refine (awake_any _).mono ?_
    rintro r w2 ⟨rfl, b2⟩
    go_wp2
    go_ret
    exact ⟨rfl, then_ b1 b2⟩
  have hb1 : (b.length : Int) ≤ 300 := by omega
  by_cases hbig2 : 100 < ks.length
  · have hb2 : (100 : Int) < (ks.length : Int) := by omega
    go_enter Try.func7, Try.ntmps7
    go_wp2_with fail
    refine (awake_any _).mono ?_
    rintro r w1 ⟨rfl, b1⟩
    go_wp2_with fail
    refine (awake_any _).mono ?_
    rintro r w2 ⟨rfl, b2⟩
    go_wp2
    go_ret
    exact ⟨rfl, then_ b1 b2⟩
  have hb2 : (ks.length : Int) ≤ 100 := by omega
  have hbl : b.length ≤ 300 := by omega
  have hb' := Lib.hid hb
  have hk' := Lib.hid hk
  clear hb hk hbig hbig2
  go_enter Try.func7, Try.ntmps7
  go_wp2_with fail
  refine (awake_any _).mono ?_
  rintro r w1 ⟨rfl, b1⟩
  have hE := OwnB.empty w1 (Nat.le_refl _)
  have hBE : Below w1.heap.size w1 (w1.alloc (.cells #[] 5)) := (Below.refl _ _).alloc (Nat.le_refl _) _
  have hRb := Lib.hid (hb'.out.below (then_ b1 hBE))
  go_wp2_with (at_builtin; refine wpList_append_bytes rfl _ _ rfl w1.heap.size _ [] rfl hE _ b rfl hRb.out (by simp; omega) (by simp) ?_; intro v2 w2 O2 hg2 _)
  have b2 : Below w1.heap.size w1 w2 := hBE.grown hg2 (by simp) (fun k hk => (World.ownsRow.lt hE k hk).1)
  rw [List.nil_append] at O2
  have O2' := Lib.hid O2
  clear O2 hg2 hRb hE hBE
  refine (newReader_any v2 b w1.heap.size w2 O2'.out b2.size (by omega)).mono ?_
  rintro r w3 ⟨g, rfl, R3, b3⟩
  have B13 : Below w1.heap.size w1 w3 := b2.trans (b3.mono b2.size)
  have B3 : Below W.heap.size W w3 := then_ b1 B13
  have hs1 := b1.size
  have hs13 := B13.size
  have hB4 : Below w3.heap.size w3 (w3.alloc (.cells #[.slice A b.length c, .int .i64 0] 29)) := (Below.refl _ _).alloc (Nat.le_refl _) _
  have R4 := Lib.hid (R3.below hB4)
  have F4 : RefAt (w3.alloc (.cells #[.slice A b.length c, .int .i64 0] 29)) w3.heap.size W.heap.size (.live b) := by
    refine ⟨_, 0, heap_alloc_new w3 _, ⟨_, _, _, rfl⟩, rfl, hb'.out.below (then_ B3 hB4), fun ad n c' e h0 => ?_⟩
    rcases hb'.out with ⟨e1, _⟩ | ⟨ad', c2, e1, _, h3, _⟩
    · rw [e1] at e; cases e
    · rw [e1] at e; injection e with e2 e3 e4; injection e2 with e2; subst e2 e4; exact ⟨h3 h0, by omega⟩
  have F4 := Lib.hid F4
  have B4 : Below W.heap.size W (w3.alloc (.cells #[.slice A b.length c, .int .i64 0] 29)) := then_ B3 hB4
  have hsz4 : (w3.alloc (.cells #[.slice A b.length c, .int .i64 0] 29)).heap.size = w3.heap.size + 1 := World.size_alloc _ _
  clear R3 b3 O2' b2 B13 B3 hB4
  go_wp2_with fail
  generalize w3.alloc (.cells #[.slice A b.length c, .int .i64 0] 29) = w4 at R4 F4 B4 hsz4 ⊢
  generalize w1.heap.size = lo at R4 hs1 hs13
  generalize w3.heap.size = h at R4 F4 hsz4 hs13 ⊢
  go_loopw [35] (fun i w' => ∃ k : Nat, i = .int .i64 (k : Int) ∧ k ≤ ks.length ∧ RdP w' g lo h (stK ks k (.live b)) ∧ RefAt w' h W.heap.size (stK ks k (.live b)) ∧ Below W.heap.size W w') (fun i _ => ks.length - (intOf i).toNat)
  case atStart => exact ⟨0, rfl, by omega, by rw [stK_zero]; exact R4.out, by rw [stK_zero]; exact F4.out, B4⟩
  case round =>
    obtain ⟨k, rfl, hk, R5, F5, B5⟩ := hrel
    clear R4 F4 B4
    have hf : (stK ks k (.live b)).Few 100000 := gets_few _ (show b.length ≤ 100000 from by omega)
    have R5' := Lib.hid R5
    have F5' := Lib.hid F5
    have B5' := Lib.hid B5
    have hs5 := B5.size
    have hhw := F5.lt
    clear R5 F5 B5
    by_cases hlt : k < ks.length
    · obtain ⟨x, hx⟩ : ∃ x, ks[k]? = some x := ⟨_, List.getElem?_eq_getElem hlt⟩
      obtain ⟨ad, rfl, d0⟩ := (hk'.out.below B5'.out).at_ hx
      have hst := Lib.hid (stK_succ hx (.live b))
      have e1 : (k : Int) < (ks.length : Int) := by omega
      have e2 : (0 : Int) ≤ (k : Int) := by omega
      obtain ⟨kk, hkk⟩ : ∃ kk : Nat, x.toNat % 5 = kk := ⟨_, rfl⟩
      have s0 : (x.toNat : Int) % 5 = (kk : Int) := by omega
      have hkin : (0 : Int) ≤ (kk : Int) ∧ (kk : Int) ≤ 4 := by omega
      have hkd := Lib.hid (show kd x = (kk : Int) from by unfold kd; rw [hkk])
      generalize stK ks k (.live b) = s at hf R5' F5' hst
      have hres : ∃ t s', get (kk : Int) s = (t, s') ∧ t.l.length ≤ 100000 := ⟨_, _, rfl, get_l_few _ hf⟩
      obtain ⟨t, s', hts, htl⟩ := hres
      have hts' := Lib.hid hts
      have hst := Lib.hid (show stK ks (k + 1) (.live b) = s' from by rw [hst.out, hkd.out, hts])
      have hf' : s'.Few 100000 := by have := get_few (kk : Int) hf; rw [hts] at this; exact this
      clear hx hkk hts
      have hFc := F5'.out
      have hnext : ∀ w9 : World, RdP w9 g lo h s' → RefAt w9 h W.heap.size s' → Below W.heap.size W w9 → RdP w9 g lo h (stK ks (k + 1) (.live b)) ∧ RefAt w9 h W.heap.size (stK ks (k + 1) (.live b)) ∧ Below W.heap.size W w9 := fun w9 h1 h2 h3 => by rw [hst.out]; exact ⟨h1, h2, h3⟩
      have hnext := Lib.hid hnext
      cases s with
      | live b2 =>
        obtain ⟨vF, eF, hF1, ⟨AF, nF, cF, rfl⟩, rfl, _⟩ := hFc
        obtain ⟨c0, c1, f0, f1⟩ := two_cells hF1
        clear hF1
        go_wp2_with fail
        refine (rdget_any h kk (.live b2) wr F5'.out hf hkin).mono ?_
        rintro r w5 ⟨v5, rfl, T5, F6, k5⟩
        rw [hts'.out] at T5 F6
        have R6 := Lib.hid (R5'.out.ref k5 (Nat.le_refl _))
        have F6' := Lib.hid F6
        have hs6 := k5.size
        have B6 := Lib.hid (B5'.out.trans (chg_ref k5 (by omega) (by omega)))
        clear T5 F6 k5
        go_wp2_with fail
        refine (read_any g lo h kk (.live b2) w5 R6.out hf hkin).mono ?_
        rintro r w6 ⟨v6, rfl, T6, R7, k6⟩
        rw [hts'.out] at T6 R7
        have F7 := Lib.hid (F6'.out.far k6 (by omega) (Nat.le_refl _) (by omega))
        have B7 := Lib.hid (B6.out.trans (chg_below k6 (by omega) (by omega)))
        have R7' := Lib.hid R7
        obtain ⟨u6, rfl, O6⟩ := T6
        obtain ⟨A6, c6, rfl⟩ := O6.form
        clear R7 k6 O6
        have hB8 : Below w6.heap.size w6 (w6.alloc (.cells #[.int .i64 t.k, .int .i64 t.n, .bool t.b, .string ⟨t.d.toArray⟩, .slice A6 t.l.length c6] 33)) := (Below.refl _ _).alloc (Nat.le_refl _) _
        have hend := Lib.hid (hnext.out _ (R7'.out.below hB8) (F7.out.below hB8) (then_ B7.out hB8))
        clear hB8
        go_wp2
        go_roundw
        case rel => exact ⟨k + 1, by go_num, by omega, hend.out⟩
        case measure => simp [intOf]; omega
      | dead e =>
        have hgd := get_dead (kk : Int) e
        rw [hts'.out] at hgd
        injection hgd with hg1 hg2
        subst hg1 hg2
        obtain ⟨vF, eF, hF1, ⟨AF, nF, cF, rfl⟩, rfl, he0⟩ := hFc
        obtain ⟨c0, c1, f0, f1⟩ := two_cells hF1
        have t1 : ((e : Int) != 0) = true := by simp; omega
        have t2 : ¬ e = 0 := he0
        clear hF1
        go_wp2_with fail
        refine (rdget_any h kk (.dead e) wr F5'.out hf hkin).mono ?_
        rintro r w5 ⟨v5, rfl, T5, F6, k5⟩
        rw [hts'.out] at T5 F6
        have R6 := Lib.hid (R5'.out.ref k5 (Nat.le_refl _))
        have F6' := Lib.hid F6
        have hs6 := k5.size
        have B6 := Lib.hid (B5'.out.trans (chg_ref k5 (by omega) (by omega)))
        clear T5 F6 k5
        go_wp2_with fail
        refine (read_any g lo h kk (.dead e) w5 R6.out hf hkin).mono ?_
        rintro r w6 ⟨v6, rfl, T6, R7, k6⟩
        rw [hts'.out] at T6 R7
        have F7 := Lib.hid (F6'.out.far k6 (by omega) (Nat.le_refl _) (by omega))
        have B7 := Lib.hid (B6.out.trans (chg_below k6 (by omega) (by omega)))
        have R7' := Lib.hid R7
        obtain ⟨u6, rfl, O6⟩ := T6
        obtain ⟨A6, c6, rfl⟩ := O6.form
        have hB8 : Below w6.heap.size w6 (w6.alloc (.cells #[.int .i64 (kk : Int), .int .i64 0, .bool false, .string ⟨([] : Bs).toArray⟩, .slice A6 ([] : List Int).length c6] 33)) := (Below.refl _ _).alloc (Nat.le_refl _) _
        have R8 := Lib.hid (R7'.out.below hB8)
        have F8 := Lib.hid (F7.out.below hB8)
        have B8 := Lib.hid (then_ B7.out hB8)
        have T8 := Lib.hid (show ThV (w6.alloc (.cells #[.int .i64 (kk : Int), .int .i64 0, .bool false, .string ⟨([] : Bs).toArray⟩, .slice A6 ([] : List Int).length c6] 33)) (.agg #[.int .i64 (kk : Int), .int .i64 0, .bool false, .string ⟨([] : Bs).toArray⟩, .slice A6 ([] : List Int).length c6]) (zero kk) from ⟨_, rfl, (O6.below hB8).rn⟩)
        have T9 := fun w' : World => Lib.hid (show ThV w' (.agg #[.int .i64 (kk : Int), .int .i64 0, .bool false, .string ⟨([] : Bs).toArray⟩, .slice none 0 0]) (zero kk) from ⟨_, rfl, RN.nil _⟩)
        clear R7 k6 O6 hB8
        go_wp2_with fail
        refine (rsame_any (zero kk) (zero kk) _ _ _ T8.out (T9 _).out (by simp [zero])).mono ?_
        rintro r w7 ⟨rfl, b7⟩
        rw [show decide (zero (kk : Int) = zero kk) = true from by simp]
        have R9 := Lib.hid (R8.out.below b7)
        have F9 := Lib.hid (F8.out.below b7)
        have B9 := Lib.hid (then_ B8.out b7)
        clear b7
        go_wp2_with fail
        refine (cfinish_any g lo h (.dead e) w7 R9.out hf').mono ?_
        rintro r w8 ⟨rfl, b8⟩
        rw [show (St.end (.dead e)) = e from rfl]
        have hend := Lib.hid (hnext.out _ (R9.out.below b8) (F9.out.below b8) (then_ B9.out b8))
        clear b8
        go_wp2
        go_roundw
        case rel => exact ⟨k + 1, by go_num, by omega, hend.out⟩
        case measure => simp [intOf]; omega
    · obtain rfl : k = ks.length := by omega
      go_wp2
      go_ret
      exact ⟨rfl, B5'.out⟩
end Go.Proofs.Ytmmfkepkdmmmkaa
