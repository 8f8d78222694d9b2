/- The law WireReader. -/
import Derived.Test.YtmmfkepkdmmmkaaV4
set_option linter.unusedVariables false
set_option linter.unusedSimpArgs false
namespace Go.Proofs.Ytmmfkepkdmmmkaa
open Go.RowKit Go.Lib Wr

/-- The kinds that the bytes name. -/
def kd (c : UInt8) : Int := ((c.toNat % 5 : Nat) : Int)
theorem kd_in (c : UInt8) : 0 ≤ kd c ∧ kd c ≤ 4 := by unfold kd; omega
theorem gets_few {n : Nat} : ∀ (ks : List Int) {s : St}, s.Few n → (gets ks s).Few n := by
  intro ks
  induction ks with
  | nil => intro s h; exact h
  | cons k ks ih => intro s h; exact ih (get_few k h)
theorem gets_snoc (ks : List Int) (k : Int) (s : St) : gets (ks ++ [k]) s = (get k (gets ks s)).2 := by simp [gets]
/-- The state after so many kinds. -/
def stK (ks : Bs) (k : Nat) (s : St) : St := gets ((ks.take k).map kd) s
theorem stK_succ {ks : Bs} {k : Nat} {c : UInt8} (h : ks[k]? = some c) (s : St) : stK ks (k + 1) s = (get (kd c) (stK ks k s)).2 := by
  unfold stK
  rw [List.take_add_one, h]
  simp only [Option.toList_some, List.map_append, List.map_cons, List.map_nil]
  exact gets_snoc _ _ _
theorem stK_zero (ks : Bs) (s : St) : stK ks 0 s = s := by simp [stK, gets]
theorem get_l_few {s : St} {n : Nat} (k : Int) (h : s.Few n) : (get k s).1.l.length ≤ n := by
  unfold Wr.get
  split
  · simp
  split
  · simp
  split
  · simp
  split
  · exact (rdInts_few h).2
  · simp [zero]
theorem ThO.chg {S : Nat → Prop} {w w' : World} {base : Nat} {v : Value} {t : Th} (h : ThO w base v t) (k : Chg S w w') (hn : ∀ i, base ≤ i → ¬ S i) : ThO w' base v t := by
  obtain ⟨u, e, h⟩ := h
  exact ⟨u, e, h.chg k hn⟩
theorem RefAt.far {w w' : World} {h N lo hi : Nat} {s : St} (H : RefAt w h N s) (k : Chg (Iv lo hi) w w') (hN : N ≤ lo) (hh : hi ≤ h) (hNw : N ≤ w.heap.size) : RefAt w' h N s :=
  H.kept2 k.size (k.block h H.lt (fun e => by obtain ⟨_, e2⟩ := e; omega)) fun i hi' => k.block i (by omega) (fun e => by obtain ⟨e1, _⟩ := e; omega)
theorem RdP.ref {w w' : World} {g lo hi h : Nat} {s : St} (H : RdP w g lo hi s) (k : Chg (· = h) w w') (hh : hi ≤ h) : RdP w' g lo hi s :=
  H.kept k.size fun i _ h2 => k.block i (Nat.lt_of_lt_of_le h2 H.hi) (by omega)
theorem chg_ref {h B : Nat} {a b : World} (k : Chg (· = h) a b) (hh : B ≤ h) (hB : B ≤ a.heap.size) : Below B a b := k.belowAt hB fun i e => by omega

set_option maxRecDepth 20000 in
set_option maxHeartbeats 2000000 in
theorem lawReader (A K : Option Addr) (c d : Nat) (b ks : Bs) (W : World) (hb : RB W (.slice A b.length c) b) (hk : RB W (.slice K ks.length d) ks) (hl : b.length ≤ 9223372036854775807) (hm : ks.length ≤ 9223372036854775807) :
    Calls Try.prog 3 #[.slice A b.length c, .slice K ks.length d] W fun r w' => r = .returned (.bool true) ∧ Below W.heap.size W w' := by
  by_cases hbig : 300 < b.length
  · have hb1 : (300 : Int) < (b.length : Int) := by omega
    go_enter Try.func3, Try.ntmps3
    go_wp2_with fail
    refine (awake_any _).mono ?_
    rintro r w1 ⟨rfl, b1⟩
    go_wp2_with fail
    refine (awake_any _).mono ?_
    rintro r w2 ⟨rfl, b2⟩
    go_wp2
    go_ret
    exact ⟨rfl, then_ b1 b2⟩
  have hb1 : (b.length : Int) ≤ 300 := by omega
  by_cases hbig2 : 100 < ks.length
  · have hb2 : (100 : Int) < (ks.length : Int) := by omega
    go_enter Try.func3, Try.ntmps3
    go_wp2_with fail
    refine (awake_any _).mono ?_
    rintro r w1 ⟨rfl, b1⟩
    go_wp2_with fail
    refine (awake_any _).mono ?_
    rintro r w2 ⟨rfl, b2⟩
    go_wp2
    go_ret
    exact ⟨rfl, then_ b1 b2⟩
  have hb2 : (ks.length : Int) ≤ 100 := by omega
  have hbl : b.length ≤ 300 := by omega
  have hb' := Lib.hid hb
  have hk' := Lib.hid hk
  clear hb hk hbig hbig2
  go_enter Try.func3, Try.ntmps3
  go_wp2_with fail
  refine (awake_any _).mono ?_
  rintro r w1 ⟨rfl, b1⟩
  have hE := OwnB.empty w1 (Nat.le_refl _)
  have hBE : Below w1.heap.size w1 (w1.alloc (.cells #[] 5)) := (Below.refl _ _).alloc (Nat.le_refl _) _
  have hRb := Lib.hid (hb'.out.below (then_ b1 hBE))
  go_wp2_with (at_builtin; refine wpList_append_bytes rfl _ _ rfl w1.heap.size _ [] rfl hE _ b rfl hRb.out (by simp; omega) (by simp) ?_; intro v2 w2 O2 hg2 _)
  have b2 : Below w1.heap.size w1 w2 := hBE.grown hg2 (by simp) (fun k hk => (World.ownsRow.lt hE k hk).1)
  rw [List.nil_append] at O2
  have O2' := Lib.hid O2
  clear O2 hg2 hRb hE hBE
  refine (newReader_any v2 b w1.heap.size w2 O2'.out b2.size (by omega)).mono ?_
  rintro r w3 ⟨g, rfl, R3, b3⟩
  have B13 : Below w1.heap.size w1 w3 := b2.trans (b3.mono b2.size)
  have B3 : Below W.heap.size W w3 := then_ b1 B13
  have hs1 := b1.size
  have hs13 := B13.size
  have hB4 : Below w3.heap.size w3 (w3.alloc (.cells #[.slice A b.length c, .int .i64 0] 29)) := (Below.refl _ _).alloc (Nat.le_refl _) _
  have R4 := Lib.hid (R3.below hB4)
  have F4 : RefAt (w3.alloc (.cells #[.slice A b.length c, .int .i64 0] 29)) w3.heap.size W.heap.size (.live b) := by
    refine ⟨_, 0, heap_alloc_new w3 _, ⟨_, _, _, rfl⟩, rfl, hb'.out.below (then_ B3 hB4), fun ad n c' e h0 => ?_⟩
    rcases hb'.out with ⟨e1, _⟩ | ⟨ad', c2, e1, _, h3, _⟩
    · rw [e1] at e; cases e
    · rw [e1] at e; injection e with e2 e3 e4; injection e2 with e2; subst e2 e4; exact ⟨h3 h0, by omega⟩
  have F4 := Lib.hid F4
  have B4 : Below W.heap.size W (w3.alloc (.cells #[.slice A b.length c, .int .i64 0] 29)) := then_ B3 hB4
  have hsz4 : (w3.alloc (.cells #[.slice A b.length c, .int .i64 0] 29)).heap.size = w3.heap.size + 1 := World.size_alloc _ _
  clear R3 b3 O2' b2 B13 B3 hB4
  go_wp2_with fail
  generalize w3.alloc (.cells #[.slice A b.length c, .int .i64 0] 29) = w4 at R4 F4 B4 hsz4 ⊢
  generalize w1.heap.size = lo at R4 hs1 hs13
  generalize w3.heap.size = h at R4 F4 hsz4 hs13 ⊢
  go_loopw [33] (fun i w' => ∃ k : Nat, i = .int .i64 (k : Int) ∧ k ≤ ks.length ∧ RdP w' g lo h (stK ks k (.live b)) ∧ RefAt w' h W.heap.size (stK ks k (.live b)) ∧ Below W.heap.size W w') (fun i _ => ks.length - (intOf i).toNat)
  case atStart => exact ⟨0, rfl, by omega, by rw [stK_zero]; exact R4.out, by rw [stK_zero]; exact F4.out, B4⟩
  case round =>
    obtain ⟨k, rfl, hk, R5, F5, B5⟩ := hrel
    clear R4 F4 B4
    have hf : (stK ks k (.live b)).Few 100000 := gets_few _ (show b.length ≤ 100000 from by omega)
    have R5' := Lib.hid R5
    have F5' := Lib.hid F5
    have B5' := Lib.hid B5
    have hs5 := B5.size
    have hhw := F5.lt
    clear R5 F5 B5
    by_cases hlt : k < ks.length
    · obtain ⟨x, hx⟩ : ∃ x, ks[k]? = some x := ⟨_, List.getElem?_eq_getElem hlt⟩
      obtain ⟨ad, rfl, d0⟩ := (hk'.out.below B5'.out).at_ hx
      have hst := Lib.hid (stK_succ hx (.live b))
      have e1 : (k : Int) < (ks.length : Int) := by omega
      have e2 : (0 : Int) ≤ (k : Int) := by omega
      obtain ⟨kk, hkk⟩ : ∃ kk : Nat, x.toNat % 5 = kk := ⟨_, rfl⟩
      have s0 : (x.toNat : Int) % 5 = (kk : Int) := by omega
      have hkin : (0 : Int) ≤ (kk : Int) ∧ (kk : Int) ≤ 4 := by omega
      have hkd := Lib.hid (show kd x = (kk : Int) from by unfold kd; rw [hkk])
      generalize stK ks k (.live b) = s at hf R5' F5' hst
      have hres : ∃ t s', get (kk : Int) s = (t, s') ∧ t.l.length ≤ 100000 := ⟨_, _, rfl, get_l_few _ hf⟩
      obtain ⟨t, s', hts, htl⟩ := hres
      have hts' := Lib.hid hts
      have hst := Lib.hid (show stK ks (k + 1) (.live b) = s' from by rw [hst.out, hkd.out, hts])
      have hf' : s'.Few 100000 := by have := get_few (kk : Int) hf; rw [hts] at this; exact this
      clear hx hkk hts
      go_wp2_with fail
      refine (read_any g lo h kk s wr R5'.out hf hkin).mono ?_
      rintro r w5 ⟨v5, rfl, T5, R6, k5⟩
      rw [hts'.out] at T5 R6
      have F6 := Lib.hid (F5'.out.far k5 (by omega) (Nat.le_refl _) (by omega))
      have T5' := Lib.hid T5
      have R6' := Lib.hid R6
      have hs6 := k5.size
      clear T5 R6
      go_wp2_with fail
      refine (rdget_any h kk s w5 F6.out hf hkin).mono ?_
      rintro r w6 ⟨v6, rfl, T6, F7, k6⟩
      rw [hts'.out] at T6 F7
      have T7 := Lib.hid (T5'.out.chg k6 (fun i hi e => by have e' : i = h := e; omega)).v
      have R7 := Lib.hid (R6'.out.ref k6 (Nat.le_refl _))
      have B7 := Lib.hid ((B5'.out.trans (chg_below k5 (by omega) (by omega))).trans (chg_ref k6 (by omega) (by omega)))
      have T6' := Lib.hid T6
      have F7' := Lib.hid F7
      clear T6 F7 k5 k6 T5' R6' F6
      go_wp2_with fail
      refine (rsame_any t t v5 v6 w6 T7.out T6'.out (by omega)).mono ?_
      rintro r w7 ⟨rfl, b7⟩
      rw [show decide (t = t) = true from by simp]
      have R8 := Lib.hid (R7.out.below b7)
      have F8 := Lib.hid (F7'.out.below b7)
      have B8 := Lib.hid (then_ B7.out b7)
      clear b7 T7 T6' R7 F7' B7
      go_wp2_with fail
      refine (cfinish_any g lo h s' w7 R8.out hf').mono ?_
      rintro r w8 ⟨rfl, b8⟩
      have R9 := Lib.hid (R8.out.below b8)
      have F9 := Lib.hid (F8.out.below b8)
      have B9 := Lib.hid (then_ B8.out b8)
      clear b8 R8 F8 B8
      go_wp2_with fail
      refine (rdend_any h s' w8 F9.out).mono ?_
      rintro r w9 ⟨rfl, rfl⟩
      generalize s'.end = E
      go_wp2
      go_roundw
      case rel => exact ⟨k + 1, by go_num, by omega, by rw [hst.out]; exact R9.out, by rw [hst.out]; exact F9.out, B9.out⟩
      case measure => simp [intOf]; omega
    · obtain rfl : k = ks.length := by omega
      generalize stK ks ks.length (.live b) = s at hf R5' F5'
      go_wp2_with fail
      refine (cfinish_any g lo h s wr R5'.out hf).mono ?_
      rintro r w8 ⟨rfl, b8⟩
      have F9 := Lib.hid (F5'.out.below b8)
      have B9 := Lib.hid (then_ B5'.out b8)
      clear b8
      go_wp2_with fail
      refine (rdend_any h s w8 F9.out).mono ?_
      rintro r w9 ⟨rfl, rfl⟩
      generalize s.end = E
      go_wp2
      go_ret
      exact ⟨by simp, B9.out⟩
end Go.Proofs.Ytmmfkepkdmmmkaa
