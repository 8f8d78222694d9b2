/- The law on one changed byte. -/
import Derived.Test.YtopgdglcfmikiaaDoorV2
import Derived.Deep.AppendLies
namespace Go.Proofs.YtopgdglcfmikiaaDoor
open Go.RowKit Go.Lib Cs

theorem bits_xor_u8_nat (a b : Nat) (ha : a < 256) (hb : b < 256) : bits .xor .u8 (a : Int) (b : Int) = ((a ^^^ b : Nat) : Int) := by
  have hx : a ^^^ b < 2 ^ 8 := Nat.xor_lt_two_pow (by omega) (by omega)
  have h1 : (BitVec.ofInt 8 (a : Int)).toNat = a := by
    rw [BitVec.ofInt_natCast, BitVec.toNat_ofNat]; exact Nat.mod_eq_of_lt (by omega)
  have h2 : (BitVec.ofInt 8 (b : Int)).toNat = b := by
    rw [BitVec.ofInt_natCast, BitVec.toNat_ofNat]; exact Nat.mod_eq_of_lt (by omega)
  show IntKind.u8.wrap ((BitVec.ofInt 8 (a : Int) ^^^ BitVec.ofInt 8 (b : Int)).toNat : Int) = _
  rw [BitVec.toNat_xor, h1, h2]
  simp [IntKind.wrap, IntKind.bits, IntKind.signed]
  omega

theorem OwnB.set {w : World} {base g cap : Nat} {l : List Nat} (h : OwnB w base (.slice (some ⟨g, 0, none⟩) l.length cap) l) (i a : Nat) : OwnB (w.setCell ⟨g, i, none⟩ (.int .u8 (a : Int))) base (.slice (some ⟨g, 0, none⟩) l.length cap) (l.set i a) := by
  have h1 := (World.ownsRow.stored h i (.int .u8 (a : Int))).1
  unfold OwnB
  rw [List.length_set]
  have e : bcs (l.set i a) = (bcs l).set i (.int .u8 (a : Int)) := by unfold bcs; rw [List.map_set]
  rw [e]
  exact h1

theorem chain_change {prev kind : Nat} {l : List Nat} (hl : Bytes l) {i a b : Nat} (ha : a < 256) (hi : l[i]? = some b) (hne : a ≠ b) : Cs.chain prev kind (l.set i a) ≠ Cs.chain prev kind l := by
  rw [chain_eq, chain_eq, List.length_set]
  exact more_change (more_lt (step_lt _ _) _) hl ha hi hne

theorem xor_ne {a b : Nat} (hb : b ≠ 0) : a ^^^ b ≠ a := fun h => by
  apply hb
  have := congrArg (a ^^^ ·) h
  simpa [← Nat.xor_assoc] using this

set_option maxRecDepth 100000 in
theorem lawChange (v : Value) (l : List Nat) (t by_ : Nat) (w : World) (hE : Env w) (H : RB w v l) (hl : l.length ≤ 9223372036854775807) (ht : t < 65536) (hb : by_ < 256) : Calls Tryd.prog 7 #[v, .int .u16 (t : Int), .int .u8 (by_ : Int)] w fun r w' => r = .returned (.bool true) ∧ Below w.heap.size w w' := by
  obtain ⟨A, cap, rfl⟩ := H.form
  have hby := H.1
  have H' := Lib.hid H
  clear H
  by_cases hbig : 1000 < l.length
  · have hb1 : (1000 : Int) < (l.length : Int) := by omega
    go_enter Tryd.func7, Tryd.ntmps7
    go_wp2_with (go_at_call 9; refine (alive_any _ hE).mono ?_; rintro r w1 ⟨rfl, b1⟩)
    go_ret
    exact ⟨rfl, b1⟩
  · have hb1 : (l.length : Int) ≤ 1000 := by omega
    by_cases h0 : l.length = 0
    · have hb0 : ((l.length : Int) == 0) = true := by simp [h0]
      have hb0' : (l.length == 0) = true := by simp [h0]
      go_enter Tryd.func7, Tryd.ntmps7
      go_wp2_with (go_at_call 9; refine (alive_any _ hE).mono ?_; rintro r w1 ⟨rfl, b1⟩)
      go_ret
      exact ⟨rfl, b1⟩
    · have hb0 : ((l.length : Int) == 0) = false := by rw [beq_eq_false_iff_ne]; omega
      have hb0' : (l.length == 0) = false := by rw [beq_eq_false_iff_ne]; omega
      by_cases hz : by_ = 0
      · have hz1 : ((by_ : Int) == 0) = true := by simp [hz]
        have hz2 : (by_ == 0) = true := by simp [hz]
        go_enter Tryd.func7, Tryd.ntmps7
        go_wp2_with (go_at_call 9; refine (alive_any _ hE).mono ?_; rintro r w1 ⟨rfl, b1⟩)
        go_ret
        exact ⟨rfl, b1⟩
      · have hz1 : ((by_ : Int) == 0) = false := by rw [beq_eq_false_iff_ne]; omega
        have hz2 : (by_ == 0) = false := by rw [beq_eq_false_iff_ne]; omega
        obtain ⟨i, hi⟩ : ∃ i, t % l.length = i := ⟨_, rfl⟩
        have hil : i < l.length := by rw [← hi]; exact Nat.mod_lt _ (by omega)
        obtain ⟨x, hx⟩ : ∃ x, l[i]? = some x := ⟨_, List.getElem?_eq_getElem hil⟩
        have hxl : x < 256 := hby x (List.mem_of_getElem? hx)
        obtain ⟨y, hy⟩ : ∃ y, x ^^^ by_ = y := ⟨_, rfl⟩
        have hyl : y < 256 := by rw [← hy]; exact Nat.xor_lt_two_pow (n := 8) (by omega) (by omega)
        have hyx : y ≠ x := by rw [← hy]; exact xor_ne hz
        have hxor := bits_xor_u8_nat x by_ hxl hb
        rw [hy] at hxor
        have d1 : (t : Int) % (l.length : Int) = (i : Int) := by rw [← hi]; simp
        have d2 : (i : Int) < (l.length : Int) := by omega
        have d3 : (0 : Int) ≤ (i : Int) := by omega
        have d4 : (l.length : Int) ≠ 0 := by omega
        have hx' := Lib.hid hx
        clear hx hy hi
        go_enter Tryd.func7, Tryd.ntmps7
        go_wp2_with fail
        refine (alive_any _ hE).mono ?_
        rintro r w1 ⟨rfl, b1⟩
        have hb' : Below w1.heap.size w1 (w1.alloc (.cells #[] 5)) := (Below.refl _ _).alloc (Nat.le_refl _) _
        have hE : OwnB (w1.alloc (.cells #[] 5)) w1.heap.size (.slice (some ⟨w1.heap.size, 0, none⟩) 0 0) [] := World.ownsRow_lit w1 #[] 0 (Nat.le_refl _) (by unfold maxLen; omega) rfl
        have hR1 := H'.out.below (then_ b1 hb')
        have hs1 := hb'.size
        have h1 : ([] : List Nat).length + l.length ≤ 1000000 := by simp; omega
        have fin : ∀ v2 w2, OwnB w2 w1.heap.size v2 ([] ++ l) → (w1.alloc (.cells #[] 5)).grownBy w2 (some w1.heap.size) → ∃ g c, v2 = .slice (some ⟨g, 0, none⟩) l.length c ∧ OwnB w2 w1.heap.size (.slice (some ⟨g, 0, none⟩) l.length c) l ∧ w1.heap.size ≤ g ∧ w2.cell? ⟨g, i, none⟩ = some (.int .u8 (x : Int)) ∧ w2.frozen? ⟨g, i, none⟩ = false ∧ Below w1.heap.size w1 w2 := fun v2 w2 O hg => by
          rw [List.nil_append] at O
          obtain ⟨g, c, e, hbg, _⟩ := World.ownsRow.form O (by omega)
          subst e
          refine ⟨g, c, rfl, O, hbg, ?_, World.ownsRow.frozenAt O i, grown_below (v := .slice (some ⟨w1.heap.size, 0, none⟩) 0 0) hb' hE hs1 hg⟩
          rw [World.ownsRow.cellAt O i (by omega)]
          simp [bcs, hx'.out]
        have fin := Lib.hid fin
        go_wp2_with (at_builtin; refine wpList_append_bytes rfl _ _ rfl w1.heap.size (.slice (some ⟨w1.heap.size, 0, none⟩) 0 0) [] rfl hE (.slice A l.length cap) l rfl hR1 h1 hs1 ?_; intro v2 w2 O2 hg2; obtain ⟨g, c, hv2, O3, hbg, k0, k1, b3⟩ := fin.out v2 w2 O2 hg2; subst hv2)
        have b3' := then_ b1 b3
        have O4 := OwnB.set O3 i y
        have b4 : Below w1.heap.size w1 (w2.setCell ⟨g, i, none⟩ (.int .u8 (y : Int))) := b3.setCell (p := ⟨g, i, none⟩) hbg _
        have hby2 : Bytes (l.set i y) := fun z hz => by
          rcases List.mem_or_eq_of_mem_set hz with h | h
          · exact hby z h
          · rw [h]; exact hyl
        have hlen2 : (l.set i y).length = l.length := List.length_set
        generalize (w2.setCell ⟨g, i, none⟩ (.int .u8 (y : Int))) = w3 at *
        have R4 := Lib.hid (O4.rb hby2)
        have b4' := then_ b1 b4
        clear O3 O4 O2 hg2 k0 k1 fin hE hR1
        refine (sum_any _ (l.set i y) w3 R4.out (by omega)).mono ?_
        rintro r w4 ⟨rfl, b5⟩
        obtain ⟨p, hp⟩ : ∃ p, more Cs.init (l.set i y) = p := ⟨_, rfl⟩
        rw [hp]
        have b5' := then_ b4' b5
        have R5 := Lib.hid (R4.out.below b5)
        go_wp2_with fail
        refine (sum_any _ l w4 (H'.out.below b5') (by omega)).mono ?_
        rintro r w5 ⟨rfl, b6⟩
        obtain ⟨q, hq⟩ : ∃ q, more Cs.init l = q := ⟨_, rfl⟩
        rw [hq]
        have b6' := then_ b5' b6
        have R6 := Lib.hid (R5.out.below b6)
        have hpq : ¬ p = q := by rw [← hp, ← hq]; exact more_change init_lt hby hyl hx'.out hyx
        have t1 : ((p : Int) != (q : Int)) = true := by simp; omega
        have t2 : (p != q) = true := by simpa using hpq
        clear hp hq R4 R5
        go_wp2_with fail
        refine (chain_any 1 2 _ (l.set i y) w5 (by decide) (by decide) R6.out (by omega)).mono ?_
        rintro r w6 ⟨rfl, b7⟩
        obtain ⟨p2, hp2⟩ : ∃ p, Cs.chain 1 2 (l.set i y) = p := ⟨_, rfl⟩
        rw [hp2]
        have b7' := then_ b6' b7
        go_wp2_with fail
        refine (chain_any 1 2 _ l w6 (by decide) (by decide) (H'.out.below b7') (by omega)).mono ?_
        rintro r w7 ⟨rfl, b8⟩
        obtain ⟨q2, hq2⟩ : ∃ q, Cs.chain 1 2 l = q := ⟨_, rfl⟩
        rw [hq2]
        have hpq2 : ¬ p2 = q2 := by rw [← hp2, ← hq2]; exact chain_change hby hyl hx'.out hyx
        have t3 : ((p2 : Int) != (q2 : Int)) = true := by simp; omega
        have t4 : (p2 != q2) = true := by simpa using hpq2
        clear hp2 hq2
        go_wp2
        go_ret
        exact ⟨rfl, then_ b7' b8⟩
end Go.Proofs.YtopgdglcfmikiaaDoor
