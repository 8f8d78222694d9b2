/- The laws on checksums: chains, formats, concatenation, change. -/
import Derived.Test.YtopgdglcfmikiaaDoorV1
namespace Go.Proofs.YtopgdglcfmikiaaDoor
open Go.RowKit Go.Lib Cs

theorem lawChains (prev : Nat) (v : Value) (l : List Nat) (u : Value) (m : List Int) (w : World) (hE : Env w) (hp : W64 prev) (H : RB w v l) (K : RN w u m) (hl : l.length ≤ 9223372036854775807) (hm : m.length ≤ 9223372036854775807) : Calls Tryd.prog 4 #[.int .u64 (prev : Int), v, u] w fun r w' => r = .returned (.bool true) ∧ Below w.heap.size w w' := by
  obtain ⟨A, cap, rfl⟩ := H.form
  obtain ⟨B, cap2, rfl⟩ := K.form
  have H' := Lib.hid H
  have K' := Lib.hid K
  clear H K
  by_cases hbig : 2000 < l.length
  · have hb1 : (2000 : Int) < (l.length : Int) := by omega
    go_enter Tryd.func4, Tryd.ntmps4
    go_wp2_with (go_at_call 9; refine (alive_any _ hE).mono ?_; rintro r w1 ⟨rfl, b1⟩)
    go_ret
    exact ⟨rfl, b1⟩
  · have hb1 : (l.length : Int) ≤ 2000 := by omega
    by_cases hbig2 : 200 < m.length
    · have hb2 : (200 : Int) < (m.length : Int) := by omega
      go_enter Tryd.func4, Tryd.ntmps4
      go_wp2_with (go_at_call 9; refine (alive_any _ hE).mono ?_; rintro r w1 ⟨rfl, b1⟩)
      go_ret
      exact ⟨rfl, b1⟩
    · have hb2 : (m.length : Int) ≤ 200 := by omega
      have hk : m.length < 256 := by omega
      have hcv : IntKind.u8.wrap (m.length : Int) = (m.length : Int) := by simp [IntKind.wrap, IntKind.bits, IntKind.signed]; omega
      go_enter Tryd.func4, Tryd.ntmps4
      go_wp2_with fail
      refine (alive_any _ hE).mono ?_
      rintro r w1 ⟨rfl, b1⟩
      go_wp2_with fail
      refine (chain_any prev m.length _ l w1 hp hk (H'.out.below b1) (by omega)).mono ?_
      rintro r w2 ⟨rfl, b2⟩
      have b2 := then_ b1 b2
      go_wp2_with fail
      refine (rlink_any prev m.length _ l w2 hp hk (H'.out.below b2) (by omega)).mono ?_
      rintro r w3 ⟨rfl, b3⟩
      have b3 := then_ b2 b3
      generalize Cs.chain prev m.length l = q
      go_wp2_with fail
      refine (sumints_any _ m w3 (K'.out.below b3) (by omega)).mono ?_
      rintro r w4 ⟨rfl, b4⟩
      have b4 := then_ b3 b4
      go_wp2_with fail
      refine (rwords_any _ m w4 (K'.out.below b4) (by omega)).mono ?_
      rintro r w5 ⟨rfl, b5⟩
      generalize Cs.words (m.map uz) = q
      go_wp2
      go_ret
      exact ⟨rfl, then_ b4 b5⟩

theorem lawFormats (n : Nat) (l : List UInt8) (w : World) (hE : Env w) (hn : W64 n) (hl : l.length ≤ 9223372036854775807) : Calls Tryd.prog 5 #[.int .u64 (n : Int), .string ⟨l.toArray⟩] w fun r w' => r = .returned (.bool true) ∧ Below w.heap.size w w' := by
  by_cases hbig : 100 < l.length
  · have hb1 : (100 : Int) < (l.length : Int) := by omega
    go_enter Tryd.func5, Tryd.ntmps5
    go_wp2_with (go_at_call 9; refine (alive_any _ hE).mono ?_; rintro r w1 ⟨rfl, b1⟩)
    go_ret
    exact ⟨rfl, b1⟩
  · have hb1 : (l.length : Int) ≤ 100 := by omega
    obtain ⟨t, ht⟩ : ∃ t, hex 16 n = t := ⟨_, rfl⟩
    have hcn : cparse t = (n, 0) := by rw [← ht]; unfold cparse; rw [parse_hex hn]
    have hlen : t.length = 16 := by rw [← ht]; exact hex_length 16 n
    have hfm : ∀ W : World, Env W → Calls Tryd.prog 18 #[.int .u64 (n : Int)] W fun r w' => r = .returned (.string ⟨t.toArray⟩) ∧ Below W.heap.size W w' := fun W hW => by rw [← ht]; exact format_any n hn W hW
    have htx : ∀ W : World, Calls Tryd.prog 21 #[.int .u64 (n : Int)] W fun r w' => r = .returned (.string ⟨t.toArray⟩) ∧ W = w' := fun W => by rw [← ht]; exact rtext_any n hn W
    have hfm := Lib.hid hfm
    have htx := Lib.hid htx
    have hcn := Lib.hid hcn
    clear ht
    go_enter Tryd.func5, Tryd.ntmps5
    go_wp2_with fail
    refine (alive_any _ hE).mono ?_
    rintro r w1 ⟨rfl, b1⟩
    go_wp2_with fail
    refine (hfm.out w1 (hE.of b1)).mono ?_
    rintro r w2 ⟨rfl, b2⟩
    have b2 := then_ b1 b2
    go_wp2_with fail
    refine (parse_any t w2 (hE.of b2) (by omega)).mono ?_
    rintro r w3 ⟨rfl, b3⟩
    have b3 := then_ b2 b3
    rw [hcn.out]
    clear hlen
    go_wp2_with fail
    refine (parse_any l w3 (hE.of b3) (by omega)).mono ?_
    rintro r w4 ⟨rfl, b4⟩
    have b4 := then_ b3 b4
    go_wp2_with fail
    refine (rparse_any l w4).mono ?_
    rintro r w5 ⟨rfl, b5⟩
    have b5 := then_ b4 b5
    generalize (cparse l).1 = p1
    generalize (cparse l).2 = p2
    go_wp2_with fail
    refine (htx.out w5).mono ?_
    rintro r w6 ⟨rfl, rfl⟩
    go_wp2
    go_ret
    exact ⟨rfl, b5⟩

theorem lawConcat (v : Value) (l : List Nat) (u : Value) (m : List Nat) (w : World) (hE : Env w) (H : RB w v l) (K : RB w u m) (hl : l.length ≤ 9223372036854775807) (hm : m.length ≤ 9223372036854775807) : Calls Tryd.prog 6 #[v, u] w fun r w' => r = .returned (.bool true) ∧ Below w.heap.size w w' := by
  obtain ⟨A, cap, rfl⟩ := H.form
  obtain ⟨B, cap2, rfl⟩ := K.form
  have hby : Bytes (l ++ m) := fun x hx => by
    rcases List.mem_append.1 hx with h | h
    · exact H.1 x h
    · exact K.1 x h
  have hby' := Lib.hid hby
  have H' := Lib.hid H
  have K' := Lib.hid K
  clear H K hby
  by_cases hbig : 1000 < l.length
  · have hb1 : (1000 : Int) < (l.length : Int) := by omega
    go_enter Tryd.func6, Tryd.ntmps6
    go_wp2_with (go_at_call 9; refine (alive_any _ hE).mono ?_; rintro r w1 ⟨rfl, b1⟩)
    go_ret
    exact ⟨rfl, b1⟩
  · have hb1 : (l.length : Int) ≤ 1000 := by omega
    by_cases hbig2 : 1000 < m.length
    · have hb2 : (1000 : Int) < (m.length : Int) := by omega
      go_enter Tryd.func6, Tryd.ntmps6
      go_wp2_with (go_at_call 9; refine (alive_any _ hE).mono ?_; rintro r w1 ⟨rfl, b1⟩)
      go_ret
      exact ⟨rfl, b1⟩
    · have hb2 : (m.length : Int) ≤ 1000 := by omega
      go_enter Tryd.func6, Tryd.ntmps6
      go_wp2_with fail
      refine (alive_any _ hE).mono ?_
      rintro r w1 ⟨rfl, b1⟩
      have hb' : Below w1.heap.size w1 (w1.alloc (.cells #[] 5)) := (Below.refl _ _).alloc (Nat.le_refl _) _
      have hE : OwnB (w1.alloc (.cells #[] 5)) w1.heap.size (.slice (some ⟨w1.heap.size, 0, none⟩) 0 0) [] := World.ownsRow_lit w1 #[] 0 (Nat.le_refl _) (by unfold maxLen; omega) rfl
      have hR1 := H'.out.below (then_ b1 hb')
      have hs1 := hb'.size
      have h1 : ([] : List Nat).length + l.length ≤ 1000000 := by simp; omega
      have h2 : (([] : List Nat) ++ l).length + m.length ≤ 1000000 := by simp; omega
      have B2 : ∀ W, (w1.alloc (.cells #[] 5)).grownBy W (some w1.heap.size) → Below w1.heap.size w1 W := fun W hg => grown_below (v := .slice (some ⟨w1.heap.size, 0, none⟩) 0 0) hb' hE hs1 hg
      have B2 := Lib.hid B2
      have hK2 : ∀ W, Below w1.heap.size w1 W → RB W (.slice B m.length cap2) m := fun W h => K'.out.below (then_ b1 h)
      have hK2 := Lib.hid hK2
      go_wp2_with (at_builtin; first
        | (refine wpList_append_bytes rfl _ _ rfl w1.heap.size (.slice (some ⟨w1.heap.size, 0, none⟩) 0 0) [] rfl hE (.slice A l.length cap) l rfl hR1 h1 hs1 ?_; intro v2 w2 O2 hg2)
        | (refine wpList_append_bytes rfl _ _ rfl w1.heap.size v2 ([] ++ l) rfl O2 (.slice B m.length cap2) m rfl (hK2.out w2 (B2.out w2 hg2)) h2 (B2.out w2 hg2).size ?_; intro v3 w3 O3 hg3))
      have b3 := grown_below (B2.out w2 hg2) O2 (B2.out w2 hg2).size hg3
      have b3' := then_ b1 b3
      rw [List.nil_append] at O3
      have O3' := Lib.hid O3
      clear O2 hg2 O3 hg3 hE hR1 hb'
      refine (sum_any _ l w3 (H'.out.below b3') (by omega)).mono ?_
      rintro r w4 ⟨rfl, b4⟩
      obtain ⟨p, hp⟩ : ∃ p, more Cs.init l = p := ⟨_, rfl⟩
      have hpl : W64 p := by rw [← hp]; exact more_lt init_lt _
      have hall : more Cs.init (l ++ m) = more p m := by rw [more_append, hp]
      have hall := Lib.hid hall
      rw [hp]
      have O4 := Lib.hid ((O3'.out.below b4))
      have b4' := then_ b3' b4
      clear hp
      go_wp2_with fail
      refine (update_any p _ m w4 hpl (K'.out.below b4') (by omega)).mono ?_
      rintro r w5 ⟨rfl, b5⟩
      have b5' := then_ b4' b5
      have O5 := Lib.hid ((O4.out.below b5).rb hby'.out)
      go_wp2_with fail
      refine (sum_any _ (l ++ m) w5 O5.out (by rw [List.length_append]; omega)).mono ?_
      rintro r w6 ⟨rfl, b6⟩
      rw [hall.out]
      generalize more p m = q
      go_wp2
      go_ret
      exact ⟨rfl, then_ b5' b6⟩
end Go.Proofs.YtopgdglcfmikiaaDoor
