/- The laws' small functions: awake. -/
import Derived.Test.YtmmfkepkdmmmkaaV3
set_option linter.unusedVariables false
set_option linter.unusedSimpArgs false
namespace Go.Proofs.Ytmmfkepkdmmmkaa
open Go.RowKit Go.Lib Wr

/-- The bytes of the example. -/
def exB : Bs := [128, 1, 1, 4, 97, 98, 4, 2, 1]
theorem int_64 : Wr.int 64 = [128, 1] := by
  unfold Wr.int
  rw [show zig 64 = 128 from by decide, enc_big (by omega), enc_small (by omega)]; rfl
theorem int_2 : Wr.int 2 = [4] := by
  unfold Wr.int
  rw [show zig 2 = 4 from by decide, enc_small (by omega)]; rfl
theorem int_1 : Wr.int 1 = [2] := by
  unfold Wr.int
  rw [show zig 1 = 2 from by decide, enc_small (by omega)]; rfl
theorem int_m1 : Wr.int (-1) = [1] := by
  unfold Wr.int
  rw [show zig (-1) = 1 from by decide, enc_small (by omega)]; rfl
theorem ex_a : ([128, 1] : Bs) ++ [if true then 1 else 0] = [128, 1, 1] := rfl
theorem ex_b : ([128, 1, 1] : Bs) ++ (Wr.int ([97, 98] : Bs).length ++ [97, 98]) = [128, 1, 1, 4, 97, 98] := by
  rw [show (([97, 98] : Bs).length : Int) = 2 from rfl, int_2]; rfl
theorem ex_c : ([128, 1, 1, 4, 97, 98] : Bs) ++ (Wr.int ([1, -1] : List Int).length ++ Wr.ints [1, -1]) = exB := by
  rw [show (([1, -1] : List Int).length : Int) = 2 from rfl, int_2, Wr.ints_cons, Wr.ints_cons, int_1, int_m1]; rfl
theorem ex_1 : rdInt (.live exB) = (64, .live [1, 4, 97, 98, 4, 2, 1]) := by
  have h := rdInt_int (n := 64) ⟨by decide, by decide⟩ [1, 4, 97, 98, 4, 2, 1]
  rw [int_64] at h; exact h
theorem ex_2 : rdBool (.live [1, 4, 97, 98, 4, 2, 1]) = (true, .live [4, 97, 98, 4, 2, 1]) := rfl
theorem ex_3 : rdBytes (.live [4, 97, 98, 4, 2, 1]) = ([97, 98], .live [4, 2, 1]) := by
  have h := rdMany_int (n := 2) (by decide) (r := [97, 98, 4, 2, 1]) (by decide)
  rw [show ((2 : Nat) : Int) = 2 from rfl, int_2] at h
  unfold rdBytes
  rw [show ([4, 97, 98, 4, 2, 1] : Bs) = [4] ++ [97, 98, 4, 2, 1] from rfl, h]; rfl
theorem ex_4 : rdInts (.live [4, 2, 1]) = ([1, -1], .live []) := by
  have h := rdMany_int (n := 2) (by decide) (r := [2, 1]) (by decide)
  rw [show ((2 : Nat) : Int) = 2 from rfl, int_2] at h
  have h2 := rdL_ints [1, -1] [] (fun x hx => by simp at hx; rcases hx with rfl | rfl <;> exact ⟨by decide, by decide⟩)
  rw [Wr.ints_cons, Wr.ints_cons, int_1, int_m1] at h2
  unfold rdInts
  rw [show ([4, 2, 1] : Bs) = [4] ++ [2, 1] from rfl, h]
  simp only
  rw [show ([2, 1] : Bs) = [2] ++ ([1] ++ Wr.ints []) ++ [] from rfl]
  rw [show ([1, -1] : List Int).length = 2 from rfl] at h2
  rw [h2]
theorem ex_5 : rdInt (.live [128]) = (0, .dead 11) := by
  simp [rdInt, dec]

set_option maxRecDepth 20000 in
set_option maxHeartbeats 2000000 in
theorem awake_any (w : World) : Calls Try.prog 9 #[] w fun r w' => r = .returned (.bool true) ∧ Below w.heap.size w w' := by
  have hP0 := WrP.zero w (Nat.le_refl _)
  have hB0 : Below w.heap.size w (w.alloc (.cells wrZero 46)) := (Below.refl _ _).alloc (Nat.le_refl _) _
  unfold wrZero at hP0 hB0
  have hP0' := Lib.hid hP0
  clear hP0
  go_enter Try.func9, Try.ntmps9
  go_wp2_with fail
  refine (pint_any _ _ [] 64 _ hP0'.out ⟨by decide, by decide⟩ (by simp)).mono ?_
  rintro r w1 ⟨⟨u1, rfl⟩, P1, b1⟩
  rw [int_64, List.nil_append] at P1
  have B1 := hB0.trans b1
  have P1' := Lib.hid P1
  clear P1 b1 hP0'
  go_wp2_with fail
  refine (pbool_any _ _ _ true w1 P1'.out (by decide)).mono ?_
  rintro r w2 ⟨⟨u2, rfl⟩, P2, b2⟩
  rw [ex_a] at P2
  have B2 := B1.trans b2
  have P2' := Lib.hid P2
  clear P2 b2 P1' B1
  go_wp2_with fail
  refine (pstring_any _ _ _ [97, 98] w2 P2'.out (by decide) (by decide)).mono ?_
  rintro r w3 ⟨⟨u3, rfl⟩, P3, b3⟩
  rw [ex_b] at P3
  have B3 := B2.trans b3
  have P3' := Lib.hid P3
  clear P3 b3 P2' B2
  have hN := OwnN.two w3
  have hBN : Below w3.heap.size w3 (w3.alloc (.cells #[.int .i64 1, .int .i64 (-1)] 3)) := (Below.refl _ _).alloc (Nat.le_refl _) _
  have hBN' := Lib.hid (B3.trans (hBN.mono B3.size))
  have hNB := Lib.hid hBN
  have hNr := Lib.hid hN
  clear hN hBN
  go_wp2_with fail
  refine (pints_any _ _ _ _ [1, -1] w3 _ w3.heap.size P3'.out hNB.out hNr.out (Nat.le_refl _) (by decide) (fun x hx => by simp at hx; rcases hx with rfl | rfl <;> exact ⟨by decide, by decide⟩) (by decide)).mono ?_
  rintro r w4 ⟨⟨u4, rfl⟩, P4, b4⟩
  rw [ex_c] at P4
  have B4 := hBN'.out.trans b4
  have P4' := Lib.hid P4
  clear P4 b4 P3' hNB hNr hBN' B3
  go_wp2_with fail
  refine (pencoded_any _ _ _ w4 P4'.out (by decide)).mono ?_
  rintro r w5 ⟨vb, rfl, O5, b5⟩
  have B5 := then_ B4 b5
  have O5' := Lib.hid O5
  obtain ⟨A, cap, rfl⟩ := O5.form
  have hE := OwnB.empty w5 (Nat.le_refl _)
  have hBE : Below w5.heap.size w5 (w5.alloc (.cells #[] 5)) := (Below.refl _ _).alloc (Nat.le_refl _) _
  have hR6 := Lib.hid (O5.rb.below hBE)
  clear O5 P4' b5 B4
  go_wp2_with (at_builtin; refine wpList_append_bytes rfl _ _ rfl w5.heap.size _ [] rfl hE _ exB rfl hR6.out (by decide) (by simp) ?_; intro vc w7 O7 hg7 _)
  have b7 : Below w5.heap.size w5 w7 := hBE.grown hg7 (by simp) (fun k hk => (World.ownsRow.lt hE k hk).1)
  rw [List.nil_append] at O7
  have O7' := Lib.hid O7
  clear O7 hg7 hR6 hE hBE
  refine (newReader_any vc exB w5.heap.size w7 O7'.out b7.size (by decide)).mono ?_
  rintro r w8 ⟨g, rfl, R8, b8⟩
  have b58 : Below w5.heap.size w5 w8 := b7.trans (b8.mono b7.size)
  have R8' := Lib.hid R8
  clear R8 O7' b7 b8
  have hs58 := b58.size
  go_wp2_with fail
  refine (cint_any _ _ _ _ w8 R8'.out (by simp [St.Few, exB])).mono ?_
  rw [ex_1]
  rintro r w9 ⟨rfl, R9, k9⟩
  have b59 := b58.trans (chg_below k9 (Nat.le_refl _) b58.size)
  have R9' := Lib.hid R9
  clear R9 R8' k9 b58
  go_wp2_with fail
  refine (cbool_any _ _ _ _ w9 R9'.out (by simp [St.Few])).mono ?_
  rw [ex_2]
  rintro r w10 ⟨rfl, R10, k10⟩
  have b510 := b59.trans (chg_below k10 (Nat.le_refl _) b59.size)
  have R10' := Lib.hid R10
  clear R10 R9' k10 b59
  go_wp2_with fail
  refine (cstring_any _ _ _ _ w10 R10'.out (by simp [St.Few])).mono ?_
  rw [ex_3]
  rintro r w11 ⟨rfl, R11, k11⟩
  have b511 := b510.trans (chg_below k11 (Nat.le_refl _) b510.size)
  have R11' := Lib.hid R11
  clear R11 R10' k11 b510
  go_wp2_with fail
  refine (cints_any _ _ _ _ w11 R11'.out (by simp [St.Few])).mono ?_
  rw [ex_4]
  rintro r w12 ⟨vl, rfl, O12, R12, k12⟩
  have b512 := b511.trans (chg_below k12 (Nat.le_refl _) b511.size)
  have R12' := Lib.hid R12
  have O12' := Lib.hid O12
  obtain ⟨A2, cap2, rfl⟩ := O12.form
  clear R12 R11' k12 b511 O12
  go_wp2_with fail
  refine (cfinish_any _ _ _ _ w12 R12'.out (by simp [St.Few])).mono ?_
  rintro r w13 ⟨rfl, b13⟩
  have b513 := b512.trans (b13.mono b512.size)
  have hs13 := b513.size
  have hQ := OwnB.one w13 (Nat.le_refl _) 128
  have hBQ : Below w13.heap.size w13 (w13.alloc (.cells #[.int .u8 ((128 : UInt8).toNat : Int)] 5)) := (Below.refl _ _).alloc (Nat.le_refl _) _
  have hQ' := Lib.hid hQ
  have hBQ' := Lib.hid hBQ
  clear hQ hBQ R12'
  go_wp2_with fail
  refine (newReader_any _ [128] w13.heap.size _ hQ'.out (by simp) (by decide)).mono ?_
  rintro r w15 ⟨q, rfl, R15, b15⟩
  have b1315 : Below w13.heap.size w13 w15 := then_ hBQ'.out b15
  have R15' := Lib.hid R15
  clear R15 hQ' hBQ' b15
  go_wp2_with fail
  refine (cint_any _ _ _ _ w15 R15'.out (by simp [St.Few])).mono ?_
  rw [ex_5]
  rintro r w16 ⟨rfl, R16, k16⟩
  have b1316 : Below w13.heap.size w13 w16 := b1315.trans (chg_below k16 (Nat.le_refl _) b1315.size)
  have b516 : Below w5.heap.size w5 w16 := b513.trans (b1316.mono hs13)
  have b1216 : Below w12.heap.size w12 w16 := b13.trans (b1316.mono b13.size)
  have hRb := Lib.hid (O5'.out.below b516).rb
  have hRl := (O12'.out.below b1216).rn
  obtain ⟨ad, rfl, d0⟩ := hRl.at_ (j := 0) (z := 1) rfl
  obtain ⟨ad', e', d1⟩ := hRl.at_ (j := 1) (z := -1) rfl
  injection e' with e'
  subst e'
  have hls : (some ad : Option Addr) = some ad := rfl
  rw [add_zero'] at d0
  have d1' : w16.cell? ⟨ad.block, ad.off + 1, none⟩ = some (.int .i64 (-1)) := d1
  have R16' := Lib.hid R16
  have B16 : Below w.heap.size w w16 := B5.trans (b516.mono B5.size)
  clear hRl R16 R15' k16 b1315 b1316 b1216 b513 b512 b13 hs58 hs13 O12' O5'
  go_wp2_with (refine wpList_conv rfl _ rfl (.slice A exB.length cap) exB rfl hRb.out ?_)
  refine (cfinish_any _ _ _ _ w16 R16'.out (by simp [St.Few])).mono ?_
  rintro r w17 ⟨rfl, b17⟩
  go_wp2
  go_ret
  exact ⟨rfl, then_ B16 b17⟩
end Go.Proofs.Ytmmfkepkdmmmkaa
