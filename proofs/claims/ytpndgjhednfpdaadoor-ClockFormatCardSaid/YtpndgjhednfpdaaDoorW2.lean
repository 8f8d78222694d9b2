/- The clock's times: Format, Parse and the reference's, over a world that holds the library's tables and sentinels. -/
import Derived.Test.YtpndgjhednfpdaaDoorW1
import Derived.Test.YtpndgjhednfpdaaDoorShelf
import Derived.Lib.LaidTab
import Derived.Lib.SmallJoins
import Derived.WalkSmall
import Derived.Lib.Hide
namespace Go.Proofs.YtpndgjhednfpdaaDoor
open Go.RowKit Go.Lib Go.Sort Clk

/-- What the walks ask of a world. -/
structure Env (w : World) : Prop where
  pow : Lib.TabIs Tryd.prog w "internal/strconv.uint64pow10" .u64 Lib.pow10Tab
  maxlen : ∃ m, w.cell? ⟨2, 0, none⟩ = some (.int .i64 m)
  syn : ∃ t p, w.cell? ⟨5, 0, none⟩ = some (.iface t p)
  rng : ∃ t p, w.cell? ⟨6, 0, none⟩ = some (.iface t p)
  u0 : w.cell? ⟨0, 0, none⟩ = some (.string ⟨#[104]⟩)
  u1 : w.cell? ⟨0, 1, none⟩ = some (.int .i64 3600)
  u2 : w.cell? ⟨0, 2, none⟩ = some (.string ⟨#[109]⟩)
  u3 : w.cell? ⟨0, 3, none⟩ = some (.int .i64 60)
  u4 : w.cell? ⟨0, 4, none⟩ = some (.string ⟨#[115]⟩)
  u5 : w.cell? ⟨0, 5, none⟩ = some (.int .i64 1)
  size : 7 ≤ w.heap.size

theorem gPow : Tryd.prog.globalNamed "internal/strconv.uint64pow10" = some 1 := by kernel_rfl

theorem Env.of {w w' : World} (h : Env w) (hb : Below w.heap.size w w') : Env w' := by
  have hs := h.size
  have c : ∀ b o, b < 7 → w'.cell? ⟨b, o, none⟩ = w.cell? ⟨b, o, none⟩ := fun b o hlt => hb.cell (p := ⟨b, o, none⟩) (by show b < w.heap.size; omega)
  exact {
    pow := var?_below hb gPow (by omega) h.pow
    maxlen := by rw [c _ _ (by omega)]; exact h.maxlen
    syn := by rw [c _ _ (by omega)]; exact h.syn
    rng := by rw [c _ _ (by omega)]; exact h.rng
    u0 := by rw [c _ _ (by omega)]; exact h.u0
    u1 := by rw [c _ _ (by omega)]; exact h.u1
    u2 := by rw [c _ _ (by omega)]; exact h.u2
    u3 := by rw [c _ _ (by omega)]; exact h.u3
    u4 := by rw [c _ _ (by omega)]; exact h.u4
    u5 := by rw [c _ _ (by omega)]; exact h.u5
    size := Nat.le_trans hs hb.size }

theorem below_grow {B : Nat} {w : World} (h : B ≤ w.heap.size) (os : Array Obj) : Below B w (grow w os) :=
  ⟨rfl, rfl, rfl, by simp [grow], fun k hk => by simp only [grow]; rw [Array.getElem?_append_left (by omega)]⟩

theorem fmt_any (n : Int) (w : World) (hE : Env w) (h0 : 0 ≤ n) (h1 : n ≤ 4611686018427387904) :
    Calls Tryd.prog 26 #[.int .i64 n, .int .i64 10] w fun e w' => e = .returned (.string ⟨(decDigits n.toNat).toArray⟩) ∧ Below w.heap.size w w' := by
  refine (Tryd.strconv_FormatInt_10 n (by omega) (by omega) w hE.pow).mono ?_
  rintro e w' ⟨rfl, k, os, rfl⟩
  refine ⟨?_, (below_drewN (Below.refl _ _) k).trans (below_grow (w := w.drewN k) (Nat.le_refl _) os)⟩
  unfold itoa; rw [if_neg (by omega)]

theorem fmtSmall_any (n : Int) (w : World) (h0 : 0 ≤ n) (h1 : n < 100) :
    Calls Tryd.prog 26 #[.int .i64 n, .int .i64 10] w fun e w' => e = .returned (.string ⟨(decDigits n.toNat).toArray⟩) ∧ w = w' := by
  obtain ⟨i, rfl⟩ := Int.eq_ofNat_of_zero_le h0
  refine (Tryd.strconv_FormatInt_10_small i (by omega) w).mono ?_
  rintro e w' ⟨rfl, rfl⟩
  exact ⟨rfl, rfl⟩

theorem twoDigits_any (n : Int) (w : World) (h0 : 0 ≤ n) (h1 : n < 100) :
    Calls Tryd.prog 27 #[.int .i64 n] w fun e w' => e = .returned (.string ⟨(two n.toNat).toArray⟩) ∧ w = w' := by
  have l1 := len_dd n.toNat (by omega)
  by_cases hn : n < 10
  · go_enter Tryd.func27, Tryd.ntmps27
    go_wp2_with (go_at_call 26; refine (fmtSmall_any _ _ (by omega) (by omega)).mono ?_; rintro e w' ⟨rfl, rfl⟩)
    go_ret
    refine ⟨ret_s ?_, rfl⟩
    rw [dd_small (by omega)]
    unfold two
    rw [show n.toNat / 10 = 0 by omega, show n.toNat % 10 = n.toNat by omega]; rfl
  · go_enter Tryd.func27, Tryd.ntmps27
    go_wp2_with (go_at_call 26; refine (fmtSmall_any _ _ (by omega) (by omega)).mono ?_; rintro e w' ⟨rfl, rfl⟩)
    go_ret
    refine ⟨ret_s ?_, rfl⟩
    rw [dd_two (by omega) (by omega)]; rfl

theorem two_len (n : Nat) : (two n).length ≤ 2 := Nat.le_refl _

theorem text_len (n : Nat) (h : n ≤ 4611686018427387904) : (text n).length ≤ 29 := by
  by_cases e : n = 4611686018427387904
  · unfold text; rw [if_pos e]; decide
  · rw [text_length n (by omega), ← decDigits_length]
    have := len_dd (n / 86400) (by omega)
    omega

theorem format_any (t : Int) (w : World) (hE : Env w) :
    Calls Tryd.prog 15 #[.int .i64 t] w fun e w' => e = .returned (.string ⟨(text (hold t).toNat).toArray⟩) ∧ Below w.heap.size w w' := by
  have hb := hold_bd t
  have l1 := len_dd (hold t / 86400).toNat (by omega)
  by_cases hn : hold t = 4611686018427387904
  · have H := Lib.hid hn; clear hn
    have hbeq : (hold t == 4611686018427387904) = true := by rw [H.out]; rfl
    go_enter Tryd.func15, Tryd.ntmps15
    go_wp2_with (go_at_call 24; refine (clamp_any _ _).mono ?_; rintro e w' ⟨rfl, rfl⟩)
    go_ret
    exact ⟨ret_s (by unfold text; rw [H.out]; rfl), Below.refl _ _⟩
  · have l2 := two_len (hold t % 86400 / 3600).toNat
    have l3 := two_len (hold t % 3600 / 60).toNat
    have l4 := two_len (hold t % 60).toNat
    go_enter Tryd.func15, Tryd.ntmps15
    go_wp2_with (first | (go_at_call 24; refine (clamp_any _ _).mono ?_; rintro e w' ⟨rfl, rfl⟩) | (go_at_call 26; refine (fmt_any _ _ hE (by omega) (by omega)).mono ?_; rintro e w1 ⟨rfl, hb1⟩) | (go_at_call 27; refine (twoDigits_any _ _ (by omega) (by omega)).mono ?_; rintro e w2 ⟨rfl, rfl⟩))
    go_ret
    refine ⟨ret_s ?_, hb1⟩
    rw [show (hold t / 86400).toNat = (hold t).toNat / 86400 by omega, show (hold t % 86400 / 3600).toNat = (hold t).toNat % 86400 / 3600 by omega, show (hold t % 3600 / 60).toNat = (hold t).toNat % 3600 / 60 by omega, show (hold t % 60).toNat = (hold t).toNat % 60 by omega]
    unfold text
    rw [if_neg (by omega)]
    apply ByteArray.ext
    simp [hms]

theorem cut_le (l sep : Bs) : (cut l sep).1.length ≤ l.length ∧ (cut l sep).2.1.length ≤ l.length := by
  unfold cut
  split
  · simp only [List.length_take, List.length_drop]; omega
  · simp

theorem sz (l : Bs) : (⟨l.toArray⟩ : ByteArray).size = l.length := rfl

theorem cut_any (l sep : Bs) (w : World) (hE : Env w) (hl : l.length ≤ 1000) :
    Calls Tryd.prog 36 #[.string ⟨l.toArray⟩, .string ⟨sep.toArray⟩] w fun e w' => e = .returned (.tuple #[.string ⟨(cut l sep).1.toArray⟩, .string ⟨(cut l sep).2.1.toArray⟩, .bool (cut l sep).2.2]) ∧ Below w.heap.size w w' := by
  obtain ⟨m, hm⟩ := hE.maxlen
  refine (Tryd.strings_Cut ⟨l.toArray⟩ ⟨sep.toArray⟩ m w (by rw [sz]; omega) hm).mono ?_
  rintro e w' ⟨rfl, n, rfl⟩
  exact ⟨rfl, below_drewN (Below.refl _ _) n⟩

theorem parseInt_any (l : Bs) (w : World) (hE : Env w) (hl : l.length ≤ 1000) :
    Calls Tryd.prog 48 #[.string ⟨l.toArray⟩, .int .i64 10, .int .i64 64] w fun e w' => ∃ v, e = .returned (.tuple #[.int .i64 (num l), v]) ∧ Below w.heap.size w w' := by
  unfold num
  cases h : parseIntB 64 l
  · rename_i v
    refine (Tryd.strconv_ParseInt_10_at64_ok ⟨l.toArray⟩ (by rw [sz]; omega) v h w).mono ?_
    rintro e w' ⟨rfl, hw⟩
    refine ⟨_, rfl, ?_⟩
    rcases hw with rfl | ⟨t, rfl⟩
    · exact Below.refl _ _
    · exact Joins.below_bytesWorld _ _ _ _ (Nat.le_refl _)
  · obtain ⟨t, p, hv⟩ := hE.syn
    refine (Any.strconv_ParseInt_10_at64_syntax Tryd.laysC174 ⟨l.toArray⟩ (by rw [sz]; omega) h _ w hv (Or.inr ⟨t, p, rfl⟩)).mono ?_
    rintro e w' ⟨N, rfl, _, _, hb⟩
    exact ⟨_, rfl, hb⟩
  · obtain ⟨t, p, hv⟩ := hE.rng
    refine (Tryd.strconv_ParseInt_10_at64_range ⟨l.toArray⟩ (by rw [sz]; omega) h _ w hv (Or.inr ⟨t, p, rfl⟩)).mono ?_
    rintro e w' ⟨N, rfl, _, _, hb⟩
    exact ⟨_, rfl, hb⟩

theorem number_any (l : Bs) (w : World) (hE : Env w) (hl : l.length ≤ 1000) :
    Calls Tryd.prog 37 #[.string ⟨l.toArray⟩] w fun e w' => e = .returned (.int .i64 (num l)) ∧ Below w.heap.size w w' := by
  go_enter Tryd.func37, Tryd.ntmps37
  go_wp2_with (go_at_call 48; refine (parseInt_any _ _ hE hl).mono ?_; rintro e w' ⟨v, rfl, hb⟩)
  go_ret
  exact ⟨rfl, hb⟩

/-- What readTime returns. -/
def readT (s : Bs) : Int :=
  if s = never then 4611686018427387904 else
  hold (wrap64 (wrap64 (wrap64 (wrap64 ((fields s).1 * 86400) + wrap64 ((fields s).2.1 * 3600)) + wrap64 ((fields s).2.2.1 * 60)) + (fields s).2.2.2))

theorem readT_text (n : Nat) (h : n < 4611686018427387904) : readT (text n) = n := by
  unfold readT
  rw [if_neg (text_ne_never n h), fields_text n h]
  simp only []
  rw [IntWalk.wrap64_in (((n / 86400 : Nat) : Int) * 86400) (by omega), IntWalk.wrap64_in (((n % 86400 / 3600 : Nat) : Int) * 3600) (by omega), IntWalk.wrap64_in (((n % 3600 / 60 : Nat) : Int) * 60) (by omega)]
  rw [IntWalk.wrap64_in (_ + ((n % 86400 / 3600 : Nat) : Int) * 3600) (by omega), IntWalk.wrap64_in (_ + ((n % 3600 / 60 : Nat) : Int) * 60) (by omega), IntWalk.wrap64_in _ (by omega)]
  rw [hold_id (by omega) (by omega)]
  omega

theorem readTime_any (l : Bs) (w : World) (hE : Env w) (hl : l.length ≤ 1000) :
    Calls Tryd.prog 28 #[.string ⟨l.toArray⟩] w fun e w' => e = .returned (.int .i64 (readT l)) ∧ Below w.heap.size w w' := by
  have c1 := cut_le l [100, 32]
  have c2 := cut_le (cut l [100, 32]).2.1 [58]
  have c3 := cut_le (cut (cut l [100, 32]).2.1 [58]).2.1 [58]
  by_cases hn : l = [110, 101, 118, 101, 114]
  · subst hn
    go_enter Tryd.func28, Tryd.ntmps28
    go_wp2_with fail
    go_ret
    exact ⟨ret_i (by unfold readT never; rw [if_pos rfl]), Below.refl _ _⟩
  · have hne : (l == [110, 101, 118, 101, 114]) = false := by simpa using hn
    go_enter Tryd.func28, Tryd.ntmps28
    go_wp2_with fail
    refine (cut_any _ _ _ hE hl).mono ?_
    rintro e w1 ⟨rfl, b1⟩
    have E1 := hE.of b1
    go_wp2_with fail
    refine (cut_any _ _ _ E1 (by omega)).mono ?_
    rintro e w2 ⟨rfl, b2⟩
    have E2 := E1.of b2
    go_wp2_with fail
    refine (cut_any _ _ _ E2 (by omega)).mono ?_
    rintro e w3 ⟨rfl, b3⟩
    have E3 := E2.of b3
    go_wp2_with fail
    refine (number_any _ _ E3 (by omega)).mono ?_
    rintro e w4 ⟨rfl, b4⟩
    have E4 := E3.of b4
    go_wp2_with fail
    refine (number_any _ _ E4 (by omega)).mono ?_
    rintro e w5 ⟨rfl, b5⟩
    have E5 := E4.of b5
    go_wp2_with fail
    refine (number_any _ _ E5 (by omega)).mono ?_
    rintro e w6 ⟨rfl, b6⟩
    have E6 := E5.of b6
    go_wp2_with fail
    refine (number_any _ _ E6 (by omega)).mono ?_
    rintro e w7 ⟨rfl, b7⟩
    have E7 := E6.of b7
    go_wp2_with (go_at_call 24; refine (clamp_any _ _).mono ?_; rintro e w' ⟨rfl, rfl⟩)
    go_ret
    refine ⟨ret_i ?_, then_ (then_ (then_ (then_ (then_ (then_ b1 b2) b3) b4) b5) b6) b7⟩
    unfold readT
    rw [if_neg (show ¬ l = never from hn)]
    rfl

theorem readT_bd (l : Bs) : 0 ≤ readT l ∧ readT l ≤ 4611686018427387904 := by
  unfold readT; split
  · omega
  · exact hold_bd _

/-- What Parse returns. -/
def pT (l : Bs) : Int × Int := if text (hold (readT l)).toNat = l then (readT l, 0) else (0, 2)

theorem ret_2 {a b c d : Int} {k k' : IntKind} (h : a = c) (h' : b = d) : Ending.returned (.tuple #[.int k a, .int k' b]) = .returned (.tuple #[.int k c, .int k' d]) := by rw [h, h']

theorem parse_any (l : Bs) (w : World) (hE : Env w) (hl : l.length ≤ 1000) :
    Calls Tryd.prog 16 #[.string ⟨l.toArray⟩] w fun e w' => e = .returned (.tuple #[.int .i64 (pT l).1, .int .i64 (pT l).2]) ∧ Below w.heap.size w w' := by
  go_enter Tryd.func16, Tryd.ntmps16
  go_wp2_with fail
  refine (readTime_any _ _ hE hl).mono ?_
  rintro e w1 ⟨rfl, b1⟩
  have E1 := hE.of b1
  go_wp2_with fail
  refine (format_any _ _ E1).mono ?_
  rintro e w2 ⟨rfl, b2⟩
  go_wp2_with fail
  all_goals go_ret2
  · rename_i h
    have h' : ¬ text (hold (readT l)).toNat = l := by simpa using h
    exact ⟨ret_2 (by unfold pT; rw [if_neg h']) (by unfold pT; rw [if_neg h']), then_ b1 b2⟩
  · rename_i h
    have h' : text (hold (readT l)).toNat = l := by simpa using h
    exact ⟨ret_2 (by unfold pT; rw [if_pos h']) (by unfold pT; rw [if_pos h']), then_ b1 b2⟩

theorem refTextNever (t : Int) (w : World) (h : hold t = 4611686018427387904) :
    Calls Tryd.prog 17 #[.int .i64 t] w fun e w' => e = .returned (.string ⟨(text (hold t).toNat).toArray⟩) ∧ Below w.heap.size w w' := by
  have H := Lib.hid h; clear h
  have hbeq : (hold t == 4611686018427387904) = true := by rw [H.out]; rfl
  go_enter Tryd.func17, Tryd.ntmps17
  go_wp2_with (first | (go_at_call 18; refine (hold_any _ _).mono ?_; rintro e w' ⟨rfl, rfl⟩) | (go_at_call 25; refine (never_any _).mono ?_; rintro e w' ⟨rfl, rfl⟩))
  go_ret
  exact ⟨ret_s (by unfold text; rw [H.out]; rfl), Below.refl _ _⟩

theorem refText_any (t : Int) (w : World) :
    Calls Tryd.prog 17 #[.int .i64 t] w fun e w' => e = .returned (.string ⟨(text (hold t).toNat).toArray⟩) ∧ Below w.heap.size w w' := by
  by_cases hn : hold t = 4611686018427387904
  · exact refTextNever t w hn
  · have hb := hold_bd t
    have hbeq : (hold t == 4611686018427387904) = false := by simpa using hn
    have l1 := len_dd (hold t / 86400).toNat (by omega)
    have l2 := two_len (hold t % 86400 / 3600).toNat
    have l3 := two_len (hold t % 3600 / 60).toNat
    have l4 := two_len (hold t % 60).toNat
    go_enter Tryd.func17, Tryd.ntmps17
    go_wp2_with (first | (go_at_call 18; refine (hold_any _ _).mono ?_; rintro e w' ⟨rfl, rfl⟩) | (go_at_call 25; refine (never_any _).mono ?_; rintro e w' ⟨rfl, rfl⟩))
    refine (num_any _ _ (by omega) (by omega)).mono ?_
    rintro e w1 ⟨rfl, b1⟩
    go_wp2_with fail
    refine (refTwo_any _ _ (by omega) (by omega)).mono ?_
    rintro e w2 ⟨rfl, b2⟩
    go_wp2_with fail
    refine (refTwo_any _ _ (by omega) (by omega)).mono ?_
    rintro e w3 ⟨rfl, b3⟩
    go_wp2_with fail
    refine (refTwo_any _ _ (by omega) (by omega)).mono ?_
    rintro e w4 ⟨rfl, b4⟩
    go_wp2_with fail
    go_ret
    refine ⟨ret_s ?_, then_ (then_ (then_ b1 b2) b3) b4⟩
    rw [show (hold t / 86400).toNat = (hold t).toNat / 86400 by omega, show (hold t % 86400 / 3600).toNat = (hold t).toNat % 86400 / 3600 by omega, show (hold t % 3600 / 60).toNat = (hold t).toNat % 3600 / 60 by omega, show (hold t % 60).toNat = (hold t).toNat % 60 by omega]
    unfold text
    rw [if_neg (by omega)]
    apply ByteArray.ext
    simp [hms]

end Go.Proofs.YtpndgjhednfpdaaDoor
