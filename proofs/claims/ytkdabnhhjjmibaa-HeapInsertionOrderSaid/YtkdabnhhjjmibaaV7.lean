/- The law HeapInsertionOrder. -/
import Derived.Test.YtkdabnhhjjmibaaV3
import Derived.Test.YtkdabnhhjjmibaaVR
namespace Go.Proofs.Ytkdabnhhjjmibaa
open Go.RowKit Go.Lib Hp

/-- x holds just the keys of the places J 0 .. J (k - 1). -/
def Mem (l : List Int) (J : Nat → Nat) (k : Nat) (x : List (Int × KI)) : Prop := ∀ e : Int × KI, e ∈ x ↔ ∃ i : Nat, i < k ∧ e = ((J i : Int), l.getD (J i) 0)
theorem Mem.zero (l : List Int) (J : Nat → Nat) : Mem l J 0 [] := fun e => by simp
theorem Mem.put {l : List Int} {J : Nat → Nat} {k : Nat} {x : List (Int × KI)} (h : Mem l J k x) (nd : ND x) : Mem l J (k + 1) (rput x (J k) (l.getD (J k) 0)) := fun e => by
  rw [mem_rput nd, h e]
  constructor
  · rintro (rfl | ⟨⟨i, hi, rfl⟩, _⟩)
    · exact ⟨k, by omega, rfl⟩
    · exact ⟨i, by omega, rfl⟩
  · rintro ⟨i, hi, rfl⟩
    by_cases e1 : J i = J k
    · left; rw [e1]
    · right
      refine ⟨⟨i, ?_, rfl⟩, fun e2 => e1 (by have : ((J i : Nat) : Int) = (J k : Int) := e2; omega)⟩
      rcases Nat.lt_or_ge i k with h2 | h2
      · exact h2
      · exact absurd (by congr 1; omega) e1
theorem turn_onto {n t j : Nat} (hj : j < n) : ∃ i, i < n ∧ n - 1 - (i + t) % n = j := by
  have hr : t % n < n := Nat.mod_lt _ (by omega)
  by_cases h : t % n ≤ n - 1 - j
  · refine ⟨n - 1 - j - t % n, by omega, ?_⟩
    have e : (n - 1 - j - t % n + t) % n = n - 1 - j := by
      rw [Nat.add_mod, Nat.mod_eq_of_lt (show n - 1 - j - t % n < n by omega), show n - 1 - j - t % n + t % n = n - 1 - j by omega, Nat.mod_eq_of_lt (by omega)]
    rw [e]; omega
  · refine ⟨n - 1 - j + n - t % n, by omega, ?_⟩
    have e : (n - 1 - j + n - t % n + t) % n = n - 1 - j := by
      rw [Nat.add_mod, Nat.mod_eq_of_lt (show n - 1 - j + n - t % n < n by omega), show n - 1 - j + n - t % n + t % n = n - 1 - j + n by omega, Nat.add_mod_right, Nat.mod_eq_of_lt (by omega)]
    rw [e]; omega
theorem mem_same {l : List Int} {t n : Nat} {x y : List (Int × KI)} (hx : Mem l id n x) (hy : Mem l (fun i => n - 1 - (i + t) % n) n y) : ∀ e, e ∈ x ↔ e ∈ y := fun e => by
  rw [hx e, hy e]
  constructor
  · rintro ⟨j, hj, rfl⟩
    obtain ⟨i, hi, e1⟩ := turn_onto (t := t) hj
    exact ⟨i, hi, by simp only [e1, id]⟩
  · rintro ⟨i, hi, rfl⟩
    exact ⟨n - 1 - (i + t) % n, by omega, rfl⟩
theorem mem_rdrop_same {x y : List (Int × KI)} (nx : ND x) (ny : ND y) (h : ∀ e, e ∈ x ↔ e ∈ y) (i : Int) : ∀ e, e ∈ rdrop x i ↔ e ∈ rdrop y i := fun e => by
  rw [mem_rdrop nx, mem_rdrop ny, h e]

/-- Two heaps share no block. -/
def Dis (S T : Nat → Prop) : Prop := ∀ q, S q → ¬ T q
theorem Dis.symm {S T : Nat → Prop} (h : Dis S T) : Dis T S := fun q a b => h q b a
theorem Dis.moved {ha : Nat} {va va' : Value} {ma ma' : Option Nat} {w w' : World} {T : Nat → Prop} (h : Dis (foot ha va ma) T) (hM : Moved ha va ma va' ma' w w') (hlt : ∀ q, T q → q < w.heap.size) : Dis (foot ha va' ma') T := fun q hq ht => by
  rcases hM.sub q hq with h1 | h1
  · exact h q h1 ht
  · have := hlt q ht; omega
theorem RepI.other {ha hb : Nat} {va va' vb : Value} {ma ma' mb : Option Nat} {w w' : World} {x : List (Int × KI)} {n : Nat} (H : RepI w hb vb mb x n) (h : Dis (foot ha va ma) (foot hb vb mb)) (hM : Moved ha va ma va' ma' w w') : RepI w' hb vb mb x n :=
  H.chg hM.chg fun k hk hS => h k hS hk
theorem Keep.other {W w w' : World} {ha hb : Nat} {va va' vb : Value} {ma ma' mb : Option Nat} (Kb : Keep W w hb vb mb) (Ka : Keep W w ha va ma) (hM : Moved ha va ma va' ma' w w') : Keep W w' hb vb mb := ⟨Kb.low, (Ka.moved hM).bel⟩

set_option maxRecDepth 100000 in
theorem lawInsert (A : Option Addr) (c : Nat) (l : List Int) (t : Int) (W : World) (hr : RdN W A l) (hl : l.length ≤ 9223372036854775807) (ht : 0 ≤ t ∧ t ≤ 255) :
    Calls Try.prog 7 #[.slice A l.length c, .int .u8 t] W fun r w' => r = .returned (.bool true) ∧ Below W.heap.size W w' := by
  obtain ⟨tn, rfl⟩ : ∃ tn : Nat, t = (tn : Int) := ⟨t.toNat, by omega⟩
  have htn : tn ≤ 255 := by omega
  by_cases hbig : 60 < l.length
  · have hb1 : (60 : Int) < (l.length : Int) := by omega
    go_enter Try.func7, Try.ntmps7
    go_wp2_with (go_at_call 9; refine (wakes_any _).mono ?_; rintro r w1 ⟨rfl, b1⟩)
    go_ret
    exact ⟨rfl, b1⟩
  · have hb1 : (l.length : Int) ≤ 60 := by omega
    have hr' := Lib.hid hr
    clear hr
    go_enter Try.func7, Try.ntmps7
    go_wp2_with fail
    refine (wakes_any _).mono ?_
    rintro r w1 ⟨rfl, b1⟩
    go_wp2_with fail
    refine (new_anyI w1).mono ?_
    rintro r w2 ⟨rfl, Ha, b2⟩
    have Ka := Keep.new b1 b2
    have hsz : w1.heap.size < w2.heap.size := Ha.lt _ (.inl rfl)
    have Ha := Lib.hid Ha
    go_wp2_with fail
    refine (new_anyI w2).mono ?_
    rintro r w3 ⟨rfl, Hb, b3⟩
    have Ha := Ha.out.below b3
    have Kb := Keep.new (then_ b1 b2) b3
    have Ka := Ka.below b3
    have hd : Dis (foot w1.heap.size (.slice none 0 0) none) (foot w2.heap.size (.slice none 0 0) none) := by
      rintro q (h | h | h) (h' | h' | h')
      · omega
      · cases h'
      · cases h'
      · cases h
      · cases h
      · cases h
      · cases h
      · cases h
      · cases h
    generalize w1.heap.size = ha at *
    generalize w2.heap.size = hb at *
    have Ha := Lib.hid Ha
    have Hb := Lib.hid Hb
    clear b1 b2 b3 hsz
    go_wp2_with fail
    go_loopw [28] (fun i w' => ∃ (k : Nat) (va vb : Value) (ma mb : Option Nat) (xa xb : List (Int × KI)), i = .int .i64 k ∧ k ≤ l.length ∧ xa.length ≤ k ∧ xb.length ≤ k ∧ RepI w' ha va ma xa (300 * k) ∧ RepI w' hb vb mb xb (300 * k) ∧ Mem l id k xa ∧ Mem l (fun i => l.length - 1 - (i + tn) % l.length) k xb ∧ Dis (foot ha va ma) (foot hb vb mb) ∧ Keep W w' ha va ma ∧ Keep W w' hb vb mb) (fun i _ => l.length - (intOf i).toNat)
    case atStart => exact ⟨0, _, _, _, _, [], [], rfl, by omega, by simp, by simp, Ha.out, Hb.out, Mem.zero _ _, Mem.zero _ _, hd, Ka, Kb⟩
    case round =>
      obtain ⟨k, va, vb, ma, mb, xa, xb, rfl, hk, hxa, hxb, H1, H2, M1, M2, hd, K1, K2⟩ := hrel
      by_cases hlt : k < l.length
      · obtain ⟨z, hz⟩ : ∃ z, l[k]? = some z := ⟨_, List.getElem?_eq_getElem hlt⟩
        obtain ⟨J, hJ⟩ : ∃ J, l.length - 1 - (k + tn) % l.length = J := ⟨_, rfl⟩
        have hJl : J < l.length := by omega
        obtain ⟨z', hz'⟩ : ∃ z, l[J]? = some z := ⟨_, List.getElem?_eq_getElem hJl⟩
        obtain ⟨ad, rfl, _, hc⟩ := (hr'.out.below K1.bel).1 (by omega)
        have c0 := hc k z hz
        have e1 : (k : Int) < (l.length : Int) := by omega
        have e2 : (0 : Int) ≤ (k : Int) := by omega
        have nda := H1.nd
        have ndb := H2.nd
        have H1 := Lib.hid H1
        have H2 := Lib.hid H2
        have M1 := Lib.hid M1
        have M2 := Lib.hid M2
        clear hc Ha Hb
        go_wp2_with fail
        refine (put_anyI ha va ma xa (300 * k) k z wr H1.out (WalkArith.wf_i64 (by omega)) (by omega) (by omega)).mono ?_
        rintro r w5 ⟨⟨u5, rfl⟩, va5, ma5, H5, N5⟩
        have H6 := H2.out.other hd N5
        have hd5 := hd.moved N5 H2.out.lt
        have K6 := K2.other K1 N5
        have K5 := K1.moved N5
        have M5 : Mem l id (k + 1) (rput xa k z) := by
          have := M1.out.put nda
          rw [show l.getD (id k) 0 = z by rw [List.getD_eq_getElem?_getD]; show (l[k]?).getD 0 = z; rw [hz]; rfl] at this
          exact this
        obtain ⟨ad', e', _, hc'⟩ := (hr'.out.below K5.bel).1 (by omega)
        obtain rfl : ad = ad' := by injection e'
        have c1 := hc' J z' hz'
        have H5 := Lib.hid H5
        have H6 := Lib.hid H6
        have M5 := Lib.hid M5
        obtain ⟨n1, hn1⟩ : ∃ n1, l.length - 1 = n1 := ⟨_, rfl⟩
        obtain ⟨S, hS⟩ : ∃ S, k + tn = S := ⟨_, rfl⟩
        obtain ⟨R, hR⟩ : ∃ R, S % l.length = R := ⟨_, rfl⟩
        have g1 : IntKind.i64.wrap ((l.length : Int) - 1) = (n1 : Int) := by rw [IntKind.wrap_i64]; omega
        have g2 : IntKind.i64.wrap ((k : Int) + (tn : Int)) = (S : Int) := by rw [IntKind.wrap_i64]; omega
        have g3 : (S : Int) % (l.length : Int) = (R : Int) := by rw [← hR]; simp
        have g4 : IntKind.i64.wrap ((n1 : Int) - (R : Int)) = (J : Int) := by
          have : R < l.length := by rw [← hR]; exact Nat.mod_lt _ (by omega)
          rw [hS, hR] at hJ
          rw [IntKind.wrap_i64]; omega
        have g5 : (J : Int) < (l.length : Int) := by omega
        have g6 : (0 : Int) ≤ (J : Int) := by omega
        have g7 : (l.length : Int) ≠ 0 := by omega
        have g8 : ¬ (l.length = 0) := by omega
        have hJ' := Lib.hid hJ
        have hz'' := Lib.hid hz'
        clear H1 H2 M1 hc' N5 K1 K2 hd c0 hz hJ hz' hn1 hS hR
        have hz' := hz''
        go_wp2_with fail
        refine (put_anyI hb vb mb xb (300 * k) J z' w5 H6.out (WalkArith.wf_i64 (by omega)) (by omega) (by omega)).mono ?_
        rintro r w7 ⟨⟨u7, rfl⟩, vb7, mb7, H7, N7⟩
        have H8 := H5.out.other hd5.symm N7
        have hd7 := (hd5.symm.moved N7 H5.out.lt).symm
        have K8 := K5.other K6 N7
        have K7 := K6.moved N7
        have M7 : Mem l (fun i => l.length - 1 - (i + tn) % l.length) (k + 1) (rput xb J z') := by
          have h2 := M2.out.put ndb
          have hj := hJ'.out
          simp only [hj] at h2
          rw [show l.getD J 0 = z' by rw [List.getD_eq_getElem?_getD, hz'.out]; rfl] at h2
          exact h2
        have la5 : (rput xa k z).length ≤ k + 1 := by rw [length_rput]; split <;> omega
        have lb5 : (rput xb J z').length ≤ k + 1 := by rw [length_rput]; split <;> omega
        have H7 := Lib.hid (H7.mono (n' := 300 * (k + 1)) (by omega))
        have H8 := Lib.hid (H8.mono (n' := 300 * (k + 1)) (by omega))
        have M7 := Lib.hid M7
        clear H5 H6 M2 N7 K5 K6 hd5 c1 g1 g2 g3 g4 g5 g6 g7 g8
        go_wp2
        go_roundw
        case rel => exact ⟨k + 1, va5, vb7, ma5, mb7, _, _, by go_num, by omega, la5, lb5, H8.out, H7.out, M5.out, M7.out, hd7, K8, K7⟩
        case measure => simp [intOf]; omega
      · obtain rfl : k = l.length := by omega
        have hsame := mem_same M1 M2
        have H1 := Lib.hid H1
        have H2 := Lib.hid H2
        have hsame := Lib.hid hsame
        have g1 : IntKind.i64.wrap ((l.length : Int) + 1) = ((l.length + 1 : Nat) : Int) := by rw [IntKind.wrap_i64]; omega
        obtain ⟨N, hN⟩ : ∃ N, l.length + 1 = N := ⟨_, rfl⟩
        rw [hN] at g1
        clear M1 M2 Ha Hb Ka Kb
        go_wp2_with fail
        go_loopw [56] (fun i w' => ∃ (k : Nat) (va vb : Value) (ma mb : Option Nat) (xa xb : List (Int × KI)), i = .int .i64 k ∧ k ≤ N ∧ xa.length ≤ 60 ∧ xb.length ≤ 60 ∧ RepI w' ha va ma xa (30000 + 300 * k) ∧ RepI w' hb vb mb xb (30000 + 300 * k) ∧ (∀ e, e ∈ xa ↔ e ∈ xb) ∧ Dis (foot ha va ma) (foot hb vb mb) ∧ Keep W w' ha va ma ∧ Keep W w' hb vb mb) (fun i _ => N - (intOf i).toNat)
        case atStart => exact ⟨0, va, vb, ma, mb, xa, xb, rfl, by omega, by omega, by omega, H1.out.mono (by omega), H2.out.mono (by omega), hsame.out, hd, K1, K2⟩
        case round =>
          clear H1 H2 hsame hd K1 K2
          obtain ⟨k, va, vb, ma, mb, xa, xb, rfl, hk, hxa, hxb, H1, H2, hsame, hd, K1, K2⟩ := hrel
          by_cases hlt : k < N
          · have e1 : (k : Int) < (N : Int) := by omega
            have e2 : (0 : Int) ≤ (k : Int) := by omega
            by_cases h0 : xa = []
            · have h0' : xb = [] := by
                subst h0
                cases xb with
                | nil => rfl
                | cons a t => exact absurd ((hsame a).2 (by simp)) (by simp)
              subst h0 h0'
              have H1 := Lib.hid H1
              have H2 := Lib.hid H2
              have hsame := Lib.hid hsame
              go_wp2_with fail
              refine (pop_noneI ha va ma _ wr H1.out).mono ?_
              rintro r w5 ⟨rfl, b5⟩
              go_wp2_with fail
              refine (pop_noneI hb vb mb _ w5 (H2.out.below b5)).mono ?_
              rintro r w6 ⟨rfl, b6⟩
              have B6 := then_ b5 b6
              have H1 := Lib.hid ((H1.out.below B6).mono (n' := 30000 + 300 * (k + 1)) (by omega))
              have H2 := Lib.hid ((H2.out.below B6).mono (n' := 30000 + 300 * (k + 1)) (by omega))
              have K1 := K1.below B6
              have K2 := K2.below B6
              clear b5 b6 B6
              go_wp2
              go_roundw
              case rel => exact ⟨k + 1, va, vb, ma, mb, [], [], by go_num, by omega, by simp, by simp, H1.out, H2.out, fun _ => Iff.rfl, hd, K1, K2⟩
              case measure => simp [intOf]; omega
            · have h1 : 0 < xa.length := List.length_pos_iff.2 h0
              obtain ⟨b0, hb0⟩ := List.exists_mem_of_length_pos h1
              have h2 : 0 < xb.length := List.length_pos_of_mem ((hsame b0).1 hb0)
              have nda := H1.nd
              have ndb := H2.nd
              have H1 := Lib.hid H1
              have H2 := Lib.hid H2
              have hsame := Lib.hid hsame
              go_wp2_with fail
              refine (pop_someI ha va ma xa _ wr H1.out h1 (by omega) (by omega)).mono ?_
              rintro r w5 ⟨a, ht5, rfl, va5, ma5, H5, N5⟩
              have H6 := Lib.hid (H2.out.other hd N5)
              have hd5 := hd.moved N5 H2.out.lt
              have K6 := K2.other K1 N5
              have K5 := K1.moved N5
              have H5 := Lib.hid H5
              have ht5 := Lib.hid ht5
              clear H1 H2 N5 hd K1 K2
              go_wp2_with fail
              refine (pop_someI hb vb mb xb _ w5 H6.out h2 (by omega) (by omega)).mono ?_
              rintro r w7 ⟨a', ht7, rfl, vb7, mb7, H7, N7⟩
              obtain rfl := ht5.out.unique strictI ht7 hsame.out
              have H8 := H5.out.other hd5.symm N7
              have hd7 := (hd5.symm.moved N7 H5.out.lt).symm
              have K8 := K5.other K6 N7
              have K7 := K6.moved N7
              have hsame7 := Lib.hid (mem_rdrop_same nda ndb hsame.out a.1)
              have la : (rdrop xa a.1).length ≤ 60 := by rw [length_rdrop]; split <;> omega
              have lb : (rdrop xb a.1).length ≤ 60 := by rw [length_rdrop]; split <;> omega
              have H7 := Lib.hid (H7.mono (n' := 30000 + 300 * (k + 1)) (by omega))
              have H8 := Lib.hid (H8.mono (n' := 30000 + 300 * (k + 1)) (by omega))
              clear H5 H6 N7 K5 K6 hd5 hsame ht5 ht7
              go_wp2
              go_roundw
              case rel => exact ⟨k + 1, va5, vb7, ma5, mb7, _, _, by go_num, by omega, la, lb, H8.out, H7.out, hsame7.out, hd7, K8, K7⟩
              case measure => simp [intOf]; omega
          · obtain rfl : k = N := by omega
            go_wp2
            go_ret
            exact ⟨rfl, K1.bel⟩
end Go.Proofs.Ytkdabnhhjjmibaa
