/- The reference's Parse: walk. -/
import Derived.Test.YtggalncjookkiaaDoorVS
import Derived.Test.YtggalncjookkiaaDoorVN
import Derived.Laws.Strings2
namespace Go.Proofs.YtggalncjookkiaaDoor
open Go.RowKit Go.Lib Nds

/-- What the reference's Parse returns. -/
def RPost (w : World) (l : Bs) (e : Ending) (w' : World) : Prop :=
  Below w.heap.size w w' ∧ match rp [] l with
  | none => e = .returned (.tuple #[.slice none 0 0, .bool false])
  | some out => ∃ A c, e = .returned (.tuple #[.slice A (ei (ofP out)).length c, .bool (txt (ofP out) == l)]) ∧ Rd w' A (ei (ofP out)).length (ei (ofP out))

theorem rpost_none {w w' : World} {l : Bs} (h : rp [] l = none) (hb : Below w.heap.size w w') : RPost w l (.returned (.tuple #[.slice none 0 0, .bool false])) w' := by
  unfold RPost; rw [h]; exact ⟨hb, rfl⟩
theorem rpost_some {w w' : World} {l : Bs} {out : List Int} {A : Option Addr} {c : Nat} (h : rp [] l = some out) (hb : Below w.heap.size w w') (hr : Rd w' A (ei (ofP out)).length (ei (ofP out))) :
    RPost w l (.returned (.tuple #[.slice A (ei (ofP out)).length c, .bool (txt (ofP out) == l)])) w' := by
  unfold RPost; rw [h]; exact ⟨hb, A, c, rfl, hr⟩

theorem tail_mk (l : Bs) (a : Nat) : (⟨l.toArray⟩ : ByteArray).extract a l.length = ⟨(l.drop a).toArray⟩ := by
  rw [ByteArray.extract_mk, List.take_of_length_le (by simp)]

def upto (out : List Int) (n x : Nat) : List Int := out ++ (List.range' n (x - n)).map fun (m : Nat) => (m : Int)
theorem upto_nil (out : List Int) (n : Nat) : upto out n n = out := by unfold upto; simp
theorem upto_next (out : List Int) (n x : Nat) (h : n ≤ x) : upto out n (x + 1) = upto out n x ++ [(x : Int)] := by
  unfold upto
  rw [show x + 1 - n = (x - n) + 1 by omega, List.range'_concat, List.map_append, List.append_assoc]
  simp; omega
theorem upto_all (out : List Int) (n la x : Nat) (h : n ≤ x) (h1 : x ≤ la + 1 ∨ x = n) (h2 : ¬ x ≤ la) : upto out n x = out ++ ints n la := by
  unfold upto ints
  rw [show x - n = la + 1 - n by omega]
theorem upto_len (out : List Int) (n x : Nat) : (upto out n x).length = out.length + (x - n) := by unfold upto; simp

theorem dash_k {l : Bs} (h : (rnumber l).2 = 0) : dash l = false := by unfold dash; rw [h]; rfl
theorem dash_end {l : Bs} (h : l.length ≤ (rnumber l).2) : dash l = false := by unfold dash; rw [List.drop_eq_nil_of_le h]; simp
theorem dash_at {l : Bs} {a : Nat} {c : UInt8} (h0 : 0 < (rnumber (l.drop a)).2) (h : a + (rnumber (l.drop a)).2 < l.length) (hc : l[a + (rnumber (l.drop a)).2] = c) : dash (l.drop a) = (c == 45) := by
  have e : (l.drop a).drop (rnumber (l.drop a)).2 = l.drop (a + (rnumber (l.drop a)).2) := List.drop_drop
  unfold dash
  rw [e, List.drop_eq_getElem_cons h, hc]
  simp [h0]
theorem last_no {l : Bs} (h : dash l = false) : lastOf l = rnumber l ∧ usedOf l = (rnumber l).2 := by
  unfold lastOf usedOf; rw [h]; simp
theorem last_yes {l : Bs} (h : dash l = true) : lastOf l = rnumber (l.drop ((rnumber l).2 + 1)) ∧ usedOf l = (rnumber l).2 + 1 + (lastOf l).2 := by
  unfold lastOf usedOf lastOf; rw [h]; simp

/-- Where a round stands once its numbers are read: they are n and la, kk digits were read last, the next byte is at d. -/
structure Fin (l : Bs) (a n la kk d : Nat) : Prop where
  n1 : (rnumber (l.drop a)).1 = n
  la1 : (lastOf (l.drop a)).1 = la
  kk1 : (lastOf (l.drop a)).2 = kk
  d1 : d = a + usedOf (l.drop a)
  dl : d ≤ l.length
  ka : kk ≤ d - a
  nb : n < 10000
  lb : la < 10000
  kb : kk ≤ 4

theorem Fin.of {l : Bs} {a : Nat} (h : a ≤ l.length) {n la kk d : Nat} (h1 : (rnumber (l.drop a)).1 = n) (h2 : (lastOf (l.drop a)).1 = la) (h3 : (lastOf (l.drop a)).2 = kk) (h4 : d = a + usedOf (l.drop a)) : Fin l a n la kk d := by
  have hu := used_le (l.drop a)
  rw [List.length_drop] at hu
  have hk : kk ≤ usedOf (l.drop a) := by
    cases hd : dash (l.drop a)
    · have := last_no hd; rw [this.1] at h3; rw [this.2]; omega
    · have := last_yes hd; rw [this.2]; omega
  have hb : la < 10000 ∧ kk ≤ 4 := by
    cases hd : dash (l.drop a)
    · have := last_no hd; rw [this.1] at h2 h3; have := rnumber_bd (l.drop a); omega
    · have := last_yes hd; rw [this.1] at h2 h3; have := rnumber_bd ((l.drop a).drop ((rnumber (l.drop a)).2 + 1)); omega
  have := rnumber_bd (l.drop a)
  exact ⟨h1, h2, h3, h4, by omega, by omega, by omega, hb.1, hb.2⟩

theorem Fin.stop {l : Bs} {a n la kk d : Nat} (h : Fin l a n la kk d) {out : List Int} (he : rp out (l.drop a) = rp [] l) (ha : a < l.length) (hs : kk = 0 ∨ 4096 ≤ n ∨ 4096 ≤ la) : rp [] l = none := by
  rw [← he]
  refine rp_stop (fun e => ?_) ?_
  · have := congrArg List.length e; rw [List.length_drop] at this; simp at this; omega
  · unfold Stop; rw [h.n1, h.la1, h.kk1]; exact hs
theorem Fin.step {l : Bs} {a n la kk d : Nat} (h : Fin l a n la kk d) {out : List Int} (he : rp out (l.drop a) = rp [] l) (ha : a < l.length) (hs : ¬ (kk = 0 ∨ 4096 ≤ n ∨ 4096 ≤ la)) : rp (out ++ ints n la) (l.drop (d + 1)) = rp [] l := by
  have hne : l.drop a ≠ [] := fun e => by have := congrArg List.length e; rw [List.length_drop] at this; simp at this; omega
  have hst : ¬ Stop (l.drop a) := by unfold Stop; rw [h.n1, h.la1, h.kk1]; exact hs
  rw [← he, rp_step hne hst, h.n1, h.la1, List.drop_drop, h.d1, Nat.add_assoc]

set_option maxRecDepth 100000 in
set_option maxHeartbeats 8000000 in
theorem rparse_any (l : Bs) (w : World) (hl : l.length ≤ 60) :
    Calls Tryd.prog 32 #[.string ⟨l.toArray⟩] w (RPost w l) := by
  go_enter Tryd.func32, Tryd.ntmps32
  go_wp2
  go_loopw [4, 5] (fun v i w' => ∃ (out : List Int) (a : Nat), i = .int .i64 a ∧ a ≤ l.length ∧ OwnI w' w.heap.size v out ∧ rp out (l.drop a) = rp [] l ∧ out.length ≤ 4096 * a ∧ Below w.heap.size w w') (fun _ i _ => 60 - (RowKit.intOf i).toNat)
  case atStart => exact ⟨[], 0, rfl, by omega, OwnI.nil _ _, rfl, by simp, Below.refl _ _⟩
  case round =>
    obtain ⟨out, a, rfl, hal, hown, he, hol, hb⟩ := hrel
    by_cases ha : a < l.length
    · have i0 : decide (a < l.length) = true := decide_eq_true ha
      have hs := tail_mk l a
      have HE := Lib.hid he; clear he
      have HO := Lib.hid hown; clear hown
      have HB := Lib.hid hb; clear hb
      have HOL := Lib.hid hol; clear hol
      have hbd := rnumber_bd (l.drop a)
      have hbl : (l.drop a).length = l.length - a := List.length_drop
      rw [hbl] at hbd
      go_wp2_with fail
      refine (rnumber_any (l.drop a) _ (by omega)).mono ?_
      rintro e _ ⟨rfl, rfl⟩
      clear hs
      have hdk := fun h => dash_k (l := l.drop a) h
      have hde := fun h => dash_end (l := l.drop a) h
      have hda := fun c h0 h hc => dash_at (l := l) (a := a) (c := c) h0 h hc
      have hno := fun h => last_no (l := l.drop a) h
      have hye := fun h => last_yes (l := l.drop a) h
      have hF := fun la kk d h2 h3 h4 => Fin.of (l := l) (a := a) hal (n := (rnumber (l.drop a)).1) (la := la) (kk := kk) (d := d) rfl h2 h3 h4
      rw [List.drop_drop] at hye
      rw [hbl] at hde
      generalize hrn : rnumber (l.drop a) = rn at hbd hdk hde hda hno hye hF ⊢
      obtain ⟨n, k⟩ := rn
      simp only at hbd hdk hde hda hno hye hF ⊢
      obtain ⟨nb, kb, kl⟩ := hbd
      have hab : ∃ b : Nat, b = a + k := ⟨_, rfl⟩
      obtain ⟨b, hab⟩ := hab
      have f0 : (a : Int) + (k : Int) = (b : Int) := by omega
      have bb : b ≤ l.length := by omega
      clear hrn
      have HDK := Lib.hid hdk; clear hdk
      have HDE := Lib.hid hde; clear hde
      have HDA := Lib.hid hda; clear hda
      have HNO := Lib.hid hno; clear hno
      have HYE := Lib.hid hye; clear hye
      have HFF := Lib.hid hF; clear hF
      have HAB := Lib.hid hab; clear hab
      by_cases k0 : 0 < k
      · have j0 : decide ((0 : Int) < (k : Int)) = true := by rw [decide_eq_true_iff]; omega
        by_cases bl : b < l.length
        · have j1 : decide (b < l.length) = true := decide_eq_true bl
          obtain ⟨c, hc⟩ : ∃ c, l[b] = c := ⟨_, rfl⟩
          have j2 : (⟨l.toArray⟩ : ByteArray)[b]'(by simpa [ByteArray.size] using bl) = c := hc
          have hdd : dash (l.drop a) = (c == 45) := HDA.out c k0 (by have := HAB.out; omega) (by simp only [← HAB.out]; exact hc)
          clear hc
          by_cases c45 : c = 45
          · rw [c45] at hdd
            subst c45
            have hdt : dash (l.drop a) = true := by rw [hdd]; rfl
            clear hdd
            have hb1 : ∃ b1 : Nat, b1 = b + 1 := ⟨_, rfl⟩
            obtain ⟨b1, hb1⟩ := hb1
            have f1 : (b : Int) + 1 = (b1 : Int) := by omega
            have bb1 : b1 ≤ l.length := by omega
            have HB1 := Lib.hid hb1; clear hb1
            have hs2 := tail_mk l b1
            obtain ⟨q1, q2⟩ := HYE.out hdt
            clear hdt
            rw [show a + (k + 1) = b1 by rw [HB1.out, HAB.out]; omega] at q1
            have hbd2 := rnumber_bd (l.drop b1)
            rw [List.length_drop] at hbd2
            go_wp2_with fail
            refine (rnumber_any (l.drop b1) _ (by rw [List.length_drop]; omega)).mono ?_
            rintro e _ ⟨rfl, rfl⟩
            clear hs2
            generalize rnumber (l.drop b1) = rn2 at hbd2 q1 ⊢
            obtain ⟨la, kk⟩ := rn2
            simp only at hbd2 ⊢
            rw [q1] at q2
            simp only at q2
            obtain ⟨d1, d2, d3⟩ := hbd2
            obtain ⟨q, hq⟩ : ∃ q : Nat, q = kk + 1 := ⟨_, rfl⟩
            have f2 : (1 : Int) + (kk : Int) = (q : Int) := by omega
            obtain ⟨d, hd⟩ : ∃ d : Nat, d = b + q := ⟨_, rfl⟩
            have f3 : (b : Int) + (q : Int) = (d : Int) := by omega
            have hf := HFF.out la kk d (by rw [q1]) (by rw [q1]) (by rw [q2, hd, hq, HAB.out]; omega)
            have dq : q ≤ 60 := by have := hf.dl; omega
            have dd : d ≤ 60 := by have := hf.dl; omega
            clear q1 q2 hq hd
            have HF := Lib.hid hf; clear hf
            -- the three ways to stop
            by_cases s1 : kk = 0
            · have hnone := HF.out.stop HE.out ha (Or.inl s1)
              have HN := Lib.hid hnone; clear hnone
              have i1 : ((kk : Int) == 0) = true := by rw [beq_iff_eq]; omega
              go_wp2_with fail
              go_ret2
              exact rpost_none HN.out HB.out
            have i1 : ((kk : Int) == 0) = false := by rw [beq_eq_false_iff_ne]; omega
            by_cases s2 : 4096 ≤ n
            · have hnone := HF.out.stop HE.out ha (Or.inr (Or.inl s2))
              have HN := Lib.hid hnone; clear hnone
              have i2 : decide ((4096 : Int) ≤ (n : Int)) = true := by rw [decide_eq_true_iff]; omega
              go_wp2_with fail
              go_ret2
              exact rpost_none HN.out HB.out
            have i2 : decide ((4096 : Int) ≤ (n : Int)) = false := by rw [decide_eq_false_iff_not]; omega
            by_cases s3 : 4096 ≤ la
            · have hnone := HF.out.stop HE.out ha (Or.inr (Or.inr s3))
              have HN := Lib.hid hnone; clear hnone
              have i3 : decide ((4096 : Int) ≤ (la : Int)) = true := by rw [decide_eq_true_iff]; omega
              go_wp2_with fail
              go_ret2
              exact rpost_none HN.out HB.out
            have i3 : decide ((4096 : Int) ≤ (la : Int)) = false := by rw [decide_eq_false_iff_not]; omega
            have hstep := HF.out.step HE.out ha (by omega)
            have hka := HF.out.ka
            have hdl := HF.out.dl
            have HS := Lib.hid hstep; clear hstep
            have hol2 : out.length ≤ 245760 := by have := HOL.out; omega
            go_wp2_with fail
            go_loopw [4, 9] (fun v i w' => ∃ x : Nat, i = .int .i64 x ∧ n ≤ x ∧ (x ≤ la + 1 ∨ x = n) ∧ OwnI w' w.heap.size v (upto out n x) ∧ Below w.heap.size w w') (fun _ i _ => la + 1 - (RowKit.intOf i).toNat)
            case atStart => exact ⟨n, rfl, by omega, by omega, by rw [upto_nil]; exact HO.out, HB.out⟩
            case round =>
              obtain ⟨x, rfl, hx1, hx2, hown, hb⟩ := hrel
              clear HB HO
              have hz := hb.size
              have hul := upto_len out n x
              by_cases hx : x ≤ la
              · have i4 : decide (x ≤ la) = true := decide_eq_true hx
                have hun := upto_next out n x hx1
                generalize upto out n x = ux at hown hul hun
                have HU := Lib.hid hun; clear hun
                go_wp2_with (at_builtin; refine wpList_push _ _ w.heap.size _ _ _ rfl rfl rfl rfl hown (by omega) hz ?_; intro v2 w2 hown2 hb2)
                go_roundw
                case rel => exact ⟨x + 1, by go_num, by omega, by omega, by rw [HU.out]; exact hown2, hb.trans hb2⟩
                case measure => simp [RowKit.intOf]; omega
              · have i4 : decide (x ≤ la) = false := decide_eq_false hx
                have hua := upto_all out n la x hx1 hx2 hx
                rw [hua] at hown hul
                clear hua
                have HUL := Lib.hid hul; clear hul
                have HOW := Lib.hid hown; clear hown
                by_cases hd : d < l.length
                · have i5 : decide (d < l.length) = true := decide_eq_true hd
                  go_wp2_with fail
                  go_roundw
                  case rel => exact ⟨out ++ ints n la, d + 1, by go_num, by omega, HOW.out, HS.out, by rw [HUL.out]; have := HOL.out; omega, hb⟩
                  case measure => simp [RowKit.intOf]; omega
                · have i5 : decide (d < l.length) = false := decide_eq_false hd
                  go_wp2_with fail
                  go_roundw
                  case rel => exact ⟨out ++ ints n la, d, rfl, by omega, HOW.out, by rw [← HS.out, List.drop_eq_nil_of_le (by omega), List.drop_eq_nil_of_le (by omega)], by rw [HUL.out]; have := HOL.out; omega, hb⟩
                  case measure => simp [RowKit.intOf]; omega
          · have hdf : dash (l.drop a) = false := by rw [hdd]; simpa using c45
            clear hdd
            obtain ⟨q1, q2⟩ := HNO.out hdf
            clear hdf
            have hf := HFF.out n k b (by rw [q1]) (by rw [q1]) (by rw [q2, HAB.out])
            clear q1 q2
            have HF := Lib.hid hf; clear hf
            have j3 : ((c.toNat : Int) == 45) = false := by
              rw [beq_eq_false_iff_ne]
              intro h
              exact c45 (UInt8.toNat_inj.1 (show c.toNat = 45 by omega))
            -- the three ways to stop
            by_cases s1 : k = 0
            · exfalso; omega
            have i1 : ((k : Int) == 0) = false := by rw [beq_eq_false_iff_ne]; omega
            by_cases s2 : 4096 ≤ n
            · have hnone := HF.out.stop HE.out ha (Or.inr (Or.inl s2))
              have HN := Lib.hid hnone; clear hnone
              have i2 : decide ((4096 : Int) ≤ (n : Int)) = true := by rw [decide_eq_true_iff]; omega
              go_wp2_with fail
              go_ret2
              exact rpost_none HN.out HB.out
            have i2 : decide ((4096 : Int) ≤ (n : Int)) = false := by rw [decide_eq_false_iff_not]; omega
            by_cases s3 : 4096 ≤ n
            · exfalso; omega
            have i3 : decide ((4096 : Int) ≤ (n : Int)) = false := by rw [decide_eq_false_iff_not]; omega
            have hstep := HF.out.step HE.out ha (by omega)
            have hka := HF.out.ka
            have hdl := HF.out.dl
            have HS := Lib.hid hstep; clear hstep
            have hol2 : out.length ≤ 245760 := by have := HOL.out; omega
            go_wp2_with fail
            go_loopw [4, 9] (fun v i w' => ∃ x : Nat, i = .int .i64 x ∧ n ≤ x ∧ (x ≤ n + 1 ∨ x = n) ∧ OwnI w' w.heap.size v (upto out n x) ∧ Below w.heap.size w w') (fun _ i _ => n + 1 - (RowKit.intOf i).toNat)
            case atStart => exact ⟨n, rfl, by omega, by omega, by rw [upto_nil]; exact HO.out, HB.out⟩
            case round =>
              obtain ⟨x, rfl, hx1, hx2, hown, hb⟩ := hrel
              clear HB HO
              have hz := hb.size
              have hul := upto_len out n x
              by_cases hx : x ≤ n
              · have i4 : decide (x ≤ n) = true := decide_eq_true hx
                have hun := upto_next out n x hx1
                generalize upto out n x = ux at hown hul hun
                have HU := Lib.hid hun; clear hun
                go_wp2_with (at_builtin; refine wpList_push _ _ w.heap.size _ _ _ rfl rfl rfl rfl hown (by omega) hz ?_; intro v2 w2 hown2 hb2)
                go_roundw
                case rel => exact ⟨x + 1, by go_num, by omega, by omega, by rw [HU.out]; exact hown2, hb.trans hb2⟩
                case measure => simp [RowKit.intOf]; omega
              · have i4 : decide (x ≤ n) = false := decide_eq_false hx
                have hua := upto_all out n n x hx1 hx2 hx
                rw [hua] at hown hul
                clear hua
                have HUL := Lib.hid hul; clear hul
                have HOW := Lib.hid hown; clear hown
                by_cases hd : b < l.length
                · have i5 : decide (b < l.length) = true := decide_eq_true hd
                  go_wp2_with fail
                  go_roundw
                  case rel => exact ⟨out ++ ints n n, b + 1, by go_num, by omega, HOW.out, HS.out, by rw [HUL.out]; have := HOL.out; omega, hb⟩
                  case measure => simp [RowKit.intOf]; omega
                · exfalso; omega
        · have j1 : decide (b < l.length) = false := decide_eq_false bl
          have hdf : dash (l.drop a) = false := HDE.out (by have := HAB.out; omega)
          obtain ⟨q1, q2⟩ := HNO.out hdf
          clear hdf
          have hf := HFF.out n k b (by rw [q1]) (by rw [q1]) (by rw [q2, HAB.out])
          clear q1 q2
          have HF := Lib.hid hf; clear hf
          -- the three ways to stop
          by_cases s1 : k = 0
          · exfalso; omega
          have i1 : ((k : Int) == 0) = false := by rw [beq_eq_false_iff_ne]; omega
          by_cases s2 : 4096 ≤ n
          · have hnone := HF.out.stop HE.out ha (Or.inr (Or.inl s2))
            have HN := Lib.hid hnone; clear hnone
            have i2 : decide ((4096 : Int) ≤ (n : Int)) = true := by rw [decide_eq_true_iff]; omega
            go_wp2_with fail
            go_ret2
            exact rpost_none HN.out HB.out
          have i2 : decide ((4096 : Int) ≤ (n : Int)) = false := by rw [decide_eq_false_iff_not]; omega
          by_cases s3 : 4096 ≤ n
          · exfalso; omega
          have i3 : decide ((4096 : Int) ≤ (n : Int)) = false := by rw [decide_eq_false_iff_not]; omega
          have hstep := HF.out.step HE.out ha (by omega)
          have hka := HF.out.ka
          have hdl := HF.out.dl
          have HS := Lib.hid hstep; clear hstep
          have hol2 : out.length ≤ 245760 := by have := HOL.out; omega
          go_wp2_with fail
          go_loopw [4, 9] (fun v i w' => ∃ x : Nat, i = .int .i64 x ∧ n ≤ x ∧ (x ≤ n + 1 ∨ x = n) ∧ OwnI w' w.heap.size v (upto out n x) ∧ Below w.heap.size w w') (fun _ i _ => n + 1 - (RowKit.intOf i).toNat)
          case atStart => exact ⟨n, rfl, by omega, by omega, by rw [upto_nil]; exact HO.out, HB.out⟩
          case round =>
            obtain ⟨x, rfl, hx1, hx2, hown, hb⟩ := hrel
            clear HB HO
            have hz := hb.size
            have hul := upto_len out n x
            by_cases hx : x ≤ n
            · have i4 : decide (x ≤ n) = true := decide_eq_true hx
              have hun := upto_next out n x hx1
              generalize upto out n x = ux at hown hul hun
              have HU := Lib.hid hun; clear hun
              go_wp2_with (at_builtin; refine wpList_push _ _ w.heap.size _ _ _ rfl rfl rfl rfl hown (by omega) hz ?_; intro v2 w2 hown2 hb2)
              go_roundw
              case rel => exact ⟨x + 1, by go_num, by omega, by omega, by rw [HU.out]; exact hown2, hb.trans hb2⟩
              case measure => simp [RowKit.intOf]; omega
            · have i4 : decide (x ≤ n) = false := decide_eq_false hx
              have hua := upto_all out n n x hx1 hx2 hx
              rw [hua] at hown hul
              clear hua
              have HUL := Lib.hid hul; clear hul
              have HOW := Lib.hid hown; clear hown
              by_cases hd : b < l.length
              · exfalso; omega
              · have i5 : decide (b < l.length) = false := decide_eq_false hd
                go_wp2_with fail
                go_roundw
                case rel => exact ⟨out ++ ints n n, b, rfl, by omega, HOW.out, by rw [← HS.out, List.drop_eq_nil_of_le (by omega), List.drop_eq_nil_of_le (by omega)], by rw [HUL.out]; have := HOL.out; omega, hb⟩
                case measure => simp [RowKit.intOf]; omega
      · have j0 : decide ((0 : Int) < (k : Int)) = false := by rw [decide_eq_false_iff_not]; omega
        have hdf : dash (l.drop a) = false := HDK.out (by omega)
        obtain ⟨q1, q2⟩ := HNO.out hdf
        clear hdf
        have hf := HFF.out n k b (by rw [q1]) (by rw [q1]) (by rw [q2, HAB.out])
        clear q1 q2
        have HF := Lib.hid hf; clear hf
        -- the three ways to stop
        by_cases s1 : k = 0
        · have hnone := HF.out.stop HE.out ha (Or.inl s1)
          have HN := Lib.hid hnone; clear hnone
          have i1 : ((k : Int) == 0) = true := by rw [beq_iff_eq]; omega
          go_wp2_with fail
          go_ret2
          exact rpost_none HN.out HB.out
        exfalso; omega
    · have i0 : decide (a < l.length) = false := decide_eq_false ha
      rw [List.drop_eq_nil_of_le (by omega), rp_nil] at he
      have HE := Lib.hid he.symm; clear he
      obtain ⟨A, c, rfl⟩ := hown.slice
      have hr := hown.rd
      have hz := hb.size
      go_wp2_with fail
      refine (rof_any A c out.length out _ hr (by omega)).mono ?_
      rintro e w2 ⟨A2, c2, rfl, hr2, b2⟩
      have B2 := hb.trans (b2.mono hz)
      have hto := rtext_p A2 c2 (ei (ofP out)).length (ofP out) w2 hr2
      generalize hT : txt (ofP out) = T at hto
      have HTT := Lib.hid hT; clear hT
      go_wp2_with fail
      refine hto.mono ?_
      rintro e w3 ⟨rfl, b3⟩
      go_wp2_with fail
      go_ret2
      have hfin := rpost_some (c := c2) HE.out (B2.trans (b3.mono B2.size)) (hr2.below b3)
      rw [HTT.out] at hfin
      exact hfin

end Go.Proofs.YtggalncjookkiaaDoor
