/- The law HeapStringKeys. -/
import Derived.Test.YtkdabnhhjjmibaaV3
import Derived.Test.YtkdabnhhjjmibaaVR
import Derived.Test.YtkdabnhhjjmibaaHS8
namespace Go.Proofs.Ytkdabnhhjjmibaa
open Go.RowKit Go.Lib Hp

theorem apart_linesS {w : World} {hb : Nat} {v : Value} {m : Option Nat} {x : List (Int × KS)} {n : Nat} {vx : Value} {l : List (Int × KI)} (H : RepS w hb v m x n) (hL : Lines w vx l) : ∀ g, vx.ownBlock = some g → ¬ foot hb v m g := by
  rintro g hg (h | h | h)
  · obtain ⟨s, H, _⟩ := H
    obtain ⟨cur, h1⟩ := hL.obj hg
    have h2 := H.hd
    rw [← h] at h2
    exact absurd (cells_type h1 h2) (by decide)
  · obtain ⟨s, H, _⟩ := H
    obtain ⟨cur, h1⟩ := hL.obj hg
    obtain ⟨cur2, h2⟩ := H.row.obj h
    exact absurd (cells_type h1 h2) (by decide)
  · obtain ⟨s, H, _⟩ := H
    obtain ⟨cur, h1⟩ := hL.obj hg
    obtain ⟨es, c, h2⟩ := H.map.lt g h
    have := h1.symm.trans h2
    injection this with this
    cases this


/-! ### Ranks -/

/-- How many of l come before s. -/
def rank (l : List KS) (s : KS) : Nat := (l.filter fun o => ltS o s).length
theorem rank_lt {l : List KS} {s t : KS} (hs : s ∈ l) (h : ltS s t = true) : rank l s < rank l t := by
  have mono : ∀ m : List KS, rank m s ≤ rank m t := by
    intro m
    induction m with
    | nil => exact Nat.le_refl _
    | cons a m ih =>
      unfold rank at *
      rw [List.filter_cons, List.filter_cons]
      by_cases ha : ltS a s = true
      · rw [if_pos ha, if_pos (less_tr a s t ha h)]; simp; exact ih
      · rw [if_neg ha]; split
        · simp; omega
        · exact ih
  induction l with
  | nil => cases hs
  | cons a m ih =>
    have hm := mono m
    rcases List.mem_cons.1 hs with rfl | hs'
    · unfold rank at *
      rw [List.filter_cons, List.filter_cons, if_neg (by show ¬ Op.bytesLess s s = true; rw [less_irr]; simp), if_pos h]
      simp; omega
    · have h2 := ih hs'
      unfold rank at *
      rw [List.filter_cons, List.filter_cons]
      by_cases ha : ltS a s = true
      · rw [if_pos ha, if_pos (less_tr a s t ha h)]; simp; exact h2
      · rw [if_neg ha]; split
        · simp; omega
        · exact h2
theorem rank_prec {l : List KS} {a b : Int × KS} (ha : a.2 ∈ l) (hb : b.2 ∈ l) : prec ltI (a.1, (rank l a.2 : Int)) (b.1, (rank l b.2 : Int)) = prec ltS a b := by
  unfold prec ltI ilt
  by_cases e : a.2 = b.2
  · rw [if_pos e, if_pos (by rw [e])]
  · rw [if_neg e]
    by_cases h : ltS a.2 b.2 = true
    · have := rank_lt ha h
      have hne : ¬ (((rank l a.2 : Nat) : Int) = ((rank l b.2 : Nat) : Int)) := by omega
      rw [if_neg hne, h, decide_eq_true_iff]; simp only; omega
    · have h' : ltS a.2 b.2 = false := by simpa using h
      have := rank_lt hb (less_tri _ _ e h')
      have hne : ¬ (((rank l a.2 : Nat) : Int) = ((rank l b.2 : Nat) : Int)) := by omega
      rw [if_neg hne, h', decide_eq_false_iff_not]; simp only; omega

def ranked (l : List KS) (x : List (Int × KS)) : List (Int × KI) := x.map fun e => (e.1, (rank l e.2 : Int))
theorem ranked_rput (l : List KS) (x : List (Int × KS)) (y : Int) (s : KS) : rput (ranked l x) y (rank l s : Int) = ranked l (rput x y s) := by
  unfold ranked
  induction x with
  | nil => rfl
  | cons a t ih =>
    rw [List.map_cons]
    unfold rput
    by_cases e : a.1 = y
    · rw [if_pos e, if_pos e]; rfl
    · rw [if_neg e, if_neg e, ih]; rfl
theorem ranked_rdrop (l : List KS) (x : List (Int × KS)) (y : Int) : rdrop (ranked l x) y = ranked l (rdrop x y) := by
  unfold ranked
  induction x with
  | nil => rfl
  | cons a t ih =>
    rw [List.map_cons]
    unfold rdrop
    by_cases e : a.1 = y
    · rw [if_pos e, if_pos e]
    · rw [if_neg e, if_neg e, ih]; rfl
theorem ranked_top {l : List KS} {x : List (Int × KS)} {e : Int × KS} (hx : ∀ a ∈ x, a.2 ∈ l) (h : IsTop ltS x e) : IsTop ltI (ranked l x) (e.1, (rank l e.2 : Int)) := by
  refine ⟨List.mem_map.2 ⟨e, h.1, rfl⟩, fun b hb => ?_⟩
  obtain ⟨a, ha, rfl⟩ := List.mem_map.1 hb
  rw [rank_prec (hx a ha) (hx e h.1)]
  exact h.2 a ha

/-- The names of x are those of l at their IDs. -/
def Names (l : List KS) (x : List (Int × KS)) : Prop := ∀ e ∈ x, ∃ i : Nat, e.1 = (i : Int) ∧ l[i]? = some e.2
theorem Names.mem {l : List KS} {x : List (Int × KS)} (h : Names l x) : ∀ a ∈ x, a.2 ∈ l := fun a ha => by
  obtain ⟨i, _, hi⟩ := h a ha
  exact List.mem_of_getElem? hi
theorem Names.put {l : List KS} {x : List (Int × KS)} (h : Names l x) (nd : ND x) {k : Nat} {s : KS} (hs : l[k]? = some s) : Names l (rput x k s) := fun e he => by
  rcases (mem_rput nd e).1 he with rfl | ⟨h1, _⟩
  · exact ⟨k, rfl, hs⟩
  · exact h e h1
theorem Names.drop {l : List KS} {x : List (Int × KS)} (h : Names l x) (nd : ND x) (y : Int) : Names l (rdrop x y) := fun e he => h e ((mem_rdrop nd e).1 he).1

theorem rank_take {l : List KS} {s : KS} {j : Nat} {o : KS} (ho : l[j]? = some o) : rank (l.take (j + 1)) s = rank (l.take j) s + if ltS o s then 1 else 0 := by
  unfold rank
  rw [List.take_add_one, ho, List.filter_append, List.length_append]
  congr 1
  simp only [Option.toList, List.filter_cons, List.filter_nil]
  split <;> rfl
theorem rank_le (l : List KS) (s : KS) : rank l s ≤ l.length := List.length_filter_le _ _

set_option maxRecDepth 100000 in
theorem lawString (A : Option Addr) (c : Nat) (l : List KS) (W : World) (hr : RdT W A l) (hl : l.length ≤ 9223372036854775807) :
    Calls Try.prog 8 #[.slice A l.length c] W fun r w' => r = .returned (.bool true) ∧ Below W.heap.size W w' := by
  by_cases hbig : 40 < l.length
  · have hb1 : (40 : Int) < (l.length : Int) := by omega
    go_enter Try.func8, Try.ntmps8
    go_wp2_with (go_at_call 9; refine (wakes_any _).mono ?_; rintro r w1 ⟨rfl, b1⟩)
    go_ret
    exact ⟨rfl, b1⟩
  · have hb1 : (l.length : Int) ≤ 40 := by omega
    have hr' := Lib.hid hr
    clear hr
    go_enter Try.func8, Try.ntmps8
    go_wp2_with fail
    refine (wakes_any _).mono ?_
    rintro r w1 ⟨rfl, b1⟩
    go_wp2_with fail
    refine (new_anyS w1).mono ?_
    rintro r w2 ⟨rfl, H2, b2⟩
    have K2 := Keep.new b1 b2
    generalize w1.heap.size = hb at H2 K2 b2 ⊢
    have H2 := Lib.hid H2
    clear b1 b2
    go_wp2_with fail
    go_loopw [23, 4] (fun i vx w' => ∃ (k : Nat) (v : Value) (m : Option Nat) (x : List (Int × KS)), i = .int .i64 k ∧ k ≤ l.length ∧ x.length = k ∧ (∀ e ∈ x, e.1 < (k : Int)) ∧ RepS w' hb v m x (300 * k) ∧ Names l x ∧ Lines w' vx (ranked l x) ∧ Keep W w' hb v m) (fun i _ _ => l.length - (intOf i).toNat)
    case atStart => exact ⟨0, _, _, [], rfl, by omega, rfl, by simp, H2.out, (fun _ h => by cases h), World.ownsRow_nil _ _ _ _, K2⟩
    case round =>
      obtain ⟨k, v, m, x, rfl, hk, hxk, hids, H3, N3, L3, K3⟩ := hrel
      by_cases hlt : k < l.length
      · obtain ⟨s, hs⟩ : ∃ s, l[k]? = some s := ⟨_, List.getElem?_eq_getElem hlt⟩
        have hrr := hr'.out.below K3.bel
        obtain ⟨ad, rfl, _, hc⟩ := hrr.1 (by omega)
        have c0 := hc k s hs
        have hsl := hrr.2 s (List.mem_of_getElem? hs)
        have e1 : (k : Int) < (l.length : Int) := by omega
        have e2 : (0 : Int) ≤ (k : Int) := by omega
        have nd := H3.nd
        have H3 := Lib.hid H3
        have L3 := Lib.hid L3
        have N3 := Lib.hid N3
        have hids := Lib.hid hids
        clear H2 K2 hc hrr
        by_cases hs100 : 100 < s.length
        · have q1 : (100 : Int) < (s.length : Int) := by omega
          go_wp2
          go_ret
          exact ⟨rfl, K3.bel⟩
        · have q1 : (s.length : Int) ≤ 100 := by omega
          go_wp2_with fail
          refine (put_anyS hb v m x (300 * k) k s wr H3.out (WalkArith.wf_i64 (by omega)) (by omega) (by omega)).mono ?_
          rintro r w5 ⟨⟨u5, rfl⟩, v5, m5, H5, M5⟩
          have L5 := Lib.hid (L3.out.moved (apart_linesS H3.out L3.out) M5)
          have K5 := K3.moved M5
          have hrd5 := (hr'.out.below K5.bel).1 (by omega)
          obtain ⟨ad', e', _, hc5⟩ := hrd5
          obtain rfl : ad = ad' := by injection e'
          have hc5' := Lib.hid hc5
          clear hc5
          have N5 := Lib.hid (N3.out.put nd hs)
          have H5 := Lib.hid (H5.mono (n' := 300 * (k + 1)) (by omega))
          have hle5 := rank_le l s
          clear M5 H3 L3 N3 K3 c0
          go_wp2_with fail
          go_loop [7, 37] (fun at_ j => ∃ i : Nat, j = .int .i64 i ∧ i ≤ l.length ∧ at_ = .int .i64 (rank (l.take i) s : Nat)) (fun _ j => l.length - (intOf j).toNat)
          case atStart => exact ⟨0, rfl, by omega, rfl⟩
          case round =>
            obtain ⟨i, rfl, hi, rfl⟩ := hrel
            obtain ⟨q, hq⟩ : ∃ q, rank (l.take i) s = q := ⟨_, rfl⟩
            have hql : q ≤ 40 := by rw [← hq]; have := rank_le (l.take i) s; rw [List.length_take] at this; omega
            by_cases hil : i < l.length
            · obtain ⟨o, ho⟩ : ∃ o, l[i]? = some o := ⟨_, List.getElem?_eq_getElem hil⟩
              have d0 := hc5'.out i o ho
              have hst := Lib.hid (rank_take (s := s) ho)
              clear ho
              have f1 : (i : Int) < (l.length : Int) := by omega
              have f2 : (0 : Int) ≤ (i : Int) := by omega
              have f3 : IntKind.i64.wrap ((q : Int) + 1) = ((q + 1 : Nat) : Int) := by rw [IntKind.wrap_i64]; omega
              rw [hq]
              have hq := Lib.hid hq
              cases hlo : Op.bytesLess o s
              · go_wp2
                go_round
                case rel =>
                  refine ⟨i + 1, by go_num, by omega, ?_⟩
                  rw [hst.out, hq.out, show ltS o s = false from hlo]; rfl
                case measure => simp [intOf]; omega
              · go_wp2
                go_round
                case rel =>
                  refine ⟨i + 1, by go_num, by omega, ?_⟩
                  rw [hst.out, hq.out, show ltS o s = true from hlo]; rfl
                case measure => simp [intOf]; omega
            · obtain rfl : i = l.length := by omega
              rw [List.take_length] at hq
              rw [List.take_length, hq]
              have hq := Lib.hid hq
              go_wp2_with fail
              refine (rput_any _ (ranked l x) k q w5 L5.out (by unfold ranked; rw [List.length_map]; omega)).mono ?_
              rintro r w6 ⟨vx6, rfl, L6, b6⟩
              have hrk : rput (ranked l x) k q = ranked l (rput x k s) := by rw [← hq.out]; exact ranked_rput l x k s
              rw [hrk] at L6
              have L6 := Lib.hid L6.1
              have H6 := Lib.hid (H5.out.below b6)
              have K6 := K5.below b6
              have hno : rhas x (k : Int) = false := rhas_false.2 fun a ha e => by have := hids.out a ha; omega
              have hlen6 : (rput x (k : Int) s).length = k + 1 := by rw [length_rput, hno]; simp; exact hxk
              have hid6 : ∀ e ∈ rput x (k : Int) s, e.1 < ((k + 1 : Nat) : Int) := fun e he => by
                rcases (mem_rput nd e).1 he with rfl | ⟨h1, _⟩
                · show (k : Int) < _; omega
                · have := hids.out e h1; omega
              have hno := 0
              have hid6 := Lib.hid hid6
              have hlen6' := Lib.hid hlen6
              clear hlen6 H5 L5 K5 hrk hc5' b6
              go_wp2
              go_roundw
              case rel => exact ⟨k + 1, v5, m5, rput x k s, by go_num, by omega, hlen6'.out, hid6.out, H6.out, N5.out, L6.out, K6⟩
              case measure => simp [intOf]; omega
      · obtain rfl : k = l.length := by omega
        have H3 := Lib.hid H3
        have L3 := Lib.hid L3
        have N3 := Lib.hid N3
        clear H2 K2 hids
        go_wp2_with fail
        go_loopw [54, 4] (fun i vx w' => ∃ (k : Nat) (v : Value) (m : Option Nat) (x : List (Int × KS)), i = .int .i64 k ∧ x.length + k = l.length ∧ RepS w' hb v m x (30000 + 300 * k) ∧ Names l x ∧ Lines w' vx (ranked l x) ∧ Keep W w' hb v m) (fun i _ _ => l.length - (intOf i).toNat)
        case atStart => exact ⟨0, v, m, x, rfl, by omega, H3.out.mono (by omega), N3.out, L3.out, K3⟩
        case round =>
          clear H3 L3 N3 K3 hxk
          obtain ⟨k, v, m, x, rfl, hk, H3, N3, L3, K3⟩ := hrel
          by_cases hlt : k < l.length
          · have nd := H3.nd
            have H3 := Lib.hid H3
            have L3 := Lib.hid L3
            have e1 : (k : Int) < (l.length : Int) := by omega
            have e2 : (0 : Int) ≤ (k : Int) := by omega
            have hrl : (ranked l x).length = x.length := by unfold ranked; rw [List.length_map]
            have hrl' := Lib.hid hrl
            have N3 := Lib.hid N3
            clear hrl
            go_wp2_with fail
            refine (rtop_some _ (ranked l x) wr L3.out (by rw [hrl'.out]; omega) (by rw [hrl'.out]; omega)).mono ?_
            rintro r w5 ⟨y, hy, rfl, b5⟩
            have b5' : Below wr.heap.size wr (w5.alloc (.cells #[.int .i64 y.1, .int .i64 y.2] 34)) := b5.alloc b5.size _
            have hy5 : (w5.alloc (.cells #[.int .i64 y.1, .int .i64 y.2] 34)).heap[w5.heap.size]? = some (lineObj y) := heap_alloc_new w5 _
            have H5 := Lib.hid (H3.out.below b5')
            have L5 := Lib.hid (L3.out.below b5')
            have K5 := K3.below b5'
            have hy := Lib.hid hy
            have hnf : ¬ foot hb v m w5.heap.size := fun h => by have := H3.out.lt _ h; have := b5.size; omega
            clear H3 L3 K3 b5 b5'
            go_wp2_with fail
            refine (pop_someS hb v m x _ _ H5.out (by omega) (by omega) (by omega)).mono ?_
            rintro r w6 ⟨e, he, rfl, v6, m6, H6, M6⟩
            have hey : y = (e.1, (rank l e.2 : Int)) := top_is hy.out (ranked_top N3.out.mem he)
            have L6 := Lib.hid (L5.out.moved (apart_linesS H5.out L5.out) M6)
            have K6 := K5.moved M6
            have hy6 := M6.chg.at hy5 hnf
            obtain ⟨y0, y1⟩ := line_cells hy6
            have hy1 : y.1 = e.1 := by rw [hey]
            rw [hy1] at y0
            obtain ⟨j, hj1, hj2⟩ := N3.out e he.1
            have hjl := (List.getElem?_eq_some_iff.1 hj2).1
            obtain ⟨ad, rfl, _, hc⟩ := (hr'.out.below K6.bel).1 (by omega)
            have d0 := hc j e.2 hj2
            rw [hj1] at y0
            have hdl : (rdrop x e.1).length + 1 = x.length := by
              rw [length_rdrop, rhas_iff.2 ⟨e, he.1, rfl⟩]
              have := List.length_pos_of_mem he.1
              simp; omega
            have f1 : (j : Int) < (l.length : Int) := by omega
            have f2 : (0 : Int) ≤ (j : Int) := by omega
            have H6 := Lib.hid (H6.mono (n' := 30000 + 300 * (k + 1)) (by omega))
            have N6 := Lib.hid (N3.out.drop nd e.1)
            have hj1' := Lib.hid hj1
            rw [hj1]
            clear H5 L5 K5 M6 hy5 hnf hy he hey hy1 hc hj2 hj1 N3 hy6 y1
            go_wp2_with fail
            refine (rdrop_any _ (ranked l x) j w6 L6.out (by rw [hrl'.out]; omega)).mono ?_
            rintro r w7 ⟨vx7, rfl, L7, _, b7⟩
            have hrd : rdrop (ranked l x) j = ranked l (rdrop x e.1) := by rw [← hj1'.out]; exact ranked_rdrop l x e.1
            rw [hrd] at L7
            have L7 := Lib.hid L7
            have H7 := Lib.hid (H6.out.below b7)
            have K7 := K6.below b7
            clear H6 L6 K6 hrd y0 d0 b7
            go_wp2
            go_roundw
            case rel => exact ⟨k + 1, v6, m6, rdrop x e.1, by go_num, by omega, H7.out, N6.out, L7.out, K7⟩
            case measure => simp [intOf]; omega
          · obtain rfl : k = l.length := by omega
            have hx0 : x = [] := List.eq_nil_of_length_eq_zero (by omega)
            subst hx0
            go_wp2_with fail
            refine (len_anyS hb v m [] _ wr H3).mono ?_
            rintro r w5 ⟨rfl, rfl⟩
            go_wp2
            go_ret
            exact ⟨rfl, K3.bel⟩
end Go.Proofs.Ytkdabnhhjjmibaa
