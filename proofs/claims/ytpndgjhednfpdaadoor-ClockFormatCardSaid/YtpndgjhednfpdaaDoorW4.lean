/- The clock's durations: FormatDuration. -/
import Derived.Test.YtpndgjhednfpdaaDoorW3
import Derived.Deep.AppendLies
import Derived.LoopTactic
namespace Go.Proofs.YtpndgjhednfpdaaDoor
open Go.RowKit Go.Lib Go.Sort Clk

def unitC : Nat → UInt8 | 0 => 104 | 1 => 109 | _ => 115
def unitU : Nat → Int | 0 => 3600 | 1 => 60 | _ => 1
def dAt (n : Int) : Nat → Int | 0 => n | k + 1 => dAt n k % unitU k
def partsTo (n : Int) : Nat → List Bs | 0 => [] | k + 1 => partsTo n k ++ (if 0 < dAt n k / unitU k then [decDigits (dAt n k / unitU k).toNat ++ [unitC k]] else [])

theorem unitU_bd (k : Nat) : 1 ≤ unitU k ∧ unitU k ≤ 3600 := by
  match k with
  | 0 => decide
  | 1 => decide
  | k + 2 => show 1 ≤ (1 : Int) ∧ (1 : Int) ≤ 3600; omega

theorem dAt_bd (n : Int) (h0 : 0 ≤ n) (h1 : n ≤ 4611686018427387904) : ∀ k, 0 ≤ dAt n k ∧ dAt n k ≤ 4611686018427387904
  | 0 => ⟨h0, h1⟩
  | k + 1 => by
    have := unitU_bd k
    unfold dAt
    exact ⟨Int.emod_nonneg _ (by omega), by have := Int.emod_lt_of_pos (dAt n k) (b := unitU k) (by omega); omega⟩

theorem partsTo_len (n : Int) : ∀ k, (partsTo n k).length ≤ k
  | 0 => Nat.le_refl _
  | k + 1 => by
    have := partsTo_len n k
    unfold partsTo
    split <;> simp <;> omega

theorem partsTo_parts (n : Int) (h : 0 ≤ n) : partsTo n 3 = parts n.toNat := by
  obtain ⟨m, rfl⟩ := Int.eq_ofNat_of_zero_le h
  simp only [partsTo, dAt, unitU, unitC, List.nil_append, parts, Int.toNat_natCast, List.append_assoc]
  have e1 : ((m : Int) / 3600).toNat = m / 3600 := by omega
  have e2 : ((m : Int) % 3600 / 60).toNat = m % 3600 / 60 := by omega
  have e3 : ((m : Int) % 3600 % 60 / 1).toNat = m % 60 := by omega
  rw [e1, e2, e3]
  have c1 : (0 < (m : Int) / 3600) = (0 < m / 3600) := by rw [eq_iff_iff]; omega
  have c2 : (0 < (m : Int) % 3600 / 60) = (0 < m % 3600 / 60) := by rw [eq_iff_iff]; omega
  have c3 : (0 < (m : Int) % 3600 % 60 / 1) = (0 < m % 60) := by rw [eq_iff_iff]; omega
  simp only [c1, c2, c3]

theorem parts_ne (n : Nat) (h : n ≠ 0) : parts n ≠ [] := by
  unfold parts
  by_cases a : 0 < n / 3600 <;> by_cases b : 0 < n % 3600 / 60 <;> by_cases c : 0 < n % 60
  all_goals first | omega | simp [a, b, c]

theorem span_len (n : Nat) (h : n ≤ 4611686018427387904) : (span n).length ≤ 62 := by
  unfold span
  split
  · decide
  · split
    · decide
    · have l1 := len_dd (n / 3600) (by omega)
      have l2 := len_dd (n % 3600 / 60) (by omega)
      have l3 := len_dd (n % 60) (by omega)
      have jc : ∀ (x y : Bs) (r : List Bs), join (x :: y :: r) [32] = x ++ ([32] ++ join (y :: r) [32]) := by
        intro x y r; rw [join_cons, join_cons]; simp [joinTail]
      have j1 : ∀ x : Bs, join [x] [32] = x := fun x => join_one x [32]
      have j0 : join [] [32] = [] := join_nil _
      unfold parts
      by_cases a : 0 < n / 3600 <;> by_cases b : 0 < n % 3600 / 60 <;> by_cases c : 0 < n % 60
      all_goals simp only [a, b, c, if_true, if_false, List.nil_append, List.append_nil, List.cons_append, jc, j1, j0, List.length_append, List.length_cons, List.length_nil]
      all_goals omega

theorem unit_at (k : Nat) (hk : k < 3) (w : World) : (Instr.index 39 (.agg #[.string ⟨#[104]⟩, .int .i64 3600, .string ⟨#[109]⟩, .int .i64 60, .string ⟨#[115]⟩, .int .i64 1]) (.int .i64 (k : Int))).run Tryd.prog w = .ok (.agg #[.string ⟨#[unitC k]⟩, .int .i64 (unitU k)]) w := by
  match k, hk with
  | 0, _ => exact unit0 w
  | 1, _ => exact unit1 w
  | 2, _ => exact unit2 w

theorem own_below {w w' : World} {base : Nat} {e : TypeId} {size : Nat} {v : Value} {n : Nat} {xs : List Value} (h : w.ownsRow base e size v n xs) (k : Below w.heap.size w w') : w'.ownsRow base e size v n xs := by
  obtain ⟨h1, h2⟩ := h
  refine ⟨h1, ?_⟩
  rcases h2 with h2 | ⟨g, cap, cur, hv, hg, hh, r⟩
  · exact Or.inl h2
  · have hlt : g < w.heap.size := by
      rcases Nat.lt_or_ge g w.heap.size with hlt | hge
      · exact hlt
      · rw [Array.getElem?_eq_none hge] at hh; cases hh
    exact Or.inr ⟨g, cap, cur, hv, hg, by rw [k.block g hlt]; exact hh, r⟩

def sv (l : Bs) : Value := .string ⟨l.toArray⟩

theorem info_str : (Tryd.prog.info? 9).map (fun i => (i.zero, i.size, i.bytes)) = some (some (.string ⟨#[]⟩), 1, 16) := by kernel_rfl

theorem join_any (L : List Bs) (g cap base : Nat) (w : World) (hown : w.ownsRow base 9 1 (.slice (some ⟨g, 0, none⟩) L.length cap) L.length (L.map sv)) (hg : g < w.heap.size) (hl : L.length ≤ 1000) (hj : (join L [32]).length ≤ 1000) :
    Calls Tryd.prog 32 #[.slice (some ⟨g, 0, none⟩) L.length cap, .string ⟨#[32]⟩] w fun e w' => e = .returned (.string ⟨(join L [32]).toArray⟩) ∧ Below w.heap.size w w' := by
  have hcap : L.length ≤ cap := by
    rcases hown.2 with ⟨h, _⟩ | ⟨g', cap', cur, h, _, _, h', _⟩
    · cases h
    · injection h with _ _ h3; omega
  have key := Tryd.strings_Join g 0 cap (L.map (fun l => (⟨l.toArray⟩ : ByteArray))) ⟨#[32]⟩ w (fun j x hx => by
    rw [List.getElem?_map] at hx
    obtain ⟨y, hy, rfl⟩ := Option.map_eq_some_iff.1 hx
    have hlt : j < L.length := (List.getElem?_eq_some_iff.1 hy).1
    rw [Nat.zero_add, hown.cellAt j (by omega), List.getElem?_map, hy]; rfl) hg (by simp; omega) (by simpa using hcap)
  have e1 : (L.map (fun l => (⟨l.toArray⟩ : ByteArray))).map (·.data.toList) = L := by
    rw [List.map_map]; exact List.map_id'' (fun _ => rfl) L
  rw [e1, List.length_map] at key
  exact key (Nat.le_trans hj (by decide))

/-- The box of a unit. -/
def Boxed (W : World) (q : Nat) (a b : Value) : Prop := W.cell? ⟨q, 0, none⟩ = some a ∧ W.cell? ⟨q, 1, none⟩ = some b
theorem Boxed.lt {W : World} {q : Nat} {a b : Value} (h : Boxed W q a b) : q < W.heap.size := World.block_lt_of_cell? W _ h.1
theorem Boxed.below {W W' : World} {q : Nat} {a b : Value} (h : Boxed W q a b) (k : Below W.heap.size W W') : Boxed W' q a b :=
  ⟨(k.cell (p := ⟨q, 0, none⟩) h.lt).trans h.1, (k.cell (p := ⟨q, 1, none⟩) h.lt).trans h.2⟩
theorem Boxed.alloc {W : World} {q : Nat} {a b : Value} (h : Boxed W q a b) (o : Obj) : Boxed (W.alloc o) q a b := h.below ((Below.refl _ _).alloc (Nat.le_refl _) o)
theorem Boxed.grown {W W' : World} {q : Nat} {a b : Value} {row : Option Nat} (h : Boxed W q a b) (hg : W.grownBy W' row) (hne : some q ≠ row) : Boxed W' q a b :=
  ⟨(hg.cell_far ⟨q, 0, none⟩ h.lt hne).trans h.1, (hg.cell_far ⟨q, 1, none⟩ h.lt hne).trans h.2⟩

set_option maxRecDepth 100000 in
set_option maxHeartbeats 1000000 in
theorem fmtD_any (t : Int) (w : World) (hE : Env w) (h1 : hold t ≠ 4611686018427387904) (h2 : hold t ≠ 0) :
    Calls Tryd.prog 20 #[.int .i64 t] w fun e w' => e = .returned (.string ⟨(span (hold t).toNat).toArray⟩) ∧ Below w.heap.size w w' := by
  have hb := hold_bd t
  have hq1 : (hold t == 4611686018427387904) = false := by simpa using h1
  have hq2 : (hold t == 0) = false := by simpa using h2
  have H2 := Lib.hid h2
  clear h1 h2
  have g0 := hE.u0
  have g1 := hE.u1
  have g2 := hE.u2
  have g3 := hE.u3
  have g4 := hE.u4
  have g5 := hE.u5
  go_enter Tryd.func20, Tryd.ntmps20
  go_wp2_with (go_at_call 24; refine (clamp_any _ _).mono ?_; rintro e w' ⟨rfl, rfl⟩)
  go_loopw [0, 3, 14] (fun d p i w' => ∃ k : Nat, i = .int .i64 k ∧ k ≤ 3 ∧ d = .int .i64 (dAt (hold t) k) ∧ w'.ownsRow w.heap.size 9 1 p (partsTo (hold t) k).length ((partsTo (hold t) k).map sv) ∧ Below w.heap.size w w') (fun _ _ i _ => 3 - (RowKit.intOf i).toNat)
  case atStart => exact ⟨0, rfl, by omega, rfl, World.ownsRow_nil _ _ _ _, Below.refl _ _⟩
  case round =>
    obtain ⟨k, rfl, hk, rfl, hown, hB⟩ := hrel
    have hd := dAt_bd (hold t) hb.1 hb.2 k
    clear hb
    by_cases hk3 : k < 3
    · have hu := unitU_bd k
      have hidx := unit_at k hk3
      have hq : dAt (hold t) k / unitU k ≤ 4611686018427387904 := Int.le_trans (Int.ediv_le_self _ hd.1) hd.2
      by_cases hp : 0 < dAt (hold t) k / unitU k
      · have hL := partsTo_len (hold t) k
        obtain ⟨i0, hi, hz0, hz1, hz2⟩ := info_parts info_str
        have hB0 : Below w.heap.size w (wr.alloc (Obj.cells #[Value.string ⟨#[unitC k]⟩, Value.int IntKind.i64 (unitU k)] 38)).drew := (hB.alloc hB.size _).drew
        have hE0 := hE.of hB0
        have hown0 : (wr.alloc (Obj.cells #[Value.string ⟨#[unitC k]⟩, Value.int IntKind.i64 (unitU k)] 38)).drew.ownsRow w.heap.size 9 1 u3 (partsTo (hold t) k).length ((partsTo (hold t) k).map sv) := (hown.alloc _).drew
        have hS0 : Boxed (wr.alloc (Obj.cells #[Value.string ⟨#[unitC k]⟩, Value.int IntKind.i64 (unitU k)] 38)).drew wr.heap.size (.string ⟨#[unitC k]⟩) (.int .i64 (unitU k)) := ⟨cell_two_new wr _ _ _ 0 _ rfl, cell_two_new wr _ _ _ 1 _ rfl⟩
        have hne : some wr.heap.size ≠ u3.ownBlock := fun e => by have := (hown.lt _ e.symm).2; omega
        have hdl := len_dd (dAt (hold t) k / unitU k).toNat (by omega)
        have hcat : ¬ 9223372036854775807 < (decDigits (dAt (hold t) k / unitU k).toNat).length + 1 := by omega
        go_wp2_with fail
        go_region_held3 (fun w' => w'.cell? ⟨wr.heap.size, 0, none⟩ = some (.string ⟨#[unitC k]⟩) ∧ w'.cell? ⟨wr.heap.size, 1, none⟩ = some (.int .i64 (unitU k)))
          (first | exact hS0 | exact hS0.below b2 | exact (hS0.below b2).alloc _ | exact ((hS0.below b2).alloc _).grown hgrow hne)
          (first | (go_at_call 26; refine (fmt_any _ _ hE0 (by omega) (by omega)).mono ?_; rintro e w2 ⟨rfl, b2⟩) | (refine step_append_lies _ (by rfl) _ _ _ (by rfl) w.heap.size 9 i0 _ 1 16 Tryd.underlying36 hi hz0 hz1 hz2 rfl (by decide) u3 _ _ (by rfl) (World.ownsRow.alloc (own_below hown0 b2) _) ⟨w2.heap.size, 0, none⟩ 1 1 [.string ((⟨(decDigits (dAt (hold t) k / unitU k).toNat).toArray⟩ : ByteArray) ++ ⟨#[unitC k]⟩)] (by rfl) (by rfl) (World.news_of_block (cs := #[.string ((⟨(decDigits (dAt (hold t) k / unitU k).toNat).toArray⟩ : ByteArray) ++ ⟨#[unitC k]⟩)]) (t := 9) (fr := (0, 0)) (heap_alloc_new w2 _)) (by simp [Value.oneCell']) (by omega) (by unfold maxLen; omega) (by omega) (by have := hB0.size; have := b2.size; simp at *; omega) (w2.heap.size + 1) (by simp) ?_; intro gg cap w3 hown3 hgrow hat hlt))
        go_wp2_with fail
        clear hcat
        have hpt : partsTo (hold t) (k + 1) = partsTo (hold t) k ++ [decDigits (dAt (hold t) k / unitU k).toNat ++ [unitC k]] := by rw [partsTo, if_pos hp]
        have hB3 : Below w.heap.size w w3 := ((then_ hB0 b2).alloc (then_ hB0 b2).size _).grown hgrow (by have := (then_ hB0 b2).size; simp; omega) (fun j e => (hown.lt j e).1)
        go_roundw
        case rel =>
          refine ⟨k + 1, by go_num, by omega, rfl, ?_, hB3⟩
          rw [hpt, List.length_append, List.map_append]
          rw [mk_app] at hown3
          exact hown3
        case measure => simp [RowKit.intOf]; omega
      · have hpt : partsTo (hold t) (k + 1) = partsTo (hold t) k := by rw [partsTo, if_neg hp, List.append_nil]
        have HPT := Lib.hid hpt; clear hpt
        go_wp2_with fail
        go_roundw
        case rel =>
          refine ⟨k + 1, by go_num, by omega, rfl, ?_, hB.alloc hB.size _⟩
          rw [HPT.out]
          exact hown.alloc _
        case measure => simp [RowKit.intOf]; omega
    · obtain rfl : k = 3 := by omega
      have hn0 : (hold t).toNat ≠ 0 := by have := H2.out; have := hold_bd t; omega
      have hpp := partsTo_parts (hold t) (hold_bd t).1
      have hne := parts_ne _ hn0
      rw [hpp] at hown
      obtain ⟨g, cap, rfl, hg, hgl⟩ := hown.form (List.length_pos_iff.2 hne)
      clear hpp
      go_wp2_with fail
      have hsp : span (hold t).toNat = join (parts (hold t).toNat) [32] := by
        unfold span
        rw [if_neg (by have := hold_bd t; have := hq1; simp at this; omega), if_neg hn0]
      have hsl := span_len (hold t).toNat (by have := hold_bd t; omega)
      rw [hsp] at hsl
      refine (join_any _ g cap w.heap.size wr hown hgl (by have := partsTo_len (hold t) 3; rw [partsTo_parts _ (hold_bd t).1] at this; omega) (by omega)).mono ?_
      rintro e w4 ⟨rfl, b4⟩
      have HS := Lib.hid hsp; clear hsp hsl
      go_wp2_with fail
      go_ret
      exact ⟨ret_s (by rw [HS.out]), then_ hB b4⟩

theorem fmtDur_any (t : Int) (w : World) (hE : Env w) :
    Calls Tryd.prog 20 #[.int .i64 t] w fun e w' => e = .returned (.string ⟨(span (hold t).toNat).toArray⟩) ∧ Below w.heap.size w w' := by
  by_cases h1 : hold t = 4611686018427387904
  · have H := Lib.hid h1; clear h1
    have hbeq : (hold t == 4611686018427387904) = true := by rw [H.out]; rfl
    go_enter Tryd.func20, Tryd.ntmps20
    go_wp2_with (go_at_call 24; refine (clamp_any _ _).mono ?_; rintro e w' ⟨rfl, rfl⟩)
    go_ret
    exact ⟨ret_s (by unfold span; rw [H.out]; rfl), Below.refl _ _⟩
  · by_cases h2 : hold t = 0
    · have H := Lib.hid h2
      have hbeq : (hold t == 4611686018427387904) = false := by simpa using h1
      have hbeq2 : (hold t == 0) = true := by rw [h2]; rfl
      clear h1 h2
      go_enter Tryd.func20, Tryd.ntmps20
      go_wp2_with (go_at_call 24; refine (clamp_any _ _).mono ?_; rintro e w' ⟨rfl, rfl⟩)
      go_ret
      exact ⟨ret_s (by unfold span; rw [H.out]; rfl), Below.refl _ _⟩
    · exact fmtD_any t w hE h1 h2

theorem readD_bd (l : Bs) : 0 ≤ readD l ∧ readD l ≤ 4611686018427387904 := by
  have sb : ∀ a b, 0 ≤ sadd a b ∧ sadd a b ≤ 4611686018427387904 := fun a b => by
    have := hold_bd a; have := hold_bd b
    unfold sadd; split <;> omega
  have key : ∀ (f : Nat) (d : Int) (l : Bs), 0 ≤ d → d ≤ 4611686018427387904 → 0 ≤ readF adds f d l ∧ readF adds f d l ≤ 4611686018427387904 := by
    intro f
    induction f with
    | zero => exact fun d l h0 h1 => ⟨h0, h1⟩
    | succ f ih =>
      intro d l h0 h1
      unfold readF
      split
      · exact ⟨h0, h1⟩
      · exact ih _ _ (sb _ _).1 (sb _ _).2
  unfold readD
  split
  · omega
  · exact key _ _ _ (by omega) (by omega)

/-- What ParseDuration returns. -/
def pD (l : Bs) : Int × Int := if span (hold (readD l)).toNat = l then (readD l, 0) else (0, 2)

theorem parseDur_any (l : Bs) (w : World) (hE : Env w) (hl : l.length ≤ 1000) :
    Calls Tryd.prog 21 #[.string ⟨l.toArray⟩] w fun e w' => e = .returned (.tuple #[.int .i64 (pD l).1, .int .i64 (pD l).2]) ∧ Below w.heap.size w w' := by
  go_enter Tryd.func21, Tryd.ntmps21
  go_wp2_with fail
  refine (readD_any _ _ hE hl).mono ?_
  rintro e w1 ⟨rfl, b1⟩
  have E1 := hE.of b1
  go_wp2_with fail
  refine (fmtDur_any _ _ E1).mono ?_
  rintro e w2 ⟨rfl, b2⟩
  go_wp2_with fail
  all_goals go_ret2
  · rename_i h
    have h' : ¬ span (hold (readD l)).toNat = l := by simpa using h
    exact ⟨ret_2 (by unfold pD; rw [if_neg h']) (by unfold pD; rw [if_neg h']), then_ b1 b2⟩
  · rename_i h
    have h' : span (hold (readD l)).toNat = l := by simpa using h
    exact ⟨ret_2 (by unfold pD; rw [if_pos h']) (by unfold pD; rw [if_pos h']), then_ b1 b2⟩

theorem readD_span (n : Nat) (h : n < 4611686018427387904) : readD (span n) = n := by
  unfold readD
  rw [if_neg (span_ne_never n h)]
  have key := readF_span adds n h (fun u hu => by unfold adds; rw [comp_h u (by omega)]; exact IntWalk.wrap64_in _ (by simp only []; omega))
    (fun u hu => by unfold adds; rw [comp_m u (by omega)]; exact IntWalk.wrap64_in _ (by simp only []; omega))
    (fun u hu => by unfold adds; rw [comp_s u (by omega)]; show wrap64 ((u : Int) * 1) = u; rw [Int.mul_one]; exact IntWalk.wrap64_in _ (by omega))
    ((span n).length + 4) (by omega)
  rw [← key]
  exact readF_more adds _ _ _ _ (Nat.le_refl _) (by omega)

end Go.Proofs.YtpndgjhednfpdaaDoor
