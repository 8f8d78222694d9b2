/- readRuns and Parse: walks. -/
import Derived.Test.YtggalncjookkiaaDoorW8
namespace Go.Proofs.YtggalncjookkiaaDoor
open Go.RowKit Go.Lib Nds

def strLen : Value → Nat | .string b => b.size | _ => 0

theorem addTo_next (p : Nat → Bool) (a k : Nat) (m : Nat) (h : a ≤ k) : (addTo p (a : Int) (k : Int) m || m == k) = addTo p (a : Int) ((k : Int) + 1) m := by
  unfold addTo
  rw [Bool.eq_iff_iff]
  simp only [Bool.or_eq_true, decide_eq_true_eq, beq_iff_eq]
  constructor
  · rintro ((h1 | h1) | h1)
    · exact Or.inl h1
    · exact Or.inr (by omega)
    · exact Or.inr (by omega)
  · rintro (h1 | h1)
    · exact Or.inl (Or.inl h1)
    · by_cases e : m = k
      · exact Or.inr e
      · exact Or.inl (Or.inr (by omega))
theorem addTo_none (p : Nat → Bool) (a : Int) (m : Nat) : addTo p a a m = p m := by
  unfold addTo
  rw [decide_eq_false (by omega)]; simp

theorem runOf_bd (l : Bs) : (-9223372036854775808 ≤ (runOf l).1 ∧ (runOf l).1 ≤ 9223372036854775807) ∧ (-9223372036854775808 ≤ (runOf l).2 ∧ (runOf l).2 ≤ 9223372036854775807) := by
  unfold runOf
  split
  · exact ⟨num_bd _, num_bd _⟩
  · exact ⟨num_bd _, num_bd _⟩

set_option maxRecDepth 100000 in
set_option maxHeartbeats 2000000 in
theorem readRuns_any (l : Bs) (w : World) (hE : Env w) (hl : l.length ≤ 1000) :
    Calls Tryd.prog 39 #[.string ⟨l.toArray⟩] w fun e w' => e = .returned (.agg (cells (readAll l))) ∧ Below w.heap.size w w' := by
  have h1 : SetAt ((w.alloc (.cells (cells fun _ => false) 28)).alloc (.cells (cells fun _ => false) 28)) w.heap.size (fun _ => false) := (SetAt.new w _).alloc _
  have h2 : SetAt ((w.alloc (.cells (cells fun _ => false) 28)).alloc (.cells (cells fun _ => false) 28)) (w.heap.size + 1) (fun _ => false) := by have := SetAt.new (w.alloc (.cells (cells fun _ => false) 28)) (fun _ => false); simpa using this
  have hB : Below w.heap.size w ((w.alloc (.cells (cells fun _ => false) 28)).alloc (.cells (cells fun _ => false) 28)) := ((Below.refl _ _).alloc (Nat.le_refl _) _).alloc (by simp) _
  go_enter Tryd.func39, Tryd.ntmps39
  go_wp2_with (refine wpList_alloc_set rfl rfl ?_)
  go_loopw [4, 5] (fun nx st w' => ∃ (next : Int) (p : Nat → Bool) (rest : Bs), nx = .int .i64 next ∧ st = .string ⟨rest.toArray⟩ ∧ 0 ≤ next ∧ next ≤ 4096 ∧ rest.length ≤ 1000 ∧ SetAt w' (w.heap.size + 1) p ∧ SetAt w' w.heap.size (fun _ => false) ∧ Below w.heap.size w w' ∧ runsW next p rest = readAll l) (fun _ st _ => strLen st)
  case atStart => exact ⟨0, _, l, rfl, rfl, by omega, by omega, hl, h2, h1, hB, rfl⟩
  case round =>
    obtain ⟨next, p, rest, rfl, rfl, hn0, hn1, hrl, hs, h0, hb, hq⟩ := hrel
    clear h1 h2 hB
    have hz := hb.size
    by_cases hemp : rest = []
    · subst hemp
      rw [runsW_nil] at hq
      subst hq
      go_wp2_with (first | refine wpList_load_set _ _ _ rfl rfl rfl hs ?_ | refine wpList_store_set _ _ _ _ _ rfl rfl rfl rfl h0 ?_)
      refine bodyPost_ret (v := .agg (cells (readAll l))) ?_ rfl ⟨rfl, below_setRow hb (by omega) _⟩
      exact results_cell_row Tryd.results39 _ _ _ _ _ _ _ rfl (h0.row (q := readAll l)) Tryd.underlying28 rfl (info_set' _)
    · have hne : (rest == []) = false := by simpa using hemp
      have hstep := runsW_step (next := next) (p := p) hemp
      have hbad := runsW_bad (next := next) (p := p) hemp
      have hsh := cut_shorter rest 44 hemp
      rw [hq] at hstep hbad
      clear hq
      have hfb := runOf_bd (cut rest [44]).1
      have hEr := hE.of hb
      have c1 := cut_le rest [44]
      have HS := Lib.hid hstep; clear hstep
      have HBad := Lib.hid hbad; clear hbad
      go_wp2_with fail
      refine (cut_any _ _ _ hEr hrl).mono ?_
      rintro e w1 ⟨rfl, b1⟩
      have E1 := hEr.of b1
      go_wp2_with fail
      refine (readRun_any _ _ E1 (by omega)).mono ?_
      rintro e w2 ⟨rfl, b2⟩
      have b12 := then_ b1 b2
      have hs2 := hs.below b12 hs.lt
      have h02 := h0.below b12 h0.lt
      have hb2 := hb.trans (b12.mono hz)
      have hz2 := hb2.size
      clear hs h0 hb b1 b2 E1 hEr
      have hstep := HS.out
      have hbad := HBad.out
      clear HS HBad
      generalize (runOf (cut rest [44]).1).1 = f at hstep hbad hfb ⊢
      generalize (runOf (cut rest [44]).1).2 = la at hstep hbad hfb ⊢
      generalize (cut rest [44]).2.1 = rest' at hstep hsh c1 ⊢
      by_cases hB1 : Bad next f la
      · have he := hbad hB1
        clear hstep hbad
        rw [← he] at hs2
        unfold Bad at hB1
        have HE := Lib.hid he; clear he
        have hdis := hB1
        clear hB1
        by_cases q1 : f < next
        · clear hdis
          go_wp2_with (first | refine wpList_load_set _ _ _ rfl rfl rfl hs2 ?_ | refine wpList_store_set _ _ _ _ _ rfl rfl rfl rfl h02 ?_)
          refine bodyPost_ret (v := .agg (cells (readAll l))) ?_ rfl ⟨rfl, below_setRow hb2 (by omega) _⟩
          exact results_cell_row Tryd.results39 _ _ _ _ _ _ _ rfl (h02.row (q := readAll l)) Tryd.underlying28 rfl (info_set' _)
        · by_cases q2 : la < f
          · clear hdis
            go_wp2_with (first | refine wpList_load_set _ _ _ rfl rfl rfl hs2 ?_ | refine wpList_store_set _ _ _ _ _ rfl rfl rfl rfl h02 ?_)
            refine bodyPost_ret (v := .agg (cells (readAll l))) ?_ rfl ⟨rfl, below_setRow hb2 (by omega) _⟩
            exact results_cell_row Tryd.results39 _ _ _ _ _ _ _ rfl (h02.row (q := readAll l)) Tryd.underlying28 rfl (info_set' _)
          · have q3 : 4096 ≤ la := by omega
            clear hdis
            go_wp2_with (first | refine wpList_load_set _ _ _ rfl rfl rfl hs2 ?_ | refine wpList_store_set _ _ _ _ _ rfl rfl rfl rfl h02 ?_)
            refine bodyPost_ret (v := .agg (cells (readAll l))) ?_ rfl ⟨rfl, below_setRow hb2 (by omega) _⟩
            exact results_cell_row Tryd.results39 _ _ _ _ _ _ _ rfl (h02.row (q := readAll l)) Tryd.underlying28 rfl (info_set' _)
      · have he := hstep hB1
        clear hstep hbad
        have HE := Lib.hid he; clear he
        have q1 : next ≤ f := by unfold Bad at hB1; omega
        have q2 : f ≤ la := by unfold Bad at hB1; omega
        have q3 : la < 4096 := by unfold Bad at hB1; omega
        clear hB1
        obtain ⟨a, rfl⟩ := Int.eq_ofNat_of_zero_le (show 0 ≤ f by omega)
        obtain ⟨b, rfl⟩ := Int.eq_ofNat_of_zero_le (show 0 ≤ la by omega)
        have e1 : decide ((a : Int) < next) = false := by rw [decide_eq_false_iff_not]; omega
        have e2 : decide (b < a) = false := by rw [decide_eq_false_iff_not]; omega
        have e3 : decide (4096 ≤ (b : Int)) = false := by rw [decide_eq_false_iff_not]; omega
        go_wp2_with fail
        obtain ⟨wo, rfl⟩ : ∃ wo : World, wo = w2 := ⟨_, rfl⟩
        go_loopw [9] (fun j w' => ∃ k : Nat, j = .int .i64 k ∧ a ≤ k ∧ k ≤ b + 1 ∧ SetAt w' (w.heap.size + 1) (addTo p a k) ∧ SetAt w' w.heap.size (fun _ => false) ∧ Below w.heap.size w w') (fun j _ => b + 1 - (RowKit.intOf j).toNat)
        case atStart => exact ⟨a, rfl, by omega, by omega, hs2.congr fun m _ => (addTo_none p a m).symm, h02, hb2⟩
        case round =>
          obtain ⟨k, rfl, hk1, hk2, hs3, h03, hb3⟩ := hrel
          have hz3 := hb3.size
          clear hs2 h02 hb2
          by_cases hkb : k ≤ b
          · go_wp2_with (go_at_call 35; refine (add_any _ _ k _ (by omega) hs3).mono ?_; rintro e w4 ⟨⟨v, rfl⟩, hs4, hg⟩)
            go_roundw
            case rel =>
              refine ⟨k + 1, by go_num, by omega, by omega, hs4.congr fun m _ => ?_, (hg.block _ h03.lt (fun e => by injection e with e; omega)).trans h03, hb3.grown hg (by omega) (fun j e => by injection e with e; omega)⟩
              rw [addTo_next p a k m hk1]; simp
            case measure => simp [RowKit.intOf]; omega
          · obtain rfl : k = b + 1 := by omega
            go_wp2_with fail
            go_roundw
            case rel => exact ⟨(b : Int) + 1, addTo p a ((b : Int) + 1), rest', rfl, rfl, by omega, by omega, by omega, by simpa using hs3, h03, hb3, HE.out.symm⟩
            case measure => simp [strLen]; exact hsh

/-! ### Parse -/

theorem built_set : Tryd.prog.built 28 [] = some (cells fun _ => false) := by rw [cells_none]; kernel_rfl

theorem wpList_build_set {ops : Array Oper} {rest : List Oper} {o : Oper} {a : Act} {w : World} {Q : Exit → Act → World → Prop} (hgd : o.guard = none) (ho : o.op = .build 28 #[])
    (h : wpList Tryd.prog ops Q rest (a.put o.dst (.agg (cells fun _ => false))) w) : wpList Tryd.prog ops Q (o :: rest) a w := by
  refine wpList_build hgd 28 #[] ho (by simp [built_set]) ?_
  simp only [List.map_toArray, List.map_nil, built_set, Option.getD_some]
  exact h

theorem results_set_err {fn : Func} (h : fn.results = #[.cell 2 28, .tmp 3]) (tmps : Array Value) (w : World) (g : Nat) (p : Nat → Bool) (e : Int) (h2 : tmps.getD 2 undef = .pointer (some ⟨g, 0, none⟩)) (h3 : tmps.getD 3 undef = .int .i64 e) (hs : SetAt w g p) :
    (results fn tmps).run Tryd.prog w = .ok (.tuple #[.agg (cells p), .int .i64 e]) w := by
  have h2' : tmps[2]?.getD undef = .pointer (some ⟨g, 0, none⟩) := by simpa using h2
  have h3' : tmps[3]?.getD undef = .int .i64 e := by simpa using h3
  have hl := run_loadVar_row (P := Tryd.prog) w g 28 28 (cells p) (0, 0) _ hs Tryd.underlying28 rfl (info_set' p)
  simp [results, h, h2', h3', asAddr, hl]

/-- What Parse returns. -/
def parsed (l : Bs) : (Nat → Bool) × Int := if txt (readAll l) = l then (readAll l, 0) else (fun _ => false, 2)

set_option maxRecDepth 100000 in
set_option maxHeartbeats 1000000 in
theorem parse_yes (l : Bs) (w : World) (hE : Env w) (hl : l.length ≤ 1000) (hq : txt (readAll l) = l) :
    Calls Tryd.prog 30 #[.string ⟨l.toArray⟩] w fun e w' => e = .returned (.tuple #[.agg (cells (readAll l)), .int .i64 0]) ∧ Below w.heap.size w w' := by
  have h1 : SetAt (w.alloc (.cells (cells fun _ => false) 28)) w.heap.size (fun _ => false) := SetAt.new w _
  have hB : Below w.heap.size w (w.alloc (.cells (cells fun _ => false) 28)) := (Below.refl _ _).alloc (Nat.le_refl _) _
  have htl := txt_len (readAll l)
  have HQ := Lib.hid hq; clear hq
  go_enter Tryd.func30, Tryd.ntmps30
  go_wp2_with (refine wpList_alloc_set rfl rfl ?_)
  refine (readRuns_any l _ (hE.of hB) hl).mono ?_
  rintro e w1 ⟨rfl, b1⟩
  have h2 := h1.below b1 h1.lt
  have hB1 := hB.trans (b1.mono hB.size)
  have hz1 := hB1.size
  have hz0 := b1.size
  simp only [World.size_alloc] at hz0
  have h3 : SetAt (w1.alloc (.cells (cells fun _ => false) 28)) w1.heap.size (fun _ => false) := SetAt.new w1 _
  have h4 : SetAt ((w1.alloc (.cells (cells fun _ => false) 28)).setRow w1.heap.size (cells (readAll l))) w1.heap.size (readAll l) := h3.row
  have h5 : SetAt ((w1.alloc (.cells (cells fun _ => false) 28)).setRow w1.heap.size (cells (readAll l))) w.heap.size (fun _ => false) := (setRow_other _ _ _ _ (by omega)).trans (h2.alloc _)
  have hB2 : Below w.heap.size w ((w1.alloc (.cells (cells fun _ => false) 28)).setRow w1.heap.size (cells (readAll l))) := below_setRow (hB1.alloc hz1 _) (by omega) _
  go_wp2_with (first | refine wpList_alloc_set rfl rfl ?_ | refine wpList_store_set _ _ _ _ _ rfl rfl rfl rfl h3 ?_ | refine wpList_load_set _ _ _ rfl rfl rfl h4 ?_)
  refine (str_any _ _ (hE.of hB2)).mono ?_
  rintro e w2 ⟨rfl, b2⟩
  have h6 := h5.below b2 h5.lt
  have h7 := h4.below b2 h4.lt
  have hB3 := hB2.trans (b2.mono hB2.size)
  have hqb : (txt (readAll l) == l) = true := by rw [beq_iff_eq]; exact HQ.out
  go_wp2_with (first | refine wpList_load_set _ _ _ rfl rfl rfl h7 ?_ | refine wpList_store_set _ _ _ _ _ rfl rfl rfl rfl h6 ?_)
  refine bodyPost_ret (v := .tuple #[.agg (cells (readAll l)), .int .i64 0]) (results_set_err Tryd.results30 _ _ _ _ _ rfl rfl (h6.row (q := readAll l))) rfl ⟨rfl, below_setRow hB3 (by omega) _⟩

set_option maxRecDepth 100000 in
set_option maxHeartbeats 1000000 in
theorem parse_no (l : Bs) (w : World) (hE : Env w) (hl : l.length ≤ 1000) (hq : ¬ txt (readAll l) = l) :
    Calls Tryd.prog 30 #[.string ⟨l.toArray⟩] w fun e w' => e = .returned (.tuple #[.agg (cells fun _ => false), .int .i64 2]) ∧ Below w.heap.size w w' := by
  have h1 : SetAt (w.alloc (.cells (cells fun _ => false) 28)) w.heap.size (fun _ => false) := SetAt.new w _
  have hB : Below w.heap.size w (w.alloc (.cells (cells fun _ => false) 28)) := (Below.refl _ _).alloc (Nat.le_refl _) _
  have htl := txt_len (readAll l)
  go_enter Tryd.func30, Tryd.ntmps30
  go_wp2_with (refine wpList_alloc_set rfl rfl ?_)
  refine (readRuns_any l _ (hE.of hB) hl).mono ?_
  rintro e w1 ⟨rfl, b1⟩
  have h2 := h1.below b1 h1.lt
  have hB1 := hB.trans (b1.mono hB.size)
  have hz1 := hB1.size
  have hz0 := b1.size
  simp only [World.size_alloc] at hz0
  have h3 : SetAt (w1.alloc (.cells (cells fun _ => false) 28)) w1.heap.size (fun _ => false) := SetAt.new w1 _
  have h4 : SetAt ((w1.alloc (.cells (cells fun _ => false) 28)).setRow w1.heap.size (cells (readAll l))) w1.heap.size (readAll l) := h3.row
  have h5 : SetAt ((w1.alloc (.cells (cells fun _ => false) 28)).setRow w1.heap.size (cells (readAll l))) w.heap.size (fun _ => false) := (setRow_other _ _ _ _ (by omega)).trans (h2.alloc _)
  have hB2 : Below w.heap.size w ((w1.alloc (.cells (cells fun _ => false) 28)).setRow w1.heap.size (cells (readAll l))) := below_setRow (hB1.alloc hz1 _) (by omega) _
  go_wp2_with (first | refine wpList_alloc_set rfl rfl ?_ | refine wpList_store_set _ _ _ _ _ rfl rfl rfl rfl h3 ?_ | refine wpList_load_set _ _ _ rfl rfl rfl h4 ?_)
  refine (str_any _ _ (hE.of hB2)).mono ?_
  rintro e w2 ⟨rfl, b2⟩
  have h6 := h5.below b2 h5.lt
  have h7 := h4.below b2 h4.lt
  have hB3 := hB2.trans (b2.mono hB2.size)
  have hqb : (txt (readAll l) == l) = false := by rw [beq_eq_false_iff_ne]; exact hq
  go_wp2_with (first | refine wpList_build_set rfl rfl ?_ | refine wpList_store_set _ _ _ _ _ rfl rfl rfl rfl h6 ?_)
  refine bodyPost_ret (v := .tuple #[.agg (cells fun _ => false), .int .i64 2]) (results_set_err Tryd.results30 _ _ _ _ _ rfl rfl (h6.row (q := fun _ => false))) rfl ⟨rfl, below_setRow hB3 (by omega) _⟩

theorem parse_any (l : Bs) (w : World) (hE : Env w) (hl : l.length ≤ 1000) :
    Calls Tryd.prog 30 #[.string ⟨l.toArray⟩] w fun e w' => e = .returned (.tuple #[.agg (cells (parsed l).1), .int .i64 (parsed l).2]) ∧ Below w.heap.size w w' := by
  unfold parsed
  by_cases hq : txt (readAll l) = l
  · rw [if_pos hq]; exact parse_yes l w hE hl hq
  · rw [if_neg hq]; exact parse_no l w hE hl hq

end Go.Proofs.YtggalncjookkiaaDoor
