/- The reference: Top. -/
import Derived.Test.YtkdabnhhjjmibaaR3
namespace Go.Proofs.Ytkdabnhhjjmibaa
open Go.RowKit Go.Lib Hp

theorem keep4 {w0 w a : World} {p0 p1 p2 p3 : Addr} {v0 v1 v2 v3 : Value} (h : w.cell? p0 = some v0 ∧ w.cell? p1 = some v1 ∧ w.cell? p2 = some v2 ∧ w.cell? p3 = some v3 ∧ Below w0.heap.size w0 w) (k : Below w.heap.size w a) :
    a.cell? p0 = some v0 ∧ a.cell? p1 = some v1 ∧ a.cell? p2 = some v2 ∧ a.cell? p3 = some v3 ∧ Below w0.heap.size w0 a :=
  ⟨cell_keep h.1 k, cell_keep h.2.1 k, cell_keep h.2.2.1 k, cell_keep h.2.2.2.1 k, then_ h.2.2.2.2 k⟩

def lineObj (a : Int × KI) : Obj := .cells #[.int .i64 a.1, .int .i64 a.2] 34 (0, 0)
theorem line_cells {w : World} {g : Nat} {a : Int × KI} (h : w.heap[g]? = some (lineObj a)) : w.cell? ⟨g, 0, none⟩ = some (.int .i64 a.1) ∧ w.cell? ⟨g, 1, none⟩ = some (.int .i64 a.2) := by
  constructor
  · rw [cell_of_row _ _ 0 _ _ _ h]; rfl
  · rw [cell_of_row _ _ 1 _ _ _ h]; rfl
theorem line_frozen {w : World} {g : Nat} {a : Int × KI} (h : w.heap[g]? = some (lineObj a)) (i : Nat) : w.frozen? ⟨g, i, none⟩ = false := frozen_of_row w g i _ _ h
theorem line_store {w : World} {g : Nat} {a : Int × KI} (h : w.heap[g]? = some (lineObj a)) (b : Int × KI) : ((w.setCell ⟨g, 0, none⟩ (.int .i64 b.1)).setCell ⟨g, 1, none⟩ (.int .i64 b.2)).heap[g]? = some (lineObj b) := by
  have h1 : (w.setCell ⟨g, 0, none⟩ (.int .i64 b.1)).heap[g]? = some (.cells #[.int .i64 b.1, .int .i64 a.2] 34 (0, 0)) := by
    rw [setCell_eq_setRow _ g 0 _ _ _ _ h, setRow_heap _ g _ _ _ _ h]; rfl
  rw [setCell_eq_setRow _ g 1 _ _ _ _ h1, setRow_heap _ g _ _ _ _ h1]; rfl

theorem results_top {fn : Func} {p q : Tmp} (h : fn.results = #[.cell p 34, .tmp q]) (tmps : Array Value) (w : World) (g : Nat) (a : Int × KI) (hp : tmps.getD p undef = .pointer (some ⟨g, 0, none⟩)) (hg : w.heap[g]? = some (lineObj a)) :
    (results fn tmps).run Try.prog w = .ok (.tuple #[.agg #[.int .i64 a.1, .int .i64 a.2], tmps.getD q undef]) w := by
  have hp' : tmps[p]?.getD undef = .pointer (some ⟨g, 0, none⟩) := by simpa using hp
  have hl := run_loadVar_row (P := Try.prog) w g 34 34 _ (0, 0) _ hg Try.underlying34 rfl (by kernel_rfl)
  simp [results, h, hp', asAddr, hl]

theorem rtop_none (v : Value) (w : World) (H : Lines w v []) : Calls Try.prog 14 #[v] w fun r w' => r = .returned (.tuple #[.agg #[.int .i64 0, .int .i64 0], .bool false]) ∧ Below w.heap.size w w' := by
  obtain ⟨A, cap, rfl⟩ := H.form
  have hR : (w.alloc (.cells #[.int .i64 0, .int .i64 0] 34)).heap[w.heap.size]? = some (lineObj (0, 0)) := heap_alloc_new w _
  go_enter Try.func14, Try.ntmps14
  go_wp2
  refine bodyPost_ret (results_top rfl _ _ w.heap.size (0, 0) rfl hR) rfl ⟨rfl, (Below.refl _ _).alloc (Nat.le_refl _) _⟩

theorem rtop_some (v : Value) (x : List (Int × KI)) (w : World) (H : Lines w v x) (hl : x.length ≤ 10000) (h0 : 0 < x.length) : Calls Try.prog 14 #[v] w fun r w' => ∃ m, IsTop ltI x m ∧ r = .returned (.tuple #[.agg #[.int .i64 m.1, .int .i64 m.2], .bool true]) ∧ Below w.heap.size w w' := by
  obtain ⟨g, cap, rfl⟩ := H.form' h0
  obtain ⟨a0, ha0⟩ : ∃ a, x[0]? = some a := ⟨_, List.getElem?_eq_getElem h0⟩
  obtain ⟨p0, p1⟩ := H.cell ha0
  rw [Nat.zero_mul] at p0 p1
  have e0 : ((x.length : Int) == 0) = false := by rw [beq_eq_false_iff_ne]; omega
  have e1 : (x.length == 0) = false := by rw [beq_eq_false_iff_ne]; omega
  have e2 : ¬ x.length = 0 := by omega
  have e3 : (0 : Int) < (x.length : Int) := by omega
  have hgl : g < w.heap.size := (World.ownsRow.lt H g rfl).2
  have hR : ((w.alloc (.cells #[.int .i64 0, .int .i64 0] 34)).alloc (.cells #[.int .i64 a0.1, .int .i64 a0.2] 34)).heap[w.heap.size]? = some (lineObj (0, 0)) := by
    rw [Below.heap_alloc _ _ _ (by simp)]; exact heap_alloc_new w _
  have hM : ((w.alloc (.cells #[.int .i64 0, .int .i64 0] 34)).alloc (.cells #[.int .i64 a0.1, .int .i64 a0.2] 34)).heap[w.heap.size + 1]? = some (lineObj a0) := by
    have := heap_alloc_new (w.alloc (.cells #[.int .i64 0, .int .i64 0] 34)) (.cells #[.int .i64 a0.1, .int .i64 a0.2] 34)
    rw [World.size_alloc] at this; exact this
  have hB : Below w.heap.size w ((w.alloc (.cells #[.int .i64 0, .int .i64 0] 34)).alloc (.cells #[.int .i64 a0.1, .int .i64 a0.2] 34)) := ((Below.refl _ _).alloc (Nat.le_refl _) _).alloc (by simp) _
  have hH := Lib.hid H
  clear H
  go_enter Try.func14, Try.ntmps14
  go_wp2
  clear p0 p1
  generalize ((w.alloc (.cells #[.int .i64 0, .int .i64 0] 34)).alloc (.cells #[.int .i64 a0.1, .int .i64 a0.2] 34)) = W at *
  obtain ⟨B, hBd⟩ : ∃ B, w.heap.size = B := ⟨_, rfl⟩
  rw [hBd] at hR hM hB hgl ⊢
  go_loopw [5] (fun i w' => ∃ (k : Nat) (m : Int × KI), i = .int .i64 k ∧ k ≤ x.length ∧ m ∈ x ∧ (∀ j b, j < k → x[j]? = some b → prec ltI b m = false) ∧ w'.heap[B]? = some (lineObj (0, 0)) ∧ w'.heap[B + 1]? = some (lineObj m) ∧ Below B w w') (fun i _ => x.length - (intOf i).toNat)
  case atStart => exact ⟨0, a0, rfl, by omega, List.mem_of_getElem? ha0, by intro j b h; omega, hR, hM, hB⟩
  case round =>
    obtain ⟨k, m, rfl, hk, hm, hle, hR2, hM2, hB2⟩ := hrel
    clear hR hM hB
    have hle := Lib.hid hle
    by_cases hlt : k < x.length
    · obtain ⟨a, ha⟩ : ∃ a, x[k]? = some a := ⟨_, List.getElem?_eq_getElem hlt⟩
      have H2 : Lines wr (.slice (some ⟨g, 0, none⟩) x.length cap) x := hH.out.kept fun g' hg' => by
        simp [Value.ownBlock] at hg'; subst hg'; exact hB2.block g hgl
      obtain ⟨p0, p1⟩ := H2.cell ha
      obtain ⟨d0, d1⟩ := line_cells hM2
      have f1 : (k : Int) < (x.length : Int) := by omega
      have f2 : (0 : Int) ≤ (k : Int) := by omega
      clear H2
      go_wp2
      go_region_held3 (fun w' => w'.cell? ⟨g, k * 2, none⟩ = some (.int .i64 a.1) ∧ w'.cell? ⟨g, k * 2 + 1, none⟩ = some (.int .i64 a.2) ∧ w'.cell? ⟨B + 1, 0, none⟩ = some (.int .i64 m.1) ∧ w'.cell? ⟨B + 1, 1, none⟩ = some (.int .i64 m.2) ∧ Below wr.heap.size wr w')
        (first | exact ⟨p0, p1, d0, d1, (Below.refl _ _).drew⟩ | exact keep4 (w0 := wr) (w := wr.drew) ⟨p0, p1, d0, d1, (Below.refl _ _).drew⟩ (by assumption))
        ((go_at_call 20; refine (ahead_any a m _).mono ?_; rintro r w' ⟨rfl, hbw⟩))
      have b3 : Below wr.heap.size wr w' := (Below.refl _ _).drew.trans hbw
      have hBr : B + 1 < wr.heap.size := (Array.getElem?_eq_some_iff.1 hM2).1
      have hR3 : w'.heap[B]? = some (lineObj (0, 0)) := (b3.block B (by omega)).trans hR2
      have hM3 : w'.heap[B + 1]? = some (lineObj m) := (b3.block (B + 1) hBr).trans hM2
      have hB3 : Below B w w' := hB2.trans (b3.mono (by omega))
      have c0 := cell_keep p0 b3
      have c1 := cell_keep p1 b3
      clear p0 p1 d0 d1 hM2 hR2 hbw
      obtain ⟨d0, d1⟩ := line_cells hM3
      have fr0 := line_frozen hM3 0
      have fr1 := line_frozen hM3 1
      cases hp : prec ltI a m
      · go_wp2
        go_roundw
        case rel => exact ⟨k + 1, m, by go_num, by omega, hm, fun j b hj hb => by
          by_cases e : j = k
          · subst e; rw [ha] at hb; injection hb with hb; subst hb; exact hp
          · exact hle.out j b (by omega) hb, hR3, hM3, hB3⟩
        case measure => simp [intOf]; omega
      · go_wp2
        go_roundw
        case rel =>
          refine ⟨k + 1, a, by go_num, by omega, List.mem_of_getElem? ha, fun j b hj hb => ?_, ?_, line_store hM3 a, ?_⟩
          · by_cases e : j = k
            · subst e; rw [ha] at hb; injection hb with hb; subst hb; exact prec_irr strictI _
            · exact le_tr strictI (prec_asymm strictI hp) (hle.out j b (by omega) hb)
          · rw [Below.heap_setCell _ _ _ _ (by show B ≠ B + 1; omega), Below.heap_setCell _ _ _ _ (by show B ≠ B + 1; omega)]; exact hR3
          · exact (hB3.setCell (p := ⟨B + 1, 0, none⟩) (by show B ≤ B + 1; omega) _).setCell (p := ⟨B + 1, 1, none⟩) (by show B ≤ B + 1; omega) _
        case measure => simp [intOf]; omega
    · obtain rfl : k = x.length := by omega
      obtain ⟨d0, d1⟩ := line_cells hM2
      obtain ⟨r0, r1⟩ := line_cells hR2
      have fr0 := line_frozen hR2 0
      have fr1 := line_frozen hR2 1
      go_wp2
      refine bodyPost_ret (results_top rfl _ _ B m rfl (line_store hR2 m)) rfl ⟨m.1, m.2, ⟨hm, fun a ha => ?_⟩, rfl, ?_⟩
      · obtain ⟨j, hj⟩ := List.mem_iff_getElem?.1 ha
        exact hle.out j a ((List.getElem?_eq_some_iff.1 hj).1) hj
      · exact (hB2.setCell (p := ⟨B, 0, none⟩) (Nat.le_refl _) _).setCell (p := ⟨B, 1, none⟩) (Nat.le_refl _) _
end Go.Proofs.Ytkdabnhhjjmibaa
