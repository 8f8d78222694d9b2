/- place. -/
import Derived.Test.YtkdabnhhjjmibaaHI1
namespace Go.Proofs.Ytkdabnhhjjmibaa
open Go.RowKit Go.Lib Hp

def NewI (w : World) (b : Nat) : Prop := w.heap.size ≤ b
theorem box_loadI {w : World} {g : Nat} {e : Int × KI} (h : w.heap[g]? = some (.cells #[.int .i64 e.1, (Value.int .i64 (e.2))] 67 (0, 0))) : (loadVar 67 ⟨g, 0, none⟩).run Try.prog w = .ok (.agg #[.int .i64 e.1, (Value.int .i64 (e.2))]) w :=
  run_loadVar_row w g 67 67 _ _ _ h Try.underlying67 rfl (by kernel_rfl)

theorem place_someI (hb g cap b : Nat) (s : St KI) (n i : Nat) (e : Int × KI) (w : World) (H : HeapAtI w hb (.slice (some ⟨g, 0, none⟩) s.l.length cap) (some b) s n) (hi : i < s.l.length) (hl : s.l.length ≤ 9223372036854775807) (he : Fits e.1) (hn : n < maxLen) :
    Calls Try.prog 34 #[.pointer (some ⟨hb, 0, none⟩), .int .i64 i, .agg #[.int .i64 e.1, (Value.int .i64 (e.2))]] w fun r w' => (∃ v, r = .returned v) ∧ HeapAtI w' hb (.slice (some ⟨g, 0, none⟩) s.l.length cap) (some b) (s.place i e) (n + 1) ∧ Chg (foot hb (.slice (some ⟨g, 0, none⟩) s.l.length cap) (some b)) w w' := by
  have hbx : (w.alloc (.cells #[.int .i64 e.1, (Value.int .i64 (e.2))] 67)).heap[w.heap.size]? = some (.cells #[.int .i64 e.1, (Value.int .i64 (e.2))] 67 (0, 0)) := heap_alloc_new w _
  have H1 := H.below ((Below.refl _ _).alloc (Nat.le_refl _) (.cells #[.int .i64 e.1, (Value.int .i64 (e.2))] 67))
  have c0 := H1.c0
  have c1 := H1.c1
  have d0 : (w.alloc (.cells #[.int .i64 e.1, (Value.int .i64 (e.2))] 67)).cell? ⟨w.heap.size, 0, none⟩ = some (.int .i64 e.1) := by rw [cell_of_row _ _ 0 _ _ _ hbx]; rfl
  have d1 : (w.alloc (.cells #[.int .i64 e.1, (Value.int .i64 (e.2))] 67)).cell? ⟨w.heap.size, 1, none⟩ = some (Value.int .i64 (e.2)) := by rw [cell_of_row _ _ 1 _ _ _ hbx]; rfl
  have hfr := World.ownsRow.frozenAt H1.row
  have hfr0 := hfr (i * 2)
  have hfr1 := hfr (i * 2 + 1)
  obtain ⟨o0, o1⟩ := H1.row.cell (List.getElem?_eq_getElem hi)
  have hi' : (i : Int) < (s.l.length : Int) := by omega
  have hi0 : (0 : Int) ≤ (i : Int) := by omega
  have hif : Fits (i : Int) := WalkArith.wf_i64 (by omega)
  have k1 : Chg (foot hb (.slice (some ⟨g, 0, none⟩) s.l.length cap) (some b)) w (w.alloc (.cells #[.int .i64 e.1, (Value.int .i64 (e.2))] 67)) := (Chg.refl _ w).alloc _
  have hBg : w.heap.size ≠ g := fun e => by have := H.lt g (.inr (.inl rfl)); omega
  have hq := map_eql (some b)
  simp only [Option.isNone_some] at hq
  go_enter Try.func34, Try.ntmps34
  go_wp2
  generalize (w.alloc (.cells #[.int .i64 e.1, (Value.int .i64 (e.2))] 67)) = W1 at *
  generalize w.heap.size = B at *
  go_region
  have r2 : EntsI ((W1.setCell ⟨g, i * 2, none⟩ (.int .i64 e.1)).setCell ⟨g, i * 2 + 1, none⟩ (Value.int .i64 (e.2))) (.slice (some ⟨g, 0, none⟩) s.l.length cap) (s.l.set i e) := EntsI.set H1.row i e
  have hgb : g ≠ hb := fun e => H1.ne_row (by rw [← e]; rfl)
  have hgm : b ≠ g := fun e => H1.ne_rm rfl (by rw [e])
  have h2 : ((W1.setCell ⟨g, i * 2, none⟩ (.int .i64 e.1)).setCell ⟨g, i * 2 + 1, none⟩ (Value.int .i64 (e.2))).heap[hb]? = some (.cells #[.slice (some ⟨g, 0, none⟩) s.l.length cap, .map (some b)] 64 (0, 0)) := by
    rw [Below.heap_setCell _ _ _ _ (fun e => hgb e.symm), Below.heap_setCell _ _ _ _ (fun e => hgb e.symm)]; exact H1.hd
  have hB2 : ((W1.setCell ⟨g, i * 2, none⟩ (.int .i64 e.1)).setCell ⟨g, i * 2 + 1, none⟩ (Value.int .i64 (e.2))).heap[B]? = some (.cells #[.int .i64 e.1, (Value.int .i64 (e.2))] 67 (0, 0)) := by
    rw [Below.heap_setCell _ _ _ _ (fun e => hBg e), Below.heap_setCell _ _ _ _ (fun e => hBg e)]; exact hbx
  have m2 : MapIs ((W1.setCell ⟨g, i * 2, none⟩ (.int .i64 e.1)).setCell ⟨g, i * 2 + 1, none⟩ (Value.int .i64 (e.2))) (some b) n s.f := H1.map.kept fun b' hb' => by
    injection hb' with hb'; subst hb'
    rw [Below.heap_setCell _ _ _ _ hgm, Below.heap_setCell _ _ _ _ hgm]
  have k2 :=
    Chg.setCell (u := (Value.int .i64 (e.2))) (p := ⟨g, i * 2 + 1, none⟩) (Chg.setCell (p := ⟨g, i * 2, none⟩) k1 (fun _ => .inr (.inl rfl)) (.int .i64 e.1)) (fun _ => .inr (.inl rfl))
  generalize (W1.setCell ⟨g, i * 2, none⟩ (.int .i64 e.1)).setCell ⟨g, i * 2 + 1, none⟩ (Value.int .i64 (e.2)) = W2 at *
  clear c0 c1 d0 d1 o0 o1 hfr hfr0 hfr1 hbx hq
  have c0 : W2.cell? ⟨hb, 0, none⟩ = some (.slice (some ⟨g, 0, none⟩) s.l.length cap) := by rw [cell_of_row W2 hb 0 _ _ _ h2]; rfl
  have c1 : W2.cell? ⟨hb, 1, none⟩ = some (.map (some b)) := by rw [cell_of_row W2 hb 1 _ _ _ h2]; rfl
  have d0 : W2.cell? ⟨B, 0, none⟩ = some (.int .i64 e.1) := by rw [cell_of_row W2 B 0 _ _ _ hB2]; rfl
  obtain ⟨W3, hrun, m3, g3⟩ := MapIs.store (w := W2.drew.drew) (b := b) (n := n) (f := s.f) m2 he hif hn
  go_wp2
  go_region
  go_end0
  have hk : ∀ k, k < W2.heap.size → k ≠ b → W3.heap[k]? = W2.heap[k]? := fun k hk hne => g3.block k hk (fun e => hne (by injection e))
  refine ⟨⟨_, rfl⟩, ⟨?_, ?_, m3⟩, ?_⟩
  · rw [hk hb (Array.getElem?_eq_some_iff.1 h2).1 (fun e => H1.ne_map (by rw [e]))]; exact h2
  · have r3 : EntsI W3 (.slice (some ⟨g, 0, none⟩) s.l.length cap) (s.l.set i e) := r2.kept fun g' hg' => by
      simp [Value.ownBlock] at hg'; subst hg'
      exact hk g ((World.ownsRow.lt r2 g rfl).2) (fun e => hgm e.symm)
    exact r3
  · exact k2.drew.drew.grown g3 fun j hj _ => .inr (.inr hj)

theorem place_noneI (hb g cap : Nat) (s : St KI) (n i : Nat) (e : Int × KI) (w : World) (H : HeapAtI w hb (.slice (some ⟨g, 0, none⟩) s.l.length cap) none s n) (hi : i < s.l.length) (hl : s.l.length ≤ 9223372036854775807) (he : Fits e.1) (hn : n < maxLen) (b : Nat) (hbq : w.heap.size + 1 = b) :
    Calls Try.prog 34 #[.pointer (some ⟨hb, 0, none⟩), .int .i64 i, .agg #[.int .i64 e.1, (Value.int .i64 (e.2))]] w fun r w' => (∃ v, r = .returned v) ∧ HeapAtI w' hb (.slice (some ⟨g, 0, none⟩) s.l.length cap) (some b) (s.place i e) (n + 1) ∧ Chg (foot hb (.slice (some ⟨g, 0, none⟩) s.l.length cap) none) w w' := by
  have hbl : hb < w.heap.size := H.lt hb (.inl rfl)
  have hgl : g < w.heap.size := H.lt g (.inr (.inl rfl))
  have hgb : g ≠ hb := fun e => H.ne_row (by rw [← e]; rfl)
  have z0 := H.c0
  have z1 := H.c1
  have zf := H.fr 1
  have hsz : (w.setCell ⟨hb, 1, none⟩ (.map (some (w.heap.size + 1)))).heap.size = w.heap.size := by simp
  have hsz2 : ((w.setCell ⟨hb, 1, none⟩ (.map (some (w.heap.size + 1)))).alloc (.cells #[.int .i64 e.1, (Value.int .i64 (e.2))] 67)).heap.size = w.heap.size + 1 := by simp
  have hbx : ((((w.setCell ⟨hb, 1, none⟩ (.map (some (w.heap.size + 1)))).alloc (.cells #[.int .i64 e.1, (Value.int .i64 (e.2))] 67)).alloc (.map #[] 0)).heap)[w.heap.size]? = some (.cells #[.int .i64 e.1, (Value.int .i64 (e.2))] 67 (0, 0)) := by
    rw [Below.heap_alloc _ _ _ (by rw [hsz2]; omega)]; have := heap_alloc_new (w.setCell ⟨hb, 1, none⟩ (.map (some (w.heap.size + 1)))) (.cells #[.int .i64 e.1, (Value.int .i64 (e.2))] 67); rw [hsz] at this; exact this
  have H1 : HeapAtI (((w.setCell ⟨hb, 1, none⟩ (.map (some (w.heap.size + 1)))).alloc (.cells #[.int .i64 e.1, (Value.int .i64 (e.2))] 67)).alloc (.map #[] 0)) hb (.slice (some ⟨g, 0, none⟩) s.l.length cap) (some b) s n := by
    subst hbq
    have hmm := (MapIs.made ((w.setCell ⟨hb, 1, none⟩ (.map (some (w.heap.size + 1)))).alloc (.cells #[.int .i64 e.1, (Value.int .i64 (e.2))] 67))).mono (Nat.zero_le n)
    have hf : s.f = fun _ => none := funext H.map
    refine ⟨?_, ?_, ?_⟩
    · rw [Below.heap_alloc _ _ _ (by rw [hsz2]; omega), Below.heap_alloc _ _ _ (by rw [hsz]; omega), setCell_eq_setRow _ hb 1 _ _ _ _ H.hd, setRow_heap _ hb _ _ _ _ H.hd]; rfl
    · refine H.row.kept fun g' hg' => ?_
      simp [Value.ownBlock] at hg'; subst hg'
      rw [Below.heap_alloc _ _ _ (by rw [hsz2]; omega), Below.heap_alloc _ _ _ (by rw [hsz]; omega), Below.heap_setCell _ _ _ _ hgb]
    · rw [hf]
      rw [hsz2] at hmm
      exact hmm
  have c0 := H1.c0
  have c1 := H1.c1
  have d0 : (((w.setCell ⟨hb, 1, none⟩ (.map (some (w.heap.size + 1)))).alloc (.cells #[.int .i64 e.1, (Value.int .i64 (e.2))] 67)).alloc (.map #[] 0)).cell? ⟨w.heap.size, 0, none⟩ = some (.int .i64 e.1) := by rw [cell_of_row _ _ 0 _ _ _ hbx]; rfl
  have d1 : (((w.setCell ⟨hb, 1, none⟩ (.map (some (w.heap.size + 1)))).alloc (.cells #[.int .i64 e.1, (Value.int .i64 (e.2))] 67)).alloc (.map #[] 0)).cell? ⟨w.heap.size, 1, none⟩ = some (Value.int .i64 (e.2)) := by rw [cell_of_row _ _ 1 _ _ _ hbx]; rfl
  have hfr := World.ownsRow.frozenAt H1.row
  have hfr0 := hfr (i * 2)
  have hfr1 := hfr (i * 2 + 1)
  obtain ⟨o0, o1⟩ := H1.row.cell (List.getElem?_eq_getElem hi)
  have hi' : (i : Int) < (s.l.length : Int) := by omega
  have hi0 : (0 : Int) ≤ (i : Int) := by omega
  have hif : Fits (i : Int) := WalkArith.wf_i64 (by omega)
  have k1 : Chg (foot hb (.slice (some ⟨g, 0, none⟩) s.l.length cap) none) w (((w.setCell ⟨hb, 1, none⟩ (.map (some (w.heap.size + 1)))).alloc (.cells #[.int .i64 e.1, (Value.int .i64 (e.2))] 67)).alloc (.map #[] 0)) :=
    ((Chg.setCell (p := ⟨hb, 1, none⟩) (Chg.refl _ w) (fun _ => .inl rfl) _).alloc _).alloc _
  have hBg : w.heap.size ≠ g := by omega
  have hBb : w.heap.size ≠ hb := by omega
  have hn2 : NewI w b := by unfold NewI; omega
  clear hsz hsz2 hbq
  have hq := map_eql none
  simp only [Option.isNone_none] at hq
  have hmk := run_make_pos
  go_enter Try.func34, Try.ntmps34
  go_wp2
  generalize (((w.setCell ⟨hb, 1, none⟩ (.map (some (w.heap.size + 1)))).alloc (.cells #[.int .i64 e.1, (Value.int .i64 (e.2))] 67)).alloc (.map #[] 0)) = W1 at *
  generalize w.heap.size = B at *
  go_region
  have r2 : EntsI ((W1.setCell ⟨g, i * 2, none⟩ (.int .i64 e.1)).setCell ⟨g, i * 2 + 1, none⟩ (Value.int .i64 (e.2))) (.slice (some ⟨g, 0, none⟩) s.l.length cap) (s.l.set i e) := EntsI.set H1.row i e
  have hgb : g ≠ hb := fun e => H1.ne_row (by rw [← e]; rfl)
  have hgm : b ≠ g := fun e => H1.ne_rm rfl (by rw [e])
  have h2 : ((W1.setCell ⟨g, i * 2, none⟩ (.int .i64 e.1)).setCell ⟨g, i * 2 + 1, none⟩ (Value.int .i64 (e.2))).heap[hb]? = some (.cells #[.slice (some ⟨g, 0, none⟩) s.l.length cap, .map (some b)] 64 (0, 0)) := by
    rw [Below.heap_setCell _ _ _ _ (fun e => hgb e.symm), Below.heap_setCell _ _ _ _ (fun e => hgb e.symm)]; exact H1.hd
  have hB2 : ((W1.setCell ⟨g, i * 2, none⟩ (.int .i64 e.1)).setCell ⟨g, i * 2 + 1, none⟩ (Value.int .i64 (e.2))).heap[B]? = some (.cells #[.int .i64 e.1, (Value.int .i64 (e.2))] 67 (0, 0)) := by
    rw [Below.heap_setCell _ _ _ _ (fun e => hBg e), Below.heap_setCell _ _ _ _ (fun e => hBg e)]; exact hbx
  have m2 : MapIs ((W1.setCell ⟨g, i * 2, none⟩ (.int .i64 e.1)).setCell ⟨g, i * 2 + 1, none⟩ (Value.int .i64 (e.2))) (some b) n s.f := H1.map.kept fun b' hb' => by
    injection hb' with hb'; subst hb'
    rw [Below.heap_setCell _ _ _ _ hgm, Below.heap_setCell _ _ _ _ hgm]
  have k2 :=
    Chg.setCell (u := (Value.int .i64 (e.2))) (p := ⟨g, i * 2 + 1, none⟩) (Chg.setCell (p := ⟨g, i * 2, none⟩) k1 (fun _ => .inr (.inl rfl)) (.int .i64 e.1)) (fun _ => .inr (.inl rfl))
  generalize (W1.setCell ⟨g, i * 2, none⟩ (.int .i64 e.1)).setCell ⟨g, i * 2 + 1, none⟩ (Value.int .i64 (e.2)) = W2 at *
  clear c0 c1 d0 d1 o0 o1 hfr hfr0 hfr1 hbx hq
  have c0 : W2.cell? ⟨hb, 0, none⟩ = some (.slice (some ⟨g, 0, none⟩) s.l.length cap) := by rw [cell_of_row W2 hb 0 _ _ _ h2]; rfl
  have c1 : W2.cell? ⟨hb, 1, none⟩ = some (.map (some b)) := by rw [cell_of_row W2 hb 1 _ _ _ h2]; rfl
  have d0 : W2.cell? ⟨B, 0, none⟩ = some (.int .i64 e.1) := by rw [cell_of_row W2 B 0 _ _ _ hB2]; rfl
  obtain ⟨W3, hrun, m3, g3⟩ := MapIs.store (w := W2.drew.drew) (b := b) (n := n) (f := s.f) m2 he hif hn
  go_wp2
  go_region
  go_end0
  have hk : ∀ k, k < W2.heap.size → k ≠ b → W3.heap[k]? = W2.heap[k]? := fun k hk hne => g3.block k hk (fun e => hne (by injection e))
  refine ⟨⟨_, rfl⟩, ⟨?_, ?_, m3⟩, ?_⟩
  · rw [hk hb (Array.getElem?_eq_some_iff.1 h2).1 (fun e => H1.ne_map (by rw [e]))]; exact h2
  · have r3 : EntsI W3 (.slice (some ⟨g, 0, none⟩) s.l.length cap) (s.l.set i e) := r2.kept fun g' hg' => by
      simp [Value.ownBlock] at hg'; subst hg'
      exact hk g ((World.ownsRow.lt r2 g rfl).2) (fun e => hgm e.symm)
    exact r3
  · exact k2.drew.drew.grown g3 fun j hj hlt => by injection hj with hj; subst hj; exact absurd hlt (Nat.not_lt.2 hn2)
end Go.Proofs.Ytkdabnhhjjmibaa
