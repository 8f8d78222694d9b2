/- Put. -/
import Derived.Test.YtkdabnhhjjmibaaHS6
namespace Go.Proofs.Ytkdabnhhjjmibaa
open Go.RowKit Go.Lib Hp

theorem infoEntS : (Try.prog.info? 73).map (fun i => (i.zero, i.size, i.bytes)) = some (some (.agg #[.int .i64 0, (Value.string ⟨List.toArray ([])⟩)]), 2, 24) := by kernel_rfl

/-- The world behind 'h.entries = append(h.entries, entry{})'. -/
theorem grow_heapS {hb : Nat} {v : Value} {m : Option Nat} {s : St KS} {n : Nat} {w wa w1 : World} {g cap : Nat} {z : Int × KS} (H : HeapAtS w hb v m s n) (hb1 : Below w.heap.size w wa)
    (hown : w1.ownsRow 0 73 2 (.slice (some ⟨g, 0, none⟩) (s.l.length + 1) cap) (s.l.length + 1) (ecsS s.l ++ [.int .i64 z.1, (Value.string ⟨List.toArray (z.2)⟩)])) (hgr : wa.grownBy w1 v.ownBlock) (hat : v.ownBlock = some g ∨ w.heap.size ≤ g) :
    HeapAtS (w1.setCell ⟨hb, 0, none⟩ (.slice (some ⟨g, 0, none⟩) (s.l.length + 1) cap)) hb (.slice (some ⟨g, 0, none⟩) (s.l.length + 1) cap) m ⟨s.l ++ [z], s.f⟩ n ∧
      Moved hb v m (.slice (some ⟨g, 0, none⟩) (s.l.length + 1) cap) m w (w1.setCell ⟨hb, 0, none⟩ (.slice (some ⟨g, 0, none⟩) (s.l.length + 1) cap)) := by
  have hbl := H.lt hb (.inl rfl)
  have hk : ∀ k, k < w.heap.size → some k ≠ v.ownBlock → w1.heap[k]? = w.heap[k]? := fun k hk hne => (hgr.block k (Nat.lt_of_lt_of_le hk hb1.size) hne).trans (hb1.block k hk)
  have hh : w1.heap[hb]? = some (.cells #[v, .map m] 71 (0, 0)) := (hk hb hbl (fun e => H.ne_row e.symm)).trans H.hd
  have hgb : g ≠ hb := fun e => by
    rcases hat with h | h
    · exact H.ne_row (by rw [h, e])
    · omega
  refine ⟨⟨?_, ?_, ?_⟩, ⟨?_, ?_⟩⟩
  · rw [setCell_eq_setRow _ hb 0 _ _ _ _ hh, setRow_heap _ hb _ _ _ _ hh]; rfl
  · have hr : EntsS w1 (.slice (some ⟨g, 0, none⟩) (s.l.length + 1) cap) (s.l ++ [z]) := by
      unfold EntsS
      rw [ecs_appendS, List.length_append]
      exact hown
    refine hr.kept fun g' hg' => ?_
    simp [Value.ownBlock] at hg'; subst hg'
    rw [Below.heap_setCell _ _ _ _ hgb]
  · refine H.map.kept fun b hb' => ?_
    rw [Below.heap_setCell _ _ _ _ (fun e => H.ne_map (by rw [hb', e])), hk b (H.lt b (.inr (.inr hb'))) (fun e => H.ne_rm e.symm hb')]
  · refine Chg.setCell (p := ⟨hb, 0, none⟩) ((Chg.of_below _ hb1).grown hgr (fun i hi _ => .inr (.inl hi))) (fun _ => .inl rfl) _
  · rintro k (h | h | h)
    · exact .inl (.inl h)
    · simp [Value.ownBlock] at h; subst h
      rcases hat with h | h
      · exact .inl (.inr (.inl h))
      · exact .inr h
    · exact .inl (.inr (.inr h))

theorem put_anyS (hb : Nat) (v : Value) (m : Option Nat) (x : List (Int × KS)) (n : Nat) (y : Int) (k : KS) (w : World) (H : RepS w hb v m x n) (hy : Fits y) (hl : x.length ≤ 10000) (hn : n ≤ 10000000) :
    Calls Try.prog 24 #[.pointer (some ⟨hb, 0, none⟩), .int .i64 y, (Value.string ⟨List.toArray (k)⟩)] w fun r w' => (∃ v, r = .returned v) ∧ ∃ v' m', RepS w' hb v' m' (rput x y k) (n + 2 * x.length + 3) ∧ Moved hb v m v' m' w w' := by
  obtain ⟨s, H, hg, nd, hx⟩ := H
  have hlx : s.l.length = x.length := hg.len
  have c1 := H.c1
  have c0 := H.c0
  have hx' : ∀ a ∈ rput x y k, Fits a.1 := fun a ha => by
    rcases (mem_rput nd a).1 ha with rfl | ⟨h, _⟩
    · exact hy
    · exact hx a h
  obtain ⟨c, hrun, hc⟩ := H.map.look hy
  cases hf : s.f y with
  | some i =>
    obtain rfl := hc i hf
    rw [hf] at hrun
    simp only [Option.isSome_some] at hrun
    have ho := hg.free strictS nd (e := (y, k)) hf
    go_enter Try.func24, Try.ntmps24
    go_wp2_with (go_at_call 29; refine (settle_anyS hb v m s n i (y, k) _ w H ho (by omega) hx' (by unfold maxLen; omega)).mono ?_; rintro r w2 ⟨⟨v2, rfl⟩, m2, s2, H2, hg2, M2⟩)
    go_end0
    exact ⟨⟨_, rfl⟩, v, m2, ⟨s2, H2.mono (by omega), hg2, nd_rput nd _ _, hx'⟩, M2⟩
  | none =>
    rw [hf] at hrun
    simp only [Option.isSome_none] at hrun
    obtain ⟨i0, hi, hz0, hz1, hz2⟩ := info_parts infoEntS
    have hrow : (w.alloc (.cells #[.int .i64 0, (Value.string ⟨List.toArray ([])⟩)] 73)).ownsRow 0 73 2 v s.l.length (ecsS s.l) := World.ownsRow.alloc H.row _
    have hnews := World.news_of_block (heap_alloc_new w (.cells #[.int .i64 0, (Value.string ⟨List.toArray ([])⟩)] 73))
    have hone : ∀ u ∈ [Value.int .i64 0, (Value.string ⟨List.toArray ([])⟩)], u.oneCell' = true := by intro u hu; simp at hu; rcases hu with rfl | rfl <;> rfl
    have hbig : s.l.length + 1 ≤ 1000000 := by omega
    have h63 : s.l.length + 1 ≤ maxLen := by unfold maxLen; omega
    have hby : (s.l.length + 1) * 24 ≤ 140737488355328 := by omega
    have hsz : (w.alloc (.cells #[.int .i64 0, (Value.string ⟨List.toArray ([])⟩)] 73)).heap.size = w.heap.size + 1 := World.size_alloc _ _
    have hb1 : Below w.heap.size w (w.alloc (.cells #[.int .i64 0, (Value.string ⟨List.toArray ([])⟩)] 73)) := (Below.refl _ _).alloc (Nat.le_refl _) _
    have hbl := H.lt hb (.inl rfl)
    have hne := H.ne_row
    have hfr := H.fr 0
    have hn2 : n + 2 * (s.l.length + 1) + 1 < maxLen := by unfold maxLen; omega
    have hlx' := Lib.hid hlx
    have H' := Lib.hid H
    clear hlx H
    have hap := hg.append nd (e := (y, k)) (0, []) hf
    obtain ⟨A, cap, hv⟩ := H'.out.row.form
    have c0' := c0
    rw [hv] at c0
    have far : ∀ w1 : World, (w.alloc (.cells #[.int .i64 0, (Value.string ⟨List.toArray ([])⟩)] 73)).grownBy w1 v.ownBlock → w1.cell? ⟨hb, 0, none⟩ = some (.slice A s.l.length cap) ∧ w1.frozen? ⟨hb, 0, none⟩ = false := fun w1 hgr =>
      ⟨(hgr.cell_far ⟨hb, 0, none⟩ (by rw [hsz]; show hb < _; omega) (fun e => hne e.symm)).trans (cell_keep c0 hb1), (hgr.frozen_far ⟨hb, 0, none⟩ (by rw [hsz]; show hb < _; omega) (fun e => hne e.symm)).trans ((hb1.frozen hbl).trans hfr)⟩
    have far := Lib.hid far
    go_enter Try.func24, Try.ntmps24
    go_wp2_with (at_builtin; refine wpList_append_lies _ rfl _ _ 69 rfl 0 73 i0 _ 2 24 Try.underlying69 hi hz0 hz1 hz2 rfl (by decide) v s.l.length (ecsS s.l) hv.symm hrow ⟨w.heap.size, 0, none⟩ 1 1 [.int .i64 0, (Value.string ⟨List.toArray ([])⟩)] rfl rfl hnews hone (by decide) h63 hby (Nat.zero_le _) (w.heap.size + 1) hsz ?_; intro g cap' w1 hown hgr hat hlt; obtain ⟨f0, f1⟩ := far.out w1 hgr)
    have hat' : v.ownBlock = some g ∨ w.heap.size ≤ g := hat.imp_right (fun h => by omega)
    obtain ⟨H2, M2⟩ := grow_heapS (z := (0, [])) H'.out hb1 hown hgr hat'
    have hlen : (s.l ++ [(0, [])]).length = s.l.length + 1 := by simp
    refine (settle_anyS hb _ m ⟨s.l ++ [(0, [])], s.f⟩ n s.l.length (y, k) _ _ H2 hap (by show (s.l ++ [_]).length ≤ _; rw [hlen]; exact hbig) hx' (by show n + 2 * (s.l ++ [_]).length + 1 < _; rw [hlen]; exact hn2)).mono ?_
    rintro r w3 ⟨⟨v3, rfl⟩, m3, s3, H3, hg3, M3⟩
    have hlen3 : n + 2 * (s.l ++ [(0, [])]).length + 1 ≤ n + 2 * x.length + 3 := by rw [hlen, hlx'.out]; omega
    have H3 := Lib.hid (H3.mono hlen3)
    go_wp2
    go_end0
    exact ⟨⟨_, rfl⟩, _, m3, ⟨s3, H3.out, hg3, nd_rput nd _ _, hx'⟩, M2.trans M3⟩
end Go.Proofs.Ytkdabnhhjjmibaa
