/- Remove, Pop. -/
import Derived.Test.YtkdabnhhjjmibaaHI7
namespace Go.Proofs.Ytkdabnhhjjmibaa
open Go.RowKit Go.Lib Hp

theorem remove_noneI (hb : Nat) (v : Value) (m : Option Nat) (x : List (Int × KI)) (n : Nat) (y : Int) (w : World) (H : RepI w hb v m x n) (hy : Fits y) (hh : rhas x y = false) :
    Calls Try.prog 16 #[.pointer (some ⟨hb, 0, none⟩), .int .i64 y] w fun r w' => r = .returned (.bool false) ∧ w = w' := by
  obtain ⟨s, H, hg, nd, hx⟩ := H
  have c1 := H.c1
  have h1 := hg.has y
  rw [hh] at h1
  obtain ⟨c, hrun, hc⟩ := H.map.look hy
  rw [← h1] at hrun
  clear h1
  go_enter Try.func16, Try.ntmps16
  go_wp2
  go_ret
  exact ⟨rfl, rfl⟩

/-- The world behind 'h.entries[end] = entry{}; h.entries = h.entries[:end]'. -/
theorem shrink_heapI {hb g cap b N : Nat} {l : List (Int × KI)} {f : Int → Option Nat} {n : Nat} {w1 : World} {z : Int × KI} {o : Obj} (H : HeapAtI w1 hb (.slice (some ⟨g, 0, none⟩) l.length cap) (some b) ⟨l, f⟩ n) (hN : N ≤ l.length) :
    HeapAtI ((((w1.setCell ⟨g, N * 2, none⟩ (.int .i64 z.1)).setCell ⟨g, N * 2 + 1, none⟩ (Value.int .i64 (z.2))).setCell ⟨hb, 0, none⟩ (.slice (some ⟨g, 0, none⟩) N cap)).alloc o) hb (.slice (some ⟨g, 0, none⟩) N cap) (some b) ⟨l.take N, f⟩ n ∧
      Moved hb (.slice (some ⟨g, 0, none⟩) l.length cap) (some b) (.slice (some ⟨g, 0, none⟩) N cap) (some b) w1 ((((w1.setCell ⟨g, N * 2, none⟩ (.int .i64 z.1)).setCell ⟨g, N * 2 + 1, none⟩ (Value.int .i64 (z.2))).setCell ⟨hb, 0, none⟩ (.slice (some ⟨g, 0, none⟩) N cap)).alloc o) := by
  have hbl := H.lt hb (.inl rfl)
  have hgb : g ≠ hb := fun e => H.ne_row (by rw [← e]; rfl)
  have hbg : b ≠ g := fun e => H.ne_rm rfl (by rw [e])
  have hbb : b ≠ hb := fun e => H.ne_map (by rw [e])
  have h2 : ((w1.setCell ⟨g, N * 2, none⟩ (.int .i64 z.1)).setCell ⟨g, N * 2 + 1, none⟩ (Value.int .i64 (z.2))).heap[hb]? = some (.cells #[.slice (some ⟨g, 0, none⟩) l.length cap, .map (some b)] 64 (0, 0)) := by
    rw [Below.heap_setCell _ _ _ _ (fun e => hgb e.symm), Below.heap_setCell _ _ _ _ (fun e => hgb e.symm)]; exact H.hd
  refine ⟨⟨?_, ?_, ?_⟩, ⟨?_, ?_⟩⟩
  · rw [Below.heap_alloc _ _ _ (by simp; omega), setCell_eq_setRow _ hb 0 _ _ _ _ h2, setRow_heap _ hb _ _ _ _ h2]; rfl
  · have r2 : EntsI ((w1.setCell ⟨g, N * 2, none⟩ (.int .i64 z.1)).setCell ⟨g, N * 2 + 1, none⟩ (Value.int .i64 (z.2))) (.slice (some ⟨g, 0, none⟩) (l.set N z).length cap) (l.set N z) := by rw [List.length_set]; exact EntsI.set H.row N z
    have r3 := r2.take (k := N) (by simpa using hN)
    have e : (l.set N z).take N = l.take N := by rw [List.take_set]; exact List.set_eq_of_length_le (by simp; omega)
    rw [e] at r3
    refine r3.kept fun g' hg' => ?_
    simp [Value.ownBlock] at hg'; subst hg'
    have hgl := H.lt g (.inr (.inl rfl))
    rw [Below.heap_alloc _ _ _ (by simp; omega), Below.heap_setCell _ _ _ _ hgb]
  · refine H.map.kept fun b' hb' => ?_
    injection hb' with hb'; subst hb'
    have hbl := H.lt b (.inr (.inr rfl))
    rw [Below.heap_alloc _ _ _ (by simp; omega), Below.heap_setCell _ _ _ _ hbb, Below.heap_setCell _ _ _ _ hbg, Below.heap_setCell _ _ _ _ hbg]
  · exact (Chg.setCell (p := ⟨hb, 0, none⟩) (Chg.setCell (p := ⟨g, N * 2 + 1, none⟩) (Chg.setCell (p := ⟨g, N * 2, none⟩) (Chg.refl _ w1) (fun _ => .inr (.inl rfl)) _) (fun _ => .inr (.inl rfl)) _) (fun _ => .inl rfl) _).alloc _
  · rintro k (h | h | h)
    · exact .inl (.inl h)
    · exact .inl (.inr (.inl h))
    · exact .inl (.inr (.inr h))

theorem remove_someI (hb : Nat) (v : Value) (m : Option Nat) (x : List (Int × KI)) (n : Nat) (y : Int) (w : World) (H : RepI w hb v m x n) (hy : Fits y) (hl : x.length ≤ 10000) (hn : n ≤ 10000000) (hh : rhas x y = true) :
    Calls Try.prog 16 #[.pointer (some ⟨hb, 0, none⟩), .int .i64 y] w fun r w' => r = .returned (.bool true) ∧ ∃ v' m', RepI w' hb v' m' (rdrop x y) (n + 2 * x.length + 3) ∧ Moved hb v m v' m' w w' := by
  obtain ⟨s, H, hg, nd, hx⟩ := H
  have hlx : s.l.length = x.length := hg.len
  have c1 := H.c1
  have c0 := H.c0
  have hx' : ∀ a ∈ rdrop x y, Fits a.1 := fun a ha => hx a ((mem_rdrop nd a).1 ha).1
  obtain ⟨c, hrun, hc⟩ := H.map.look hy
  have h1 := hg.has y
  rw [hh] at h1
  rw [← h1] at hrun
  obtain ⟨i, hf⟩ : ∃ i, s.f y = some i := by
    cases hf : s.f y with
    | none => rw [hf] at h1; cases h1
    | some i => exact ⟨i, rfl⟩
  obtain rfl := hc i hf
  clear h1
  obtain ⟨b, rfl⟩ : ∃ b, m = some b := by
    cases m with
    | none => have := H.map y; rw [hf] at this; cases this
    | some b => exact ⟨b, rfl⟩
  obtain ⟨a, ha, ea⟩ := hg.back _ _ hf
  have hil := (List.getElem?_eq_some_iff.1 ha).1
  obtain ⟨g, cap, rfl⟩ := H.row.form' (by omega)
  obtain ⟨N, hN⟩ : ∃ N, N + 1 = s.l.length := ⟨s.l.length - 1, by omega⟩
  obtain ⟨e, he⟩ : ∃ e, s.l[N]? = some e := ⟨_, List.getElem?_eq_getElem (by omega)⟩
  obtain ⟨q0, q1⟩ := H.row.cell he
  have hN2 : IntKind.i64.wrap ((s.l.length : Int) - 1) = (N : Int) := by rw [IntKind.wrap_i64]; omega
  have hN3 : (0 : Int) ≤ (N : Int) := by omega
  have hN4 : (N : Int) < (s.l.length : Int) := by omega
  have hfr := World.ownsRow.frozenAt H.row
  have hcapN : (N : Int) ≤ (cap : Int) := by
    rcases H.row.2 with ⟨h, _⟩ | ⟨g', cap', cur, h, _, _, h2, _⟩
    · cases h
    · simp only [Value.slice.injEq, Option.some.injEq, Addr.mk.injEq, and_true, true_and] at h; omega
  have hlx' := Lib.hid hlx
  have hN' := Lib.hid hN
  clear hlx hN
  have hq := H.map
  have far : ∀ w1, MapIs w1 (some b) n (del s.f y) → w.grownBy w1 (some b) → HeapAtI w1 hb (.slice (some ⟨g, 0, none⟩) s.l.length cap) (some b) ⟨s.l, del s.f y⟩ n ∧ w1.cell? ⟨hb, 0, none⟩ = some (.slice (some ⟨g, 0, none⟩) s.l.length cap) ∧
      w1.cell? ⟨g, N * 2, none⟩ = some (.int .i64 e.1) ∧ w1.cell? ⟨g, N * 2 + 1, none⟩ = some (Value.int .i64 (e.2)) ∧ w1.frozen? ⟨hb, 0, none⟩ = false ∧ w1.frozen? ⟨g, N * 2, none⟩ = false ∧ w1.frozen? ⟨g, N * 2 + 1, none⟩ = false ∧ g < w1.heap.size ∧ hb < w1.heap.size := fun w1 m1 g1 => by
    have hk : ∀ k, k < w.heap.size → k ≠ b → w1.heap[k]? = w.heap[k]? := fun k hk hne => g1.block k hk (fun e => hne (by injection e))
    have h2 : HeapAtI w1 hb (.slice (some ⟨g, 0, none⟩) s.l.length cap) (some b) ⟨s.l, del s.f y⟩ n := by
      refine ⟨(hk hb (H.lt hb (.inl rfl)) (fun e => H.ne_map (by rw [e]))).trans H.hd, H.row.kept fun g' hg' => ?_, m1⟩
      exact hk g' (H.lt g' (.inr (.inl hg'))) (fun e => H.ne_rm hg' (by rw [e]))
    obtain ⟨r0, r1⟩ := EntsI.cell (l := s.l) h2.row he
    exact ⟨h2, h2.c0, r0, r1, h2.fr 0, World.ownsRow.frozenAt h2.row _, World.ownsRow.frozenAt h2.row _, h2.lt g (.inr (.inl rfl)), h2.lt hb (.inl rfl)⟩
  have far := Lib.hid far
  have H' := Lib.hid H
  have hgb : ¬ g = hb := fun e => H.ne_row (by rw [← e]; rfl)
  clear H c0 q0 q1 hfr
  go_enter Try.func16, Try.ntmps16
  go_wp2_with (at_delete; refine wpList_del_pos rfl _ _ rfl b rfl hq hy rfl rfl ?_; intro w1 m1 g1; obtain ⟨H1, c0, q0, q1, f0, f1, f2, l0, l1⟩ := far.out w1 m1 g1; clear c1 hrun hq)
  · rename_i hlt
    have hlt' : i < N := by omega
    obtain ⟨H2, M2⟩ := shrink_heapI (z := (0, 0)) (o := .cells #[.int .i64 e.1, (Value.int .i64 (e.2))] 67) H1 (N := N) (by have := hN'.out; omega)
    have M1 : Moved hb (.slice (some ⟨g, 0, none⟩) s.l.length cap) (some b) (.slice (some ⟨g, 0, none⟩) s.l.length cap) (some b) w w1 := ⟨(Chg.refl _ w).grown g1 (fun j hj _ => .inr (.inr hj)), fun _ h => .inl h⟩
    have hlen : (s.l.take N).length = N := by simp; have := hN'.out; omega
    have hNx : N + 1 = x.length := hN'.out.trans hlx'.out
    refine (settle_anyI hb _ (some b) ⟨s.l.take N, del s.f y⟩ n i e _ _ H2 (hg.dropHole strictI nd hf hN'.out hlt' he) (by show (s.l.take N).length ≤ _; rw [hlen]; omega) hx' (by show n + 2 * (s.l.take N).length + 1 < _; rw [hlen]; unfold maxLen; omega)).mono ?_
    rintro r w3 ⟨⟨v3, rfl⟩, m3, s3, H3, hg3, M3⟩
    have hlen3 : n + 2 * (s.l.take N).length + 1 ≤ n + 2 * x.length + 3 := by rw [hlen]; omega
    have H3 := Lib.hid (H3.mono hlen3)
    have M4 := (M1.trans M2).trans M3
    clear M1 M2 M3 H1 H2
    go_wp2
    go_ret
    exact ⟨rfl, _, m3, ⟨s3, H3.out, hg3, nd_rdrop nd _, hx'⟩, M4⟩
  · rename_i hlt
    have hNs := hN'.out
    obtain rfl : i = N := by omega
    obtain ⟨H2, M2⟩ := shrink_heapI (z := (0, 0)) (o := .cells #[.int .i64 e.1, (Value.int .i64 (e.2))] 67) H1 (N := i) (by omega)
    have M1 : Moved hb (.slice (some ⟨g, 0, none⟩) s.l.length cap) (some b) (.slice (some ⟨g, 0, none⟩) s.l.length cap) (some b) w w1 := ⟨(Chg.refl _ w).grown g1 (fun j hj _ => .inr (.inr hj)), fun _ h => .inl h⟩
    go_ret
    exact ⟨rfl, _, _, ⟨_, H2.mono (by omega), hg.dropLast strictI nd hf hNs, nd_rdrop nd _, hx'⟩, M1.trans M2⟩

theorem remove_anyI (hb : Nat) (v : Value) (m : Option Nat) (x : List (Int × KI)) (n : Nat) (y : Int) (w : World) (H : RepI w hb v m x n) (hy : Fits y) (hl : x.length ≤ 10000) (hn : n ≤ 10000000) :
    Calls Try.prog 16 #[.pointer (some ⟨hb, 0, none⟩), .int .i64 y] w fun r w' => r = .returned (.bool (rhas x y)) ∧ ∃ v' m', RepI w' hb v' m' (rdrop x y) (n + 2 * x.length + 3) ∧ Moved hb v m v' m' w w' := by
  cases hh : rhas x y
  · refine (remove_noneI hb v m x n y w H hy hh).mono ?_
    rintro r w' ⟨rfl, rfl⟩
    exact ⟨rfl, v, m, by rw [rdrop_none hh]; exact H.mono (by omega), Moved.refl _ _ _ _⟩
  · exact remove_someI hb v m x n y w H hy hl hn hh

theorem pop_noneI (hb : Nat) (v : Value) (m : Option Nat) (n : Nat) (w : World) (H : RepI w hb v m [] n) : Calls Try.prog 13 #[.pointer (some ⟨hb, 0, none⟩)] w fun r w' => r = .returned (.tuple #[.int .i64 0, (Value.int .i64 (0)), .bool false]) ∧ Below w.heap.size w w' := by
  go_enter Try.func13, Try.ntmps13
  go_wp2_with (go_at_call 28; refine (min_noneI hb v m n w H).mono ?_; rintro r w2 ⟨rfl, b2⟩)
  go_ret3
  exact ⟨rfl, b2⟩

theorem pop_someI (hb : Nat) (v : Value) (m : Option Nat) (x : List (Int × KI)) (n : Nat) (w : World) (H : RepI w hb v m x n) (h0 : 0 < x.length) (hl : x.length ≤ 10000) (hn : n ≤ 10000000) : Calls Try.prog 13 #[.pointer (some ⟨hb, 0, none⟩)] w fun r w' =>
    ∃ a, IsTop ltI x a ∧ r = .returned (.tuple #[.int .i64 a.1, (Value.int .i64 (a.2)), .bool true]) ∧ ∃ v' m', RepI w' hb v' m' (rdrop x a.1) (n + 2 * x.length + 3) ∧ Moved hb v m v' m' w w' := by
  have H' := Lib.hid H
  clear H
  go_enter Try.func13, Try.ntmps13
  go_wp2_with fail
  refine (min_someI hb v m x n w H'.out h0).mono ?_
  rintro r w2 ⟨a, ht, rfl, b2⟩
  have H2 := Lib.hid (H'.out.below b2)
  have hfa := H'.out.fits a ht.1
  have ht := Lib.hid ht
  go_wp2_with (go_at_call 16; refine (remove_anyI hb v m x n a.1 w2 H2.out hfa hl hn).mono ?_; rintro r w3 ⟨rfl, v3, m3, H3, M3⟩)
  have H3 := Lib.hid H3
  go_ret3
  exact ⟨a, ht.out, rfl, v3, m3, H3.out, (Moved.of_below b2).trans M3⟩
end Go.Proofs.Ytkdabnhhjjmibaa
