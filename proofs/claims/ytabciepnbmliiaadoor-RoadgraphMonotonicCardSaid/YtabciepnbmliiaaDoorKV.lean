/- made; the document's example. -/
import Derived.Test.YtabciepnbmliiaaDoorKE
set_option linter.unusedVariables false
set_option linter.unusedSimpArgs false
set_option maxRecDepth 100000
namespace Go.Proofs.YtabciepnbmliiaaDoor
open Go.RowKit Go.Lib Go.Shelf Rg Nds

section
variable {ops : Array Oper} {rest : List Oper} {o : Oper} {a : Act} {w : World} {Q : Exit → Act → World → Prop}
theorem wpList_load_mid (x : Operand) (g off : Nat) (p : Nat → Bool) (hw : Region.wanted o (yielded ops a.tmps) = true) (ho : o.op = .load 53 x) (hx : a.eval x = .pointer (some ⟨g, off, none⟩)) (hr : (loadVar 53 ⟨g, off, none⟩).run Tryd.prog w = .ok (.agg (cells p)) w)
    (h : wpList Tryd.prog ops Q rest (a.put o.dst (.agg (cells p))) w) : wpList Tryd.prog ops Q (o :: rest) a w :=
  wpList_step fun K hK => by
    rw [if_pos hw]
    unfold Oper.wp execOp
    simp only [ho, hx, Instr.loadAt, Instr.sureAddr, Sem.run_bind, Sem.run_pure, Result.andThen_ok, hr]
    exact hK _ _ h
end
theorem ei_sorted_self {xs : List Int} (h : xs.Pairwise (fun a b => a < b)) (hn : ∀ x ∈ xs, 0 ≤ x ∧ x < 4096) : ei (ofP xs) = xs := by
  refine (eq_ei h fun x => ?_).symm
  unfold ofP
  constructor
  · intro hx
    have := hn x hx
    exact ⟨this.1, this.2, by rw [decide_eq_true_iff, show ((x.toNat : Nat) : Int) = x by omega]; exact hx⟩
  · rintro ⟨h0, h1, h2⟩
    rw [decide_eq_true_iff, show ((x.toNat : Nat) : Int) = x by omega] at h2
    exact h2

/-- What made gives. -/
def MadeGives (w : World) (N : Int) (l : List Ed3) (e : Ending) (w' : World) : Prop :=
  Below w.heap.size w w' ∧ ((wrong N l ≠ 0 ∧ e = .returned (.tuple #[.pointer none, .bool false])) ∨
    (wrong N l = 0 ∧ ∃ lo G, e = .returned (.tuple #[.pointer (some ⟨G, 0, none⟩), .bool true]) ∧ w.heap.size ≤ lo ∧ GrP w' lo w'.heap.size G N.toNat l))
theorem made_any (v : Value) (N : Int) (l : List Ed3) (w : World) (h : NetIn w v N l) : Calls Tryd.prog 17 #[v] w (MadeGives w N l) := by
  obtain ⟨a, cap, rfl, hr, hc, hm⟩ := h.ex
  have b1 : Below w.heap.size w (w.alloc (.cells #[.int .i64 N, .slice a l.length cap] 24)) := (Below.refl w.heap.size w).alloc (Nat.le_refl _) _
  have hnew := new_any a cap l.length l N _ (hr.below b1) (by omega)
  have HN := Lib.hid hnew
  have HB := Lib.hid b1
  clear h hr hnew b1
  go_enter Tryd.func17, Tryd.ntmps17
  go_wp2_with fail
  refine HN.out.mono ?_
  rintro e w2 ⟨hB, h⟩
  have hB2 := Lib.hid (then_ HB.out hB)
  rcases h with ⟨h0, rfl⟩ | ⟨h0, G, rfl, hG⟩
  · have hne : (wrong N l == 0) = false := by simp [h0]
    have H0 := Lib.hid h0; clear h0
    go_wp2_with fail
    go_ret2
    exact ⟨hB2.out, .inl ⟨H0.out, rfl⟩⟩
  · have HG := Lib.hid hG; clear hG
    have H0 := Lib.hid h0; clear h0
    go_wp2_with fail
    go_ret2
    exact ⟨hB2.out, .inr ⟨H0.out, _, G, rfl, by simp, HG.out⟩⟩

def exL : List Ed3 := [(0, 1, 2), (1, 0, 2), (1, 2, 9), (2, 3, inf)]
theorem ex_wrong : wrong 4 exL = 0 := by decide +kernel
theorem ex_parts : parts 4 exL = [[0, 1], [2], [3]] := by decide +kernel
theorem ex_ahead : aheadR 4 exL [0] = [0, 1, 2] := by decide +kernel
theorem ints_new (w : World) (xs : List Int) (h : 0 < xs.length) : Rd (w.alloc (.cells (xs.map (Value.int .i64)).toArray 3)) (some ⟨w.heap.size, 0, none⟩) xs.length xs := by
  refine ⟨rfl, fun _ => ⟨_, rfl, by simp, fun j hj => ?_⟩⟩
  have hadd : (⟨w.heap.size, 0, none⟩ : Addr).add j = ⟨w.heap.size, j, none⟩ := by unfold Addr.add; split <;> simp_all
  rw [hadd, cell_of_row _ _ j _ _ _ (heap_alloc_new w _)]
  simp [hj]
theorem ex_edges (w : World) : Re (w.alloc (.cells #[.int .i64 0, .int .i64 1, .int .i64 2, .int .i64 1, .int .i64 0, .int .i64 2, .int .i64 1, .int .i64 2, .int .i64 9, .int .i64 2, .int .i64 3, .int .i64 4611686018427387904] 35)) (some ⟨w.heap.size, 0, none⟩) 4 exL := by
  refine ⟨rfl, fun _ => ⟨_, rfl, fun j hj => ?_⟩⟩
  have hadd : ∀ k, (⟨w.heap.size, 0, none⟩ : Addr).add k = ⟨w.heap.size, k, none⟩ := fun k => by unfold Addr.add; split <;> simp_all
  have hadd2 : ∀ a k, (⟨w.heap.size, a, none⟩ : Addr).add k = ⟨w.heap.size, a + k, none⟩ := fun a k => by unfold Addr.add; split <;> simp_all
  have hc := fun k => cell_of_row (w.alloc (.cells #[.int .i64 0, .int .i64 1, .int .i64 2, .int .i64 1, .int .i64 0, .int .i64 2, .int .i64 1, .int .i64 2, .int .i64 9, .int .i64 2, .int .i64 3, .int .i64 4611686018427387904] 35)) w.heap.size k _ _ _ (heap_alloc_new w _)
  unfold T3
  rw [hadd, hadd2, hadd2, hc, hc, hc]
  have hj4 : j < 4 := hj
  match j, hj4 with
  | 0, _ => exact ⟨rfl, rfl, rfl⟩
  | 1, _ => exact ⟨rfl, rfl, rfl⟩
  | 2, _ => exact ⟨rfl, rfl, rfl⟩
  | 3, _ => exact ⟨rfl, rfl, rfl⟩
set_option maxHeartbeats 1000000 in
theorem wakes_any (w : World) (hE : Env w) : Calls Tryd.prog 10 #[] w fun e w' => e = .returned (.bool true) ∧ Below w.heap.size w w' := by
  have b1 : Below w.heap.size w (w.alloc (.cells #[.int .i64 0, .int .i64 1, .int .i64 2, .int .i64 1, .int .i64 0, .int .i64 2, .int .i64 1, .int .i64 2, .int .i64 9, .int .i64 2, .int .i64 3, .int .i64 4611686018427387904] 35)) := (Below.refl _ _).alloc (Nat.le_refl _) _
  have hnew := new_any (some ⟨w.heap.size, 0, none⟩) 4 4 exL 4 _ (ex_edges w) (by decide)
  have HN := Lib.hid hnew
  have HB := Lib.hid b1
  clear hnew b1
  go_enter Tryd.func10, Tryd.ntmps10
  go_wp2_with fail
  refine HN.out.mono ?_
  rintro e w1 ⟨hB1, h⟩
  rcases h with ⟨h0, _⟩ | ⟨_, G, rfl, hG⟩
  · exact absurd ex_wrong h0
  have HB1 := Lib.hid (then_ HB.out hB1)
  have HG := Lib.hid (show GrP w1 _ w1.heap.size G 4 exL from hG)
  clear hG hB1
  go_wp2_with fail
  refine (comps_any 4 exL w1 _ _ G HG.out (Nat.le_refl _)).mono ?_
  rintro e w2 ⟨hB2, A2, c2, rfl, hS2⟩
  rw [ex_parts] at hS2
  have hpl : (parts 4 exL).length = 3 := by rw [ex_parts]; rfl
  rw [hpl]
  obtain ⟨gs, rfl, hgs, _⟩ := hS2.2 (by decide)
  have B2 := then_ HB1.out hB2
  have G2 := HG.out.below (hB2.mono (Nat.le_refl _))
  have hsz2 := hB2.size
  have T := Lib.hid (And.intro B2 (And.intro hS2 (And.intro G2 hsz2)))
  clear hB2 hS2 hpl hgs B2 G2 hsz2
  go_wp2_with fail
  refine (of_any (some ⟨w2.heap.size, 0, none⟩) 1 1 [0] _ (ints_new w2 [0] (by decide)) (by decide)).mono ?_
  rintro e w3 ⟨rfl, b3⟩
  have T3 := Lib.hid (then_ ((Below.refl w2.heap.size w2).alloc (Nat.le_refl _) (.cells #[.int .i64 0] 3)) b3)
  clear b3
  go_wp2_with fail
  have hE3 := hE.of (then_ T.out.1 T3.out)
  refine (reachable_any 4 exL (ofP [0]) w3 hE3 _ _ G (T.out.2.2.1.below (T3.out.mono T.out.2.2.2)) (by have := T3.out.size; have := T.out.2.2.2; omega)).mono ?_
  rintro e w4 ⟨rfl, b4⟩
  have e0 : ei (ofP [0]) = [0] := ei_sorted_self (by simp) (by simp)
  rw [e0, ex_ahead]
  have T4 := Lib.hid (then_ T3.out b4)
  clear b4 e0 hE3
  go_wp2_with fail
  have hE4 := hE.of (then_ T.out.1 T4.out)
  refine (list_any (ofP [0, 1, 2]) w4 hE4).mono ?_
  rintro e w5 ⟨A5, c5, rfl, hr5, b5⟩
  have e0 : ei (ofP [0, 1, 2]) = [0, 1, 2] := ei_sorted_self (by decide) (by decide)
  rw [e0] at hr5 ⊢
  have T5 := Lib.hid (then_ T4.out b5)
  have R5 := Lib.hid hr5
  clear b5 e0 hr5 hE4
  go_wp2_with fail
  refine (rsame_any A5 (some ⟨w5.heap.size, 0, none⟩) c5 3 3 3 [0, 1, 2] [0, 1, 2] _ (R5.out.below ((Below.refl _ _).alloc (Nat.le_refl _) _)) (ints_new w5 [0, 1, 2] (by decide)) (by decide) (by decide)).mono ?_
  rintro e w6 ⟨rfl, b6⟩
  have T6 := Lib.hid (then_ T5.out (then_ ((Below.refl w5.heap.size w5).alloc (Nat.le_refl _) (.cells #[.int .i64 0, .int .i64 1, .int .i64 2] 3)) b6))
  clear b6
  have hd : decide (([0, 1, 2] : List Int) = [0, 1, 2]) = true := decide_eq_true rfl
  rw [hd]
  clear hd
  have hl0 := (T.out.2.1.below T6.out).load (j := 0) (p := [0, 1]) rfl
  have HL0 := Lib.hid hl0; clear hl0
  go_wp2_with (refine wpList_load_mid _ gs 0 (ofP [0, 1]) rfl rfl rfl HL0.out ?_)
  have hE7 := hE.of (then_ T.out.1 T6.out)
  refine (list_any (ofP [0, 1]) w6 hE7).mono ?_
  rintro e w7 ⟨A7, c7, rfl, hr7, b7⟩
  have e0 : ei (ofP [0, 1]) = [0, 1] := ei_sorted_self (by decide) (by decide)
  rw [e0] at hr7 ⊢
  have T7 := Lib.hid (then_ T6.out b7)
  have R7 := Lib.hid hr7
  clear b7 e0 hr7 hE7
  go_wp2_with fail
  refine (rsame_any A7 (some ⟨w7.heap.size, 0, none⟩) c7 2 2 2 [0, 1] [0, 1] _ (R7.out.below ((Below.refl _ _).alloc (Nat.le_refl _) _)) (ints_new w7 [0, 1] (by decide)) (by decide) (by decide)).mono ?_
  rintro e w8 ⟨rfl, b8⟩
  have T8 := Lib.hid (then_ T7.out (then_ ((Below.refl w7.heap.size w7).alloc (Nat.le_refl _) (.cells #[.int .i64 0, .int .i64 1] 3)) b8))
  clear b8
  have hd : decide (([0, 1] : List Int) = [0, 1]) = true := decide_eq_true rfl
  rw [hd]
  clear hd
  have hl2 := (T.out.2.1.below T8.out).load (j := 2) (p := [3]) rfl
  have HL2 := Lib.hid hl2; clear hl2
  go_wp2_with (refine wpList_load_mid _ gs 128 (ofP [3]) rfl rfl rfl HL2.out ?_)
  have hE9 := hE.of (then_ T.out.1 T8.out)
  refine (list_any (ofP [3]) w8 hE9).mono ?_
  rintro e w9 ⟨A9, c9, rfl, hr9, b9⟩
  have e0 : ei (ofP [3]) = [3] := ei_sorted_self (by decide) (by decide)
  rw [e0] at hr9 ⊢
  have T9 := Lib.hid (then_ T8.out b9)
  have R9 := Lib.hid hr9
  clear b9 e0 hr9 hE9
  go_wp2_with fail
  refine (rsame_any A9 (some ⟨w9.heap.size, 0, none⟩) c9 1 1 1 [3] [3] _ (R9.out.below ((Below.refl _ _).alloc (Nat.le_refl _) _)) (ints_new w9 [3] (by decide)) (by decide) (by decide)).mono ?_
  rintro e w10 ⟨rfl, b10⟩
  have T10 := Lib.hid (then_ T9.out (then_ ((Below.refl w9.heap.size w9).alloc (Nat.le_refl _) (.cells #[.int .i64 3] 3)) b10))
  clear b10
  have hd : decide (([3] : List Int) = [3]) = true := decide_eq_true rfl
  rw [hd]
  clear hd
  have HF := Lib.hid (then_ T.out.1 T10.out)
  go_wp2_with fail
  go_ret
  exact ⟨rfl, HF.out⟩
end Go.Proofs.YtabciepnbmliiaaDoor
