/- The law on Each: walk (begun). -/
import Derived.Test.YtggalncjookkiaaDoorVM
import Derived.RangeFuncBox
import Derived.RangeFuncWrites
import Derived.Lib.QuietBelowIn
import Derived.Sort.BigQuietIn
namespace Go.Proofs.YtggalncjookkiaaDoor
open Go.RowKit Go.Lib Go.Shelf Nds
attribute [local go_sem] Oper.semAt_some

theorem wpIn_region_G {G : Regrown → World} {F : Fence} {n : Nat} {id : Nat} {Q : Exit → Act → World → Prop} {a : Act} {w : World} {l : List Oper} (hro : F.round = none) (hB : Region.lexB .any l.toArray = true)
    (hC : ∃ p, w.drew = G p) (h : wpQuietIn F n Tryd.prog l.toArray (fun w' => ∃ p : Regrown, w' = G p) (fun a' => ∀ w', (∃ p : Regrown, w' = G p) → Q .normal a' w') l a) : (Code.region id l.toArray true).wpIn F n Tryd.prog Q a w :=
  wpIn_region_quiet (C := fun w' => ∃ p : Regrown, w' = G p) hro (by kernel_rfl) hB hC (by simpa using h)

set_option maxRecDepth 100000 in
set_option maxHeartbeats 1000000 in
theorem lawEach (A : Option Addr) (c n : Nat) (xs : List Int) (t : Int) (w : World) (hE : Env w) (hr : Rd w A n xs) (hn : n ≤ 9223372036854775807) (ht : 0 ≤ t ∧ t ≤ 255) :
    Calls Tryd.prog 9 #[.slice A n c, .int .u8 t] w fun e w' => e = .returned (.bool true) ∧ Below w.heap.size w w' := by
  by_cases hg : 60 < n
  · have hd : decide (60 < n) = true := decide_eq_true hg
    refine (callsIn_wide (n := 7)).1 ?_
    refine callsIn_of_wp_marks Tryd.func9 rfl trivial ?_ rfl
    simp only [Tryd.ntmps9, List.size_toArray, List.length_cons, List.length_nil, Nat.reduceAdd, Nat.reduceSub, Array.replicate_succ, Array.replicate_zero, List.push_toArray, List.append_toArray, List.nil_append, List.cons_append]
    have hW : Below w.heap.size w (w.alloc (.cells #[.int .u8 t] 5)) := (Below.refl _ _).alloc (Nat.le_refl _) _
    gi_wp2_with (first
      | (refine ⟨trivial, ?_⟩; gi_at_call 10; refine (callsIn_wide.2 (great_any _ _ _ _ hn)).mono ?_; rintro e w2 ⟨rfl, rfl⟩)
      | (refine ⟨trivial, ?_⟩; gi_at_call 11; refine (callsIn_wide.2 (awake_any _ (hE.of hW))).mono ?_; rintro e w4 ⟨rfl, b4⟩))
    exact ⟨_, results_tmp rfl _ _ _, rfl, hW.trans (b4.mono hW.size)⟩
  · have hd : decide (60 < n) = false := decide_eq_false hg
    refine (callsIn_wide (n := 7)).1 ?_
    refine callsIn_of_wp_marks Tryd.func9 rfl trivial ?_ rfl
    simp only [Tryd.ntmps9, List.size_toArray, List.length_cons, List.length_nil, Nat.reduceAdd, Nat.reduceSub, Array.replicate_succ, Array.replicate_zero, List.push_toArray, List.append_toArray, List.nil_append, List.cons_append]
    have hW : Below w.heap.size w (w.alloc (.cells #[.int .u8 t] 5)) := (Below.refl _ _).alloc (Nat.le_refl _) _
    have hcmp : ∀ (q : Value) (w : World), (binOp .eql 52 (.func (.func 42) #[] #[q]) .nilFunc).run Tryd.prog w = .ok (.bool false) w := fun _ _ => rfl
    gi_wp2_with (first
      | (refine ⟨trivial, ?_⟩; gi_at_call 10; refine (callsIn_wide.2 (great_any _ _ _ _ hn)).mono ?_; rintro e w2 ⟨rfl, rfl⟩)
      | (refine ⟨trivial, ?_⟩; gi_at_call 13; refine (callsIn_wide.2 (rof_cap A c n xs _ (hr.below hW) (by omega))).mono ?_; rintro e w3 ⟨A3, c3, rfl, hc3, hr3, b3⟩)
      | (refine ⟨trivial, ?_⟩; gi_at_call 12; refine (callsIn_wide.2 (of_any A c n xs _ ((hr.below hW).below b3) hn)).mono ?_; rintro e w4 ⟨rfl, b4⟩)
      | (refine ⟨trivial, ?_⟩; gi_at_call 33; refine (callsIn_wide.2 (each_any (ofP xs) _)).mono ?_; rintro e w5 ⟨rfl, rfl⟩))
    have hsX : SetAt (w4.alloc (.cells (cells (ofP xs)) 28)) w4.heap.size (ofP xs) := SetAt.new w4 _
    have h3m : (w.alloc (.cells #[.int .u8 t] 5)).cell? ⟨w.heap.size, 0, none⟩ = some (.int .u8 t) := (Boxed.new w 5 (.int .u8 t)).cell
    have hb34 := then_ b3 b4
    have hbX : Below (w.alloc (.cells #[.int .u8 t] 5)).heap.size (w.alloc (.cells #[.int .u8 t] 5)) (w4.alloc (.cells (cells (ofP xs)) 28)) := hb34.alloc hb34.size _
    have hBX := hW.trans (hbX.mono hW.size)
    have hmX : (w4.alloc (.cells (cells (ofP xs)) 28)).cell? ⟨w.heap.size, 0, none⟩ = some (.int .u8 t) := (hbX.cell (p := ⟨w.heap.size, 0, none⟩) (by simp)).trans h3m
    have hrX := (hr3.below b4).below (Below.alloc (Below.refl w4.heap.size w4) (Nat.le_refl _) (.cells (cells (ofP xs)) 28))
    have hEX := hE.of hBX
    have hg3 : w.heap.size < w4.heap.size := by have := hb34.size; simp at this; omega
    have hbG : w4.heap.size < (w4.alloc (.cells (cells (ofP xs)) 28)).heap.size := by rw [World.size_alloc]; omega
    have hpl := eisz (ofP xs)
    generalize w4.alloc (.cells (cells (ofP xs)) 28) = wX at *
    generalize w4.heap.size = b at *
    generalize ofP xs = p at *
    clear h3m hb34 hbX b3 b4 hr3 hW hcmp
    obtain ⟨m, hm⟩ : ∃ m : Nat, t % 20 = (m : Int) := ⟨(t % 20).toNat, by omega⟩
    have hm20 : m < 20 := by omega
    obtain ⟨i0, hi, hz0, hz1, hz2⟩ := info_parts info_int
    obtain ⟨R, hR⟩ : ∃ R : Nat → Act → World → Prop, ∀ k a W, R k a W ↔ ( k ≤ 2 ∧ ∃ (Dl : List Nat) (u7 u8 u20 u21 u22 u23 u24 u25 u26 u27 u28 u29 u30 u31 u32 u33 u34 u35 u36 u37 u38 u39 u40 u41 u42 u43 u44 u45 u46 : Value), a = { tmps := #[.slice A n c, .int .u8 t, undef, .pointer (some ⟨w.heap.size, 0, none⟩), .bool false, .slice A3 (ei p).length c3, .func (.func 42) #[] #[.pointer (some ⟨b, 0, none⟩)], u7, u8, .slice A n c, .bool false, undef, .slice A n c, .slice A3 (ei p).length c3, .slice A n c, .agg (cells p), .func (.func 42) #[] #[.pointer (some ⟨b, 0, none⟩)], .func (.func 42) #[] #[.pointer (some ⟨b, 0, none⟩)], .bool false, .int .i64 (k : Nat), u20, u21, u22, u23, u24, u25, u26, u27, u28, u29, u30, u31, u32, u33, u34, u35, u36, u37, u38, u39, u40, u41, u42, u43, u44, u45, u46], defers := marks Dl } ∧ MarksOk w.heap.size W Dl ∧ SetAt W b p ∧ W.cell? ⟨w.heap.size, 0, none⟩ = some (.int .u8 t) ∧ Rd W A3 (ei p).length (ei p) ∧ Below w.heap.size w W ∧ w.heap.size < W.heap.size) := ⟨_, fun _ _ _ => Iff.rfl⟩
    have HR := Lib.hid hR; clear hR
    refine wpIn_loop_rel 3 R ?start (fun a W h => by have := ((HR.out _ _ _).1 h).1; omega) ?step
    case start =>
      exact (HR.out _ _ _).2 ⟨by omega, [], _, _, _, _, _, _, _, _, _, _, _, _, _, _, _, _, _, _, _, _, _, _, _, _, _, _, _, _, _, rfl, MarksOk.nil _ _, hsX, hmX, hrX, hBX, by omega⟩
    case step =>
      clear hsX hmX hrX hBX hEX hbG
      intro k a wX hRk
      obtain ⟨hk, Dl, u7, u8, u20, u21, u22, u23, u24, u25, u26, u27, u28, u29, u30, u31, u32, u33, u34, u35, u36, u37, u38, u39, u40, u41, u42, u43, u44, u45, u46, rfl, hMk, hsX, hmX, hrX, hBX, hbG⟩ := (HR.out _ _ _).1 hRk
      clear hRk
      have hEX := hE.of hBX
      by_cases hk2 : k < 2
      · have hkd : decide ((k : Int) < 2) = true := by rw [decide_eq_true_iff]; omega
        have hsX1 := hsX.alloc (.cells #[.slice none 0 0] 22)
        have bO : Boxed (wX.alloc (.cells #[.slice none 0 0] 22)) wX.heap.size 22 (.slice none 0 0) := Boxed.new wX 22 _
        have B1 : Below wX.heap.size wX (wX.alloc (.cells #[.slice none 0 0] 22)) := (Below.refl _ _).alloc (Nat.le_refl _) _
        gi_wp2
        refine wpIn_rangeFunc_ownG rfl (by decide) (gf := 42) (lb := #[.pointer (some ⟨b, 0, none⟩)]) rfl trivial (enters_of Tryd.func42 (by kernel_rfl) rfl)
          (each_stops 6 (by omega) b wX.heap.size p _ hsX1 (TabAt.below hEX.db B1 (by have := hEX.size; omega)) hEX.size (by have := hEX.size; simp; omega)) belowK_t (belowK_b (by simp)) (Below.refl _ _) (fun _ => rfl)
          (fun (pre : List Int) W => ((∃ v, Boxed W wX.heap.size 22 v ∧ W.ownsRow wX.heap.size 3 1 v pre.length (pre.map (Value.int .i64)) ∧ True) ∧ pre.length ≤ m) ∧ Below wX.heap.size wX W)
          (fun c (pre : List Int) W => (c = .exit 2 ∧ (∃ v, Boxed W wX.heap.size 22 v ∧ W.ownsRow wX.heap.size 3 1 v pre.length (pre.map (Value.int .i64)) ∧ True) ∧ pre.length = m + 1) ∧ Below wX.heap.size wX W)
          (OwnFrom.and (OwnFrom.and (Go.Own.from (holdsRow_own wX.heap.size wX.heap.size 22 3 1 (fun (pre : List Int) => pre.length) (fun (pre : List Int) => pre.map (Value.int .i64)) (fun _ _ => True)) _) (ownFrom_pure _ _)) (ownFrom_below (Nat.le_refl _) (by simp)))
          (fun c => OwnFrom.and (OwnFrom.and (ownFrom_pure _ _) (OwnFrom.and (Go.Own.from (holdsRow_own wX.heap.size wX.heap.size 22 3 1 (fun (pre : List Int) => pre.length) (fun (pre : List Int) => pre.map (Value.int .i64)) (fun _ _ => True)) _) (ownFrom_pure _ _))) (ownFrom_below (Nat.le_refl _) (by simp)))
          ⟨⟨⟨_, bO, World.ownsRow_nil _ _ _ _, trivial⟩, by simp⟩, B1⟩
          (fun x => { tmps := #[.slice A n c, .int .u8 t, undef, .pointer (some ⟨w.heap.size, 0, none⟩), .bool false, .slice A3 (ei p).length c3, .func (.func 42) #[] #[.pointer (some ⟨b, 0, none⟩)], .pointer (some ⟨wX.heap.size, 0, none⟩), .int .i64 x, .slice A n c, .bool false, undef, .slice A n c, .slice A3 (ei p).length c3, .slice A n c, .agg (cells p), .func (.func 42) #[] #[.pointer (some ⟨b, 0, none⟩)], .func (.func 42) #[] #[.pointer (some ⟨b, 0, none⟩)], .bool false, .int .i64 (k : Nat), .bool true, .func (.func 42) #[] #[.pointer (some ⟨b, 0, none⟩)], .int .i64 x, u23, u24, u25, u26, u27, u28, u29, u30, u31, u32, u33, u34, u35, u36, u37, u38, u39, u40, u41, u42, u43, u44, u45, u46], defers := [] }) ?assign ?body ?done ?stop
        case assign =>
          intro l x W K hK
          gi_wp2
          exact hK
        case body =>
          rintro l pre x W ⟨⟨⟨v, hv, hrow, _⟩, hlen⟩, hB⟩ hlt
          have hc := hv.cell
          have hBs := hB.size
          have hmW : W.cell? ⟨w.heap.size, 0, none⟩ = some (.int .u8 t) := (hB.cell (p := ⟨w.heap.size, 0, none⟩) (by show w.heap.size < _; omega)).trans hmX
          have hf := hv.frozen
          by_cases hle : pre.length < m
          · have hgt : decide ((m : Int) < (pre.length : Int) + 1) = false := by rw [decide_eq_false_iff_not]; omega
            gi_wp2_with (gi_at_builtin; refine wpListIn_append_own _ rfl _ _ 22 rfl wX.heap.size 3 i0 (.int .i64 0) 1 8 ups hi hz0 hz1 hz2 rfl (by decide) _ _ _ rfl (hrow.alloc _) ⟨W.heap.size, 0, none⟩ 1 1 [.int .i64 x] rfl rfl (cell_one_new _ _ _) (by simp [Value.oneCell']) (by unfold maxLen; omega) (by omega) (by simp; omega) ?_; intro v' w1 hown' hgrow _; obtain ⟨g', cap', rfl⟩ := ownsRow_succ hown'; obtain ⟨hv1, hv2, hr2, hk2, hb2⟩ := hv.appended (by decide) hrow hB.size (by omega) hown' hgrow; have hc1 := hv1.cell; have hf1 := hv1.frozen; have hc2 := hv2.cell; have hm2 := (hb2.cell (p := ⟨w.heap.size, 0, none⟩) (by show w.heap.size < _; omega)).trans hmW)
            exact ⟨hk2.from _, hb2, ⟨⟨_, hv2, by simpa using hr2, trivial⟩, by simp; omega⟩, hB.trans hb2⟩
          · have hle2 : m ≤ pre.length := by omega
            have hgt : decide ((m : Int) < (pre.length : Int) + 1) = true := by rw [decide_eq_true_iff]; omega
            gi_wp2_with (gi_at_builtin; refine wpListIn_append_own _ rfl _ _ 22 rfl wX.heap.size 3 i0 (.int .i64 0) 1 8 ups hi hz0 hz1 hz2 rfl (by decide) _ _ _ rfl (hrow.alloc _) ⟨W.heap.size, 0, none⟩ 1 1 [.int .i64 x] rfl rfl (cell_one_new _ _ _) (by simp [Value.oneCell']) (by unfold maxLen; omega) (by omega) (by simp; omega) ?_; intro v' w1 hown' hgrow _; obtain ⟨g', cap', rfl⟩ := ownsRow_succ hown'; obtain ⟨hv1, hv2, hr2, hk2, hb2⟩ := hv.appended (by decide) hrow hB.size (by omega) hown' hgrow; have hc1 := hv1.cell; have hf1 := hv1.frozen; have hc2 := hv2.cell; have hm2 := (hb2.cell (p := ⟨w.heap.size, 0, none⟩) (by show w.heap.size < _; omega)).trans hmW)
            exact ⟨hk2.from _, ⟨rfl, ⟨_, hv2, by simpa using hr2, trivial⟩, by simp; omega⟩, hB.trans hb2⟩
        case done =>
          rintro D ys W hD rfl ⟨⟨⟨v, hv, hrow, _⟩, hlen⟩, hB⟩ hK
          have hc := hv.cell
          have hBs := hB.size
          have hmW : W.cell? ⟨w.heap.size, 0, none⟩ = some (.int .u8 t) := (hB.cell (p := ⟨w.heap.size, 0, none⟩) (by show w.heap.size < _; omega)).trans hmX
          obtain ⟨Ag, cg, rfl⟩ : ∃ Ag cg, v = .slice Ag (ei p).length cg := OwnI.slice (show OwnI W wX.heap.size v (ei p) from hrow)
          have hrd : Rd W Ag (ei p).length (ei p) := OwnI.rd (show OwnI W wX.heap.size (.slice Ag (ei p).length cg) (ei p) from hrow)
          have hrW := hrX.below hB
          obtain ⟨G, hG1, hG2⟩ : ∃ G : Regrown → World, (∀ r, Below W.heap.size W (G r)) ∧ (∀ w', Below W.heap.size W w' → ∃ r, w' = G r) := ⟨fun p => Sort.grow (redrawn W p.d) p.os, fun r => below_regrown W r.d r.os, fun w' h => regrown_of_below h⟩
          have hcG : ∀ r, (G r).cell? ⟨wX.heap.size, 0, none⟩ = some (.slice Ag (ei p).length cg) := fun r => ((hG1 r).cell (p := ⟨wX.heap.size, 0, none⟩) (by have := hv.lt; exact this)).trans hc
          have hmG : ∀ r, (G r).cell? ⟨w.heap.size, 0, none⟩ = some (.int .u8 t) := fun r => ((hG1 r).cell (p := ⟨w.heap.size, 0, none⟩) (by show w.heap.size < _; omega)).trans hmW
          have hW0 : ∃ q, W.drew = G q := hG2 _ (below_drewN (Below.refl _ _) 1)
          have hcall : ∀ (r : Regrown) (fn : FuncId) (args : Array Value) (v : Value), CallsIn Fence.wide 6 Tryd.prog fn args (G r) (fun e w' => e = .returned v ∧ Below (G r).heap.size (G r) w') → CallsIn Fence.wide 6 Tryd.prog fn args (G r) fun e w'' => e = .returned v ∧ ∃ q : Regrown, w'' = G q :=
            fun r _ _ _ h => h.mono fun _ _ ⟨he, hb⟩ => ⟨he, hG2 _ ((hG1 r).trans (hb.mono (hG1 r).size))⟩
          have HCALL := Lib.hid hcall; clear hcall
          have hmn : min (((ei p).length : Nat) : Int) ((m : Int) + 1) = ((ei p).length : Nat) := by omega
          gi_wp2
          refine wpIn_region_G (G := G) rfl (by kernel_rfl) hW0 ?_
          repeat (gi_big_quiet_step (fail))
          refine BigFrame.wpQuietIn_want (fun _ _ _ _ => trivial) rfl (fun K hK => ?_)
          gi_big_quiet_op
          apply Exists.intro
          refine ⟨fun _ => ?_, hK _ ?_⟩
          · gi_at_call 20
            exact HCALL.out _ _ _ _ (callsIn_wide.2 (same_yes (hrd.below (hG1 _)) (hrW.below (hG1 _)) rfl (by omega) (by omega)))
          clear hK K
          repeat (gi_big_quiet_step (fail))
          refine wpQuietIn_nil ?_
          rintro _ ⟨r, rfl⟩
          gi_wp2
          have hbg := hB.trans ((hG1 r).mono hBs)
          have hKr := ((hG1 r).block D (Array.getElem?_eq_some_iff.1 hK).1).trans hK
          refine (HR.out _ _ _).2 ⟨by omega, D :: Dl, _, _, _, _, _, _, _, _, _, _, _, _, _, _, _, _, _, _, _, _, _, _, _, _, _, _, _, _, _, rfl, hMk.cons hbg (by simp at hD; omega) hBX.size hKr, hsX.below hbg hsX.lt, hmG r, hrX.below hbg, hBX.trans (hbg.mono hBX.size), by have := hbg.size; omega⟩
        case stop =>
          rintro D ex pre W hD hpre ⟨⟨rfl, ⟨v, hv, hrow, _⟩, hl⟩, hB⟩ hK
          have htk : pre = (ei p).take (m + 1) := by have := List.prefix_iff_eq_take.1 hpre; rw [hl] at this; exact this
          have hle : m + 1 ≤ (ei p).length := by have := hpre.length_le; omega
          have hc4 : m + 1 ≤ c3 := by omega
          clear hpre
          have hc := hv.cell
          have hBs := hB.size
          have hmW : W.cell? ⟨w.heap.size, 0, none⟩ = some (.int .u8 t) := (hB.cell (p := ⟨w.heap.size, 0, none⟩) (by show w.heap.size < _; omega)).trans hmX
          obtain ⟨Ag, cg, rfl⟩ : ∃ Ag cg, v = .slice Ag (m + 1) cg := by rw [← hl]; exact OwnI.slice (show OwnI W wX.heap.size v pre from hrow)
          have hrd : Rd W Ag (m + 1) pre := by have hrow2 := hrow; rw [← hl] at hrow2 ⊢; exact OwnI.rd (show OwnI W wX.heap.size (.slice Ag pre.length cg) pre from hrow2)
          clear hl hrow
          have hrW := (hrX.below hB).take hle
          obtain ⟨G, hG1, hG2⟩ : ∃ G : Regrown → World, (∀ r, Below W.heap.size W (G r)) ∧ (∀ w', Below W.heap.size W w' → ∃ r, w' = G r) := ⟨fun p => Sort.grow (redrawn W p.d) p.os, fun r => below_regrown W r.d r.os, fun w' h => regrown_of_below h⟩
          have hcG : ∀ r, (G r).cell? ⟨wX.heap.size, 0, none⟩ = some (.slice Ag (m + 1) cg) := fun r => ((hG1 r).cell (p := ⟨wX.heap.size, 0, none⟩) (by have := hv.lt; exact this)).trans hc
          have hmG : ∀ r, (G r).cell? ⟨w.heap.size, 0, none⟩ = some (.int .u8 t) := fun r => ((hG1 r).cell (p := ⟨w.heap.size, 0, none⟩) (by show w.heap.size < _; omega)).trans hmW
          have hW0 : ∃ q, W.drew = G q := hG2 _ (below_drewN (Below.refl _ _) 1)
          have hcall : ∀ (r : Regrown) (fn : FuncId) (args : Array Value) (v : Value), CallsIn Fence.wide 6 Tryd.prog fn args (G r) (fun e w' => e = .returned v ∧ Below (G r).heap.size (G r) w') → CallsIn Fence.wide 6 Tryd.prog fn args (G r) fun e w'' => e = .returned v ∧ ∃ q : Regrown, w'' = G q :=
            fun r _ _ _ h => h.mono fun _ _ ⟨he, hb⟩ => ⟨he, hG2 _ ((hG1 r).trans (hb.mono (hG1 r).size))⟩
          have HCALL := Lib.hid hcall; clear hcall
          have hmn : min (((ei p).length : Nat) : Int) ((m : Int) + 1) = ((m + 1 : Nat) : Int) := by omega
          have HTK := Lib.hid htk; clear htk
          gi_wp2
          refine wpIn_region_G (G := G) rfl (by kernel_rfl) hW0 ?_
          repeat (gi_big_quiet_step (fail))
          refine BigFrame.wpQuietIn_want (fun _ _ _ _ => trivial) rfl (fun K hK => ?_)
          gi_big_quiet_op
          apply Exists.intro
          refine ⟨fun _ => ?_, hK _ ?_⟩
          · gi_at_call 20
            exact HCALL.out _ _ _ _ (callsIn_wide.2 (same_yes (hrd.below (hG1 _)) (hrW.below (hG1 _)) HTK.out (by omega) (by omega)))
          clear hK K
          repeat (gi_big_quiet_step (fail))
          refine wpQuietIn_nil ?_
          rintro _ ⟨r, rfl⟩
          gi_wp2
          have hbg := hB.trans ((hG1 r).mono hBs)
          have hKr := ((hG1 r).block D (Array.getElem?_eq_some_iff.1 hK).1).trans hK
          refine (HR.out _ _ _).2 ⟨by omega, D :: Dl, _, _, _, _, _, _, _, _, _, _, _, _, _, _, _, _, _, _, _, _, _, _, _, _, _, _, _, _, _, rfl, hMk.cons hbg (by simp at hD; omega) hBX.size hKr, hsX.below hbg hsX.lt, hmG r, hrX.below hbg, hBX.trans (hbg.mono hBX.size), by have := hbg.size; omega⟩
      · have hkd : decide ((k : Int) < 2) = false := by rw [decide_eq_false_iff_not]; omega
        gi_wp2_with (refine ⟨trivial, ?_⟩; gi_at_call 11; refine (callsIn_wide.2 (awake_any _ hEX)).mono ?_; rintro e w5 ⟨rfl, b5⟩)
        have hBf := hBX.trans (b5.mono hBX.size)
        exact leaves_marks w (Nat.le_refl _) (fun W hW => ⟨_, results_tmp rfl _ _ _, rfl, hW⟩) Dl w5 (hMk.below b5) hBf

end Go.Proofs.YtggalncjookkiaaDoor
