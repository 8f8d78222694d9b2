/- The code: the words of a line. -/
import Derived.Test.YtjklpikopgihgaaGreatDoorK8
set_option linter.unusedVariables false
set_option maxRecDepth 100000
set_option linter.unusedSimpArgs false
namespace Go.Proofs.YtjklpikopgihgaaGreatDoor
open Go.RowKit Go.Lib Cf

/-- All blocks are as they were, but those of the types X. -/
def Kt (X : List TypeId) (w w' : World) : Prop := ∀ (g : Nat) (cs : Array Value) (T : TypeId) (fz : Nat × Nat), w.heap[g]? = some (Obj.cells cs T fz) → T ∉ X → w'.heap[g]? = some (Obj.cells cs T fz)
section
variable {X Y : List TypeId} {a b c : World}
theorem Kt.refl (X : List TypeId) (w : World) : Kt X w w := fun _ _ _ _ h _ => h
theorem Kt.trans (h : Kt X a b) (k : Kt X b c) : Kt X a c := fun g cs T fz e ht => k g cs T fz (h g cs T fz e ht) ht
theorem Kt.mono (h : Kt X a b) (hs : ∀ T, T ∈ X → T ∈ Y) : Kt Y a b := fun g cs T fz e ht => h g cs T fz e (fun e2 => ht (hs T e2))
theorem Kt.of_below (X : List TypeId) (h : Below a.heap.size a b) : Kt X a b := fun g cs T fz e _ => (h.block g (Array.getElem?_eq_some_iff.1 e).1).trans e
theorem Kt.then (h : Kt X a b) (k : Below b.heap.size b c) : Kt X a c := h.trans (Kt.of_below X k)
theorem Kt.alloc (h : Kt X a b) (o : Obj) : Kt X a (b.alloc o) := h.then ((Below.refl _ _).alloc (Nat.le_refl _) o)
theorem Kt.drew (h : Kt X a b) : Kt X a b.drew := h.then (Below.refl _ _).drew
theorem Kt.grown {B : Nat} {T0 : TypeId} {k : Nat} {v : Value} {n : Nat} {xs : List Value} (hO : a.ownsRow B T0 k v n xs) (hT : T0 ∈ X) (hg : a.grownBy b v.ownBlock) : Kt X a b := fun g cs T fz e ht => by
  rw [hg.block g (Array.getElem?_eq_some_iff.1 e).1 (fun e2 => by
    obtain ⟨cur, hc⟩ := own_type hO e2.symm
    rw [hc] at e; injection e with e; injection e with _ e; exact ht (e ▸ hT))]
  exact e
theorem Kt.setCell {p : Addr} {cs0 : Array Value} {T0 : TypeId} {f0 : Nat × Nat} (h : a.heap[p.block]? = some (Obj.cells cs0 T0 f0)) (hT : T0 ∈ X) (u : Value) : Kt X a (a.setCell p u) := fun g cs T fz e ht => by
  rw [Below.heap_setCell a p u g (fun e2 => by subst e2; rw [h] at e; injection e with e; injection e with _ e; exact ht (e ▸ hT))]
  exact e
end
theorem RS.kt {X : List TypeId} {w w' : World} {v : Value} {l : List Bs} (h : RS w v l) (k : Kt X w w') (hX : 9 ∉ X) : RS w' v l := by
  obtain ⟨A, c, e, hc, h⟩ := h
  refine ⟨A, c, e, hc, fun j x hx => ?_⟩
  obtain ⟨ad, cs, e2, h1, h2⟩ := h j x hx
  have h3 := k _ _ _ _ h1 hX
  refine ⟨ad, cs, e2, h3, ?_⟩
  unfold World.cell? at h2 ⊢
  rw [block_add'] at h2 ⊢
  rw [h3, ← h1]; exact h2
/-- The words object at block g. -/
def WdP (w : World) (g : Nat) (r : List Bs) (b : Bool) : Prop := ∃ v, w.heap[g]? = some (.cells #[v, .bool b] 99 (0, 0)) ∧ RS w v r
theorem wd_cells {w : World} {g : Nat} {v : Value} {b : Bool} (h : w.heap[g]? = some (.cells #[v, .bool b] 99 (0, 0))) : w.cell? ⟨g, 0, none⟩ = some v ∧ w.cell? ⟨g, 1, none⟩ = some (.bool b) ∧ w.frozen? ⟨g, 0, none⟩ = false ∧ w.frozen? ⟨g, 1, none⟩ = false := by
  refine ⟨by rw [cell_of_row _ _ 0 _ _ _ h]; rfl, by rw [cell_of_row _ _ 1 _ _ _ h]; rfl, ?_, ?_⟩
  · unfold World.frozen?; rw [h]; rfl
  · unfold World.frozen?; rw [h]; rfl
theorem WdP.kt {X : List TypeId} {w w' : World} {g : Nat} {r : List Bs} {b : Bool} (h : WdP w g r b) (k : Kt X w w') (h1 : 9 ∉ X) (h2 : 99 ∉ X) : WdP w' g r b := by
  obtain ⟨v, e, hr⟩ := h
  exact ⟨v, k _ _ _ _ e h2, hr.kt k h1⟩
theorem WdP.below {w w' : World} {g : Nat} {r : List Bs} {b : Bool} (h : WdP w g r b) (k : Below w.heap.size w w') : WdP w' g r b := h.kt (Kt.of_below [] k) (by simp) (by simp)
theorem WdP.lt {w : World} {g : Nat} {r : List Bs} {b : Bool} (h : WdP w g r b) : g < w.heap.size := by
  obtain ⟨v, e, _⟩ := h; exact (Array.getElem?_eq_some_iff.1 e).1
/-- The flag is raised. -/
theorem WdP.mark {w : World} {g : Nat} {r : List Bs} {b : Bool} (h : WdP w g r b) : WdP (w.setCell ⟨g, 1, none⟩ (.bool true)) g r true ∧ Kt [99] w (w.setCell ⟨g, 1, none⟩ (.bool true)) := by
  obtain ⟨v, e, hr⟩ := h
  have k : Kt [99] w (w.setCell ⟨g, 1, none⟩ (.bool true)) := Kt.setCell (p := ⟨g, 1, none⟩) e (by simp) _
  exact ⟨⟨v, by rw [heap_setCell_same w g 1 _ _ _ e]; rfl, hr.kt k (by decide)⟩, k⟩
theorem rs_tail {w : World} {ad : Addr} {x : Bs} {r : List Bs} {c : Nat} {n : Nat} (hn : n = (x :: r).length) (h : RS w (.slice (some ad) n c) (x :: r)) : RS w (.slice (some ⟨ad.block, ad.off + 1, none⟩) r.length (c - 1)) r := by
  subst hn
  obtain ⟨A, c', e, hc, h⟩ := h
  simp only [Value.slice.injEq, true_and] at e
  obtain ⟨rfl, rfl⟩ := e
  simp only [List.length_cons] at hc
  refine ⟨_, _, rfl, by omega, fun j y hy => ?_⟩
  obtain ⟨ad2, cs, e2, h1, h2⟩ := h (j + 1) y (by simpa using hy)
  injection e2 with e2; subst e2
  have e3 : (⟨ad.block, ad.off + 1, none⟩ : Addr) = ad.add 1 := rfl
  exact ⟨_, cs, rfl, h1, by rw [e3, addr_add, Nat.add_comm 1 j]; exact h2⟩
theorem WdP.next {w : World} {g : Nat} {v : Value} {b : Bool} (e : w.heap[g]? = some (.cells #[v, .bool b] 99 (0, 0))) {u : Value} {r : List Bs} (hu : RS w u r) : WdP (w.setCell ⟨g, 0, none⟩ u) g r b ∧ Kt [99] w (w.setCell ⟨g, 0, none⟩ u) := by
  have k : Kt [99] w (w.setCell ⟨g, 0, none⟩ u) := Kt.setCell (p := ⟨g, 0, none⟩) e (by simp) _
  exact ⟨⟨u, by rw [heap_setCell_same w g 0 _ _ _ e]; rfl, hu.kt k (by decide)⟩, k⟩

/-- What a call on the words leaves. -/
structure Left (B g : Nat) (r : List Bs) (b : Bool) (w w' : World) : Prop where
  wd : WdP w' g r b
  bel : Below B w w'
  kt : Kt [99] w w'
theorem Left.after {B g : Nat} {r r' : List Bs} {b b' : Bool} {w a c : World} (h : Left B g r b w a) (k : Left B g r' b' a c) : Left B g r' b' w c := ⟨k.wd, h.bel.trans k.bel, h.kt.trans k.kt⟩
theorem Left.below {B g : Nat} {r : List Bs} {b : Bool} {w a c : World} (h : Left B g r b w a) (hB : B ≤ g) (k : Below a.heap.size a c) : Left B g r b w c := ⟨h.wd.below k, h.bel.trans (k.mono (by have := h.wd.lt; omega)), h.kt.then k⟩
theorem Left.start {B g : Nat} {r : List Bs} {b : Bool} {w : World} (h : WdP w g r b) : Left B g r b w w := ⟨h, Below.refl _ _, Kt.refl _ _⟩
theorem Left.mark {B g : Nat} {r : List Bs} {b : Bool} {w a : World} (h : Left B g r b w a) (hB : B ≤ g) : Left B g r true w (a.setCell ⟨g, 1, none⟩ (.bool true)) := by
  obtain ⟨h1, h2⟩ := h.wd.mark
  exact ⟨h1, h.bel.setCell (p := ⟨g, 1, none⟩) hB _, h.kt.trans h2⟩

set_option maxHeartbeats 1000000 in
theorem next_any (B g : Nat) (r : List Bs) (b : Bool) (w : World) (H : WdP w g r b) (hB : B ≤ g) (hl : r.length ≤ 1000000) :
    Calls Tryz.prog 96 #[.pointer (some ⟨g, 0, none⟩)] w fun e w' => e = .returned (.string ⟨(hd r).toArray⟩) ∧ Left B g (tl r) b w w' := by
  cases r with
  | nil =>
    have H' := Lib.hid (Left.start (B := B) H)
    obtain ⟨v, e, A, c, rfl, hc, hr⟩ := H
    obtain ⟨c0, c1, f0, f1⟩ := wd_cells e
    clear hr e
    go_enter Tryz.func96, Tryz.ntmps96
    go_wp2
    go_ret
    exact ⟨rfl, H'.out⟩
  | cons x r =>
    obtain ⟨v, e, hR⟩ := H
    have hR' := Lib.hid hR
    obtain ⟨A, c, rfl, hc, hr⟩ := hR
    obtain ⟨ad, cs, rfl, h1, h2⟩ := hr 0 x rfl
    rw [add_zero'] at h2
    obtain ⟨c0, c1, f0, f1⟩ := wd_cells e
    simp only [List.length_cons] at hc c0 hl
    have t1 : ((r.length : Int) + 1 == 0) = false := by rw [beq_eq_false_iff_ne]; omega
    have e' := Lib.hid e
    clear e hr h1
    by_cases hc1 : c = 1
    · subst hc1
      obtain rfl : r = [] := List.eq_nil_of_length_eq_zero (by omega)
      have hN := Lib.hid (WdP.next e'.out (u := .slice (some ad) 0 0) (r := []) ⟨_, _, rfl, Nat.le_refl _, fun j x hx => by simp at hx⟩)
      go_enter Tryz.func96, Tryz.ntmps96
      go_wp2
      go_ret
      exact ⟨rfl, hN.out.1, (Below.refl B w).setCell (p := ⟨g, 0, none⟩) hB _, hN.out.2⟩
    · have hN := Lib.hid (WdP.next e'.out (rs_tail rfl hR'.out))
      go_enter Tryz.func96, Tryz.ntmps96
      go_wp2
      go_ret
      exact ⟨rfl, hN.out.1, (Below.refl B w).setCell (p := ⟨g, 0, none⟩) hB _, hN.out.2⟩

set_option maxHeartbeats 1000000 in
theorem numberOf_any (B g : Nat) (r : List Bs) (b : Bool) (x : Bs) (w : World) (H : WdP w g r b) (hB : B ≤ g) (hB9 : 9 ≤ B) (hE : Env w) (hx : x.length ≤ 1000000) :
    Calls Tryz.prog 116 #[.pointer (some ⟨g, 0, none⟩), .string ⟨x.toArray⟩] w fun e w' => e = .returned (.int .i64 (mNumOf x (r, b)).1) ∧ Left B g (mNumOf x (r, b)).2.1 (mNumOf x (r, b)).2.2 w w' := by
  have H' := Lib.hid (Left.start (B := B) H)
  have hnb := num_bd x
  have HP := Lib.hid (parseInt_any x w hE hx)
  have hbad := Lib.hid (fun (h : numGood x = false) => show mNumOf x (r, b) = (0, (r, true)) from by unfold mNumOf; rw [h]; rfl)
  have hgood := Lib.hid (fun (h : numGood x = true) => show mNumOf x (r, b) = (num x, (r, b)) from by unfold mNumOf; rw [h]; rfl)
  have hE' := Lib.hid hE
  have hsz : (⟨x.toArray⟩ : ByteArray).size = x.length := by simp [ByteArray.size]
  clear hE H
  go_enter Tryz.func116, Tryz.ntmps116
  go_wp2_with fail
  refine HP.out.mono ?_
  rintro e w1 ⟨u, rfl, b1⟩
  have L1 := Lib.hid (H'.out.below hB b1)
  have hE1 := Lib.hid (hE'.out.of b1)
  obtain ⟨v1, e1, _⟩ := L1.out.wd
  obtain ⟨c0, c1, f0, f1⟩ := wd_cells e1
  clear e1 b1 HP
  obtain ⟨n, hn⟩ : ∃ n, num x = n := ⟨_, rfl⟩
  have hng := Lib.hid (show numGood x = (decide (0 ≤ n) && decide (x.length ≤ 18) && (dig n == x)) from by unfold numGood; rw [hn])
  rw [hn] at hgood
  rw [hn] at hnb ⊢
  clear hn
  by_cases q1 : n < 0
  · have hr := Lib.hid (hbad.out (by rw [hng.out, decide_eq_false (by omega)]; rfl))
    go_wp2
    go_ret
    rw [hr.out]
    exact ⟨rfl, L1.out.mark hB⟩
  by_cases q2 : 18 < x.length
  · have t2 : (18 : Int) < (x.length : Int) := by omega
    have hr := Lib.hid (hbad.out (by rw [hng.out, decide_eq_false (show ¬ x.length ≤ 18 from by omega)]; simp))
    go_wp2
    go_ret
    rw [hr.out]
    exact ⟨rfl, L1.out.mark hB⟩
  have t2 : ¬ (18 : Int) < (x.length : Int) := by omega
  have HN := Lib.hid (num64_any n w1 hE1.out ⟨by omega, by omega⟩)
  obtain ⟨Y, hY⟩ : ∃ Y, dig n = Y := ⟨_, rfl⟩
  rw [hY] at HN
  have hng := Lib.hid (show numGood x = (Y == x) from by rw [hng.out, hY, decide_eq_true (by omega), decide_eq_true (by omega)]; rfl)
  clear hY
  go_wp2_with fail
  refine HN.out.mono ?_
  rintro e w2 ⟨rfl, b2⟩
  have L2 := Lib.hid (L1.out.below hB b2)
  obtain ⟨v2, e2, _⟩ := L2.out.wd
  obtain ⟨d0, d1, g0, g1⟩ := wd_cells e2
  clear e2 b2 HN c0 c1 f0 f1
  by_cases q3 : Y = x
  · have t3 : (Y == x) = true := by simp [q3]
    have t4 : (Y != x) = false := by simp [q3]
    have hr := Lib.hid (hgood.out (by rw [hng.out, t3]))
    clear q3
    go_wp2
    go_ret
    rw [hr.out]
    exact ⟨rfl, L2.out⟩
  · have t3 : (Y == x) = false := by simp [q3]
    have t4 : (Y != x) = true := by simp [q3]
    have hr := Lib.hid (hbad.out (by rw [hng.out, t3]))
    clear q3
    go_wp2
    go_ret
    rw [hr.out]
    exact ⟨rfl, L2.out.mark hB⟩
/-- What the words may be. -/
def Wl (r : List Bs) : Prop := r.length ≤ 1000000 ∧ ∀ x ∈ r, x.length ≤ 1000000
theorem Wl.tl {r : List Bs} (h : Wl r) : Wl (tl r) := by
  cases r with
  | nil => exact h
  | cons x r => exact ⟨by have := h.1; simp only [List.length_cons] at this; show r.length ≤ _; omega, fun y hy => h.2 y (List.mem_cons_of_mem _ hy)⟩
theorem Wl.hd {r : List Bs} (h : Wl r) : (hd r).length ≤ 1000000 := by
  cases r with
  | nil => simp [Cf.hd]
  | cons x r => exact h.2 x (by simp)
theorem number_any (B g : Nat) (r : List Bs) (b : Bool) (w : World) (H : WdP w g r b) (hB : B ≤ g) (hB9 : 9 ≤ B) (hE : Env w) (hr : Wl r) :
    Calls Tryz.prog 97 #[.pointer (some ⟨g, 0, none⟩)] w fun e w' => e = .returned (.int .i64 (mNum (r, b)).1) ∧ Left B g (mNum (r, b)).2.1 (mNum (r, b)).2.2 w w' := by
  have HX := Lib.hid (next_any B g r b w H hB hr.1)
  have hxl := hr.hd
  have hE' := Lib.hid hE
  have hm : mNum (r, b) = mNumOf (hd r) (tl r, b) := rfl
  rw [hm]
  generalize hd r = x at *
  generalize tl r = r1 at *
  clear hm hE H
  go_enter Tryz.func97, Tryz.ntmps97
  go_wp2_with fail
  refine HX.out.mono ?_
  rintro e w1 ⟨rfl, L1⟩
  have HN := Lib.hid (numberOf_any B g r1 b x w1 L1.wd hB hB9 (hE'.out.keep (L1.bel.mono hB9)) hxl)
  have L1' := Lib.hid L1
  clear L1 HX
  go_wp2_with fail
  refine HN.out.mono ?_
  rintro e w2 ⟨rfl, L2⟩
  have L2' := Lib.hid (L1'.out.after L2)
  clear L2 HN
  go_wp2
  go_ret
  exact ⟨rfl, L2'.out⟩
theorem wtime_any (B g : Nat) (r : List Bs) (b : Bool) (w : World) (H : WdP w g r b) (hB : B ≤ g) (hB9 : 9 ≤ B) (hE : Env w) (hr : Wl r) :
    Calls Tryz.prog 98 #[.pointer (some ⟨g, 0, none⟩)] w fun e w' => e = .returned (.int .i64 (mTime (r, b)).1) ∧ Left B g (mTime (r, b)).2.1 (mTime (r, b)).2.2 w w' := by
  have HX := Lib.hid (next_any B g r b w H hB hr.1)
  have hxl := hr.hd
  have hE' := Lib.hid hE
  have hm := Lib.hid (show mTime (r, b) = if hd r = never then (4611686018427387904, (tl r, b)) else mNumOf (hd r) (tl r, b) from rfl)
  generalize hd r = x at *
  generalize tl r = r1 at *
  clear hE H
  go_enter Tryz.func98, Tryz.ntmps98
  go_wp2_with fail
  refine HX.out.mono ?_
  rintro e w1 ⟨rfl, L1⟩
  have HN := Lib.hid (numberOf_any B g r1 b x w1 L1.wd hB hB9 (hE'.out.keep (L1.bel.mono hB9)) hxl)
  have L1' := Lib.hid L1
  clear L1 HX
  by_cases q : x = never
  · subst q
    have hm := Lib.hid (show mTime (r, b) = (4611686018427387904, (r1, b)) from by rw [hm.out, if_pos rfl])
    go_wp2
    go_ret
    rw [hm.out]
    exact ⟨rfl, L1'.out⟩
  · have t1 : (x == [110, 101, 118, 101, 114]) = false := by rw [beq_eq_false_iff_ne]; exact q
    have t2 : (x != [110, 101, 118, 101, 114]) = true := by simp [bne, t1]
    have hm := Lib.hid (show mTime (r, b) = mNumOf x (r1, b) from by rw [hm.out, if_neg q])
    clear q
    go_wp2_with fail
    refine HN.out.mono ?_
    rintro e w2 ⟨rfl, L2⟩
    have L2' := Lib.hid (L1'.out.after L2)
    clear L2 HN
    go_wp2
    go_ret
    rw [hm.out]
    exact ⟨rfl, L2'.out⟩
theorem wcode_any (B g : Nat) (r : List Bs) (b : Bool) (w : World) (H : WdP w g r b) (hB : B ≤ g) (hr : Wl r) :
    Calls Tryz.prog 100 #[.pointer (some ⟨g, 0, none⟩)] w fun e w' => e = .returned (.string ⟨(mCode (r, b)).1.toArray⟩) ∧ Left B g (mCode (r, b)).2.1 (mCode (r, b)).2.2 w w' := by
  have HX := Lib.hid (next_any B g r b w H hB hr.1)
  have hxl := hr.hd
  have hm := Lib.hid (show mCode (r, b) = if codeOk (hd r) then (hd r, (tl r, b)) else ([], (tl r, true)) from rfl)
  generalize hd r = x at *
  generalize tl r = r1 at *
  clear H
  go_enter Tryz.func100, Tryz.ntmps100
  go_wp2_with fail
  refine HX.out.mono ?_
  rintro e w1 ⟨rfl, L1⟩
  have L1' := Lib.hid L1
  obtain ⟨v1, e1, _⟩ := L1.wd
  obtain ⟨c0, c1, f0, f1⟩ := wd_cells e1
  clear L1 HX e1
  go_wp2_with fail
  refine (isCode_any x w1 (by omega)).mono ?_
  rintro e w2 ⟨rfl, rfl⟩
  cases q : codeOk x with
  | true =>
    have hm := Lib.hid (show mCode (r, b) = (x, (r1, b)) from by rw [hm.out, q]; rfl)
    clear q
    go_wp2
    go_ret
    rw [hm.out]
    exact ⟨rfl, L1'.out⟩
  | false =>
    have hm := Lib.hid (show mCode (r, b) = ([], (r1, true)) from by rw [hm.out, q]; rfl)
    clear q
    go_wp2
    go_ret
    rw [hm.out]
    exact ⟨rfl, L1'.out.mark hB⟩

theorem kn_at (k : Nat) (h : k < 4) : ∀ w, (Instr.index 82 (.agg #[.string ⟨#[98, 97, 115, 105, 99]⟩, .string ⟨#[100, 111, 99, 116, 111, 114]⟩, .string ⟨#[99, 97, 114]⟩, .string ⟨#[97, 105, 114]⟩]) (.int .i64 (k : Int))).run Tryz.prog w = .ok (.string ⟨(kindName ((k : Int) + 1)).toArray⟩) w := by
  intro w
  match k, h with
  | 0, _ => exact (show (Instr.index 82 (.agg #[.string ⟨#[98, 97, 115, 105, 99]⟩, .string ⟨#[100, 111, 99, 116, 111, 114]⟩, .string ⟨#[99, 97, 114]⟩, .string ⟨#[97, 105, 114]⟩]) (.int .i64 0)).run Tryz.prog w = .ok (.string ⟨#[98, 97, 115, 105, 99]⟩) w by kernel_rfl)
  | 1, _ => exact (show (Instr.index 82 (.agg #[.string ⟨#[98, 97, 115, 105, 99]⟩, .string ⟨#[100, 111, 99, 116, 111, 114]⟩, .string ⟨#[99, 97, 114]⟩, .string ⟨#[97, 105, 114]⟩]) (.int .i64 1)).run Tryz.prog w = .ok (.string ⟨#[100, 111, 99, 116, 111, 114]⟩) w by kernel_rfl)
  | 2, _ => exact (show (Instr.index 82 (.agg #[.string ⟨#[98, 97, 115, 105, 99]⟩, .string ⟨#[100, 111, 99, 116, 111, 114]⟩, .string ⟨#[99, 97, 114]⟩, .string ⟨#[97, 105, 114]⟩]) (.int .i64 2)).run Tryz.prog w = .ok (.string ⟨#[99, 97, 114]⟩) w by kernel_rfl)
  | 3, _ => exact (show (Instr.index 82 (.agg #[.string ⟨#[98, 97, 115, 105, 99]⟩, .string ⟨#[100, 111, 99, 116, 111, 114]⟩, .string ⟨#[99, 97, 114]⟩, .string ⟨#[97, 105, 114]⟩]) (.int .i64 3)).run Tryz.prog w = .ok (.string ⟨#[97, 105, 114]⟩) w by kernel_rfl)
theorem kname_none {x : Bs} (h : ∀ i : Nat, i < 4 → kindName ((i : Int) + 1) ≠ x) : kindOf x = 0 := by
  unfold kindOf
  rw [if_neg (fun e => h 0 (by decide) e.symm), if_neg (fun e => h 1 (by decide) e.symm), if_neg (fun e => h 2 (by decide) e.symm), if_neg (fun e => h 3 (by decide) e.symm)]
theorem kname_one {k : Int} (h : kndOk k = true) {x : Bs} (e : kindName k = x) : kindOf x = k := by subst e; exact kindOf_name h
set_option maxHeartbeats 1000000 in
theorem wkind_any (B g : Nat) (r : List Bs) (b : Bool) (w : World) (H : WdP w g r b) (hB : B ≤ g) (hB9 : 9 ≤ B) (hE : Env w) (hr : Wl r) :
    Calls Tryz.prog 99 #[.pointer (some ⟨g, 0, none⟩)] w fun e w' => e = .returned (.int .i64 (mKind (r, b)).1) ∧ Left B g (mKind (r, b)).2.1 (mKind (r, b)).2.2 w w' := by
  have HX := Lib.hid (next_any B g r b w H hB hr.1)
  have hE' := Lib.hid hE
  have hm := Lib.hid (show mKind (r, b) = (kindOf (hd r), (tl r, b || decide (kindOf (hd r) = 0))) from rfl)
  generalize hd r = x at *
  generalize tl r = r1 at *
  clear H hE
  go_enter Tryz.func99, Tryz.ntmps99
  go_wp2_with fail
  refine HX.out.mono ?_
  rintro e w1 ⟨rfl, L1⟩
  have L1' := Lib.hid L1
  have hE1 := hE'.out.keep (L1.bel.mono hB9)
  obtain ⟨v1, e1, _⟩ := L1.wd
  obtain ⟨c0, c1, f0, f1⟩ := wd_cells e1
  have k0 := hE1.k0; have k1 := hE1.k1; have k2 := hE1.k2; have k3 := hE1.k3
  clear L1 HX e1 hE1
  go_wp2_with fail
  clear k0 k1 k2 k3
  go_loop [9] (fun i => ∃ k : Nat, i = .int .i64 (k : Int) ∧ k ≤ 4 ∧ ∀ j, j < k → kindName ((j : Int) + 1) ≠ x) (fun i => 4 - (RowKit.intOf i).toNat)
  case atStart => exact ⟨0, rfl, by omega, fun j hj => absurd hj (by omega)⟩
  case round =>
    obtain ⟨k, rfl, hk, hno⟩ := hrel
    have hno' := Lib.hid hno
    clear hno
    by_cases hlt : k < 4
    · have e1 : (k : Int) < 4 := by omega
      have e2 : (0 : Int) ≤ (k : Int) := by omega
      have hix := kn_at k hlt
      obtain ⟨Y, hY⟩ : ∃ Y, kindName ((k : Int) + 1) = Y := ⟨_, rfl⟩
      rw [hY] at hix
      by_cases q : Y = x
      · have t1 : (Y == x) = true := by simp [q]
        have t2 : (Y != x) = false := by simp [q]
        have hr := Lib.hid (show mKind (r, b) = ((k : Int) + 1, (r1, b)) from by
          have hok : kndOk ((k : Int) + 1) = true := by unfold kndOk inR; simp; omega
          have h0 : kindOf x = (k : Int) + 1 := kname_one hok (hY.trans q)
          rw [hm.out, h0, decide_eq_false (by omega), Bool.or_false])
        clear q hY
        go_wp2
        go_ret
        rw [hr.out]
        exact ⟨rfl, L1'.out⟩
      · have t1 : (Y == x) = false := by simp [q]
        have t2 : (Y != x) = true := by simp [q]
        have hs := Lib.hid (show ∀ j, j < k + 1 → kindName ((j : Int) + 1) ≠ x from fun j hj => by
          by_cases e : j < k
          · exact hno'.out j e
          · obtain rfl : j = k := by omega
            rw [hY]; exact q)
        clear q hY
        go_wp2
        go_round
        case rel => exact ⟨k + 1, by go_num, by omega, hs.out⟩
        case measure => simp [RowKit.intOf]; omega
    · obtain rfl : k = 4 := by omega
      have hr := Lib.hid (show mKind (r, b) = (0, (r1, true)) from by rw [hm.out, kname_none hno'.out]; simp)
      go_wp2
      go_ret
      rw [hr.out]
      exact ⟨rfl, L1'.out.mark hB⟩
end Go.Proofs.YtjklpikopgihgaaGreatDoor
