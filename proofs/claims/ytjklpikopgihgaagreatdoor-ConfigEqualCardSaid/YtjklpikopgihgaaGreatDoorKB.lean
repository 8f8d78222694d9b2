/- Configurations that are being built: their rows; the parameters' setters. -/
import Derived.Test.YtjklpikopgihgaaGreatDoorKA
set_option linter.unusedVariables false
set_option maxRecDepth 100000
set_option linter.unusedSimpArgs false
namespace Go.Proofs.YtjklpikopgihgaaGreatDoor
open Go.RowKit Go.Lib Cf

def tcs (l : List (Int × Int × Int)) : List Value := l.flatMap fun e => [.int .i64 e.1, .int .i64 e.2.1, .int .i64 e.2.2]
theorem tcs_snoc (l : List (Int × Int × Int)) (e : Int × Int × Int) : tcs (l ++ [e]) = tcs l ++ [.int .i64 e.1, .int .i64 e.2.1, .int .i64 e.2.2] := by simp [tcs]
def pcs (ps : List (Plan × Value)) : List Value := ps.flatMap fun p => [.string ⟨p.1.code.toArray⟩, .int .i64 p.1.urg, p.2]
theorem pcs_snoc (l : List (Plan × Value)) (e : Plan × Value) : pcs (l ++ [e]) = pcs l ++ [.string ⟨e.1.code.toArray⟩, .int .i64 e.1.urg, e.2] := by simp [pcs]
theorem infoEdge : (Tryz.prog.info? 47).map (fun i => (i.zero, i.size, i.bytes)) = some (some (.agg #[.int .i64 0, .int .i64 0, .int .i64 0]), 3, 24) := by kernel_rfl
theorem infoUnit : (Tryz.prog.info? 50).map (fun i => (i.zero, i.size, i.bytes)) = some (some (.agg #[.int .i64 0, .int .i64 0, .int .i64 0]), 3, 24) := by kernel_rfl
theorem infoPlan : (Tryz.prog.info? 43).map (fun i => (i.zero, i.size, i.bytes)) = some (some (.agg #[.string ⟨#[]⟩, .int .i64 0, .slice none 0 0]), 3, 48) := by kernel_rfl
/-- The types of a configuration's blocks. -/
def cfgTs : List TypeId := [27, 3, 47, 50, 43]
/-- A configuration at block g; its rows are its own; its blocks are not below B. -/
structure CfO (w : World) (B g : Nat) (c : Cfg) (vd ve vu vp : Value) (ps : List (Plan × Value)) : Prop where
  cb : CB w g c vd ve vu vp
  low : B ≤ g
  d : w.ownsRow B 3 1 vd c.ds.length (ncs c.ds)
  e : w.ownsRow B 47 3 ve c.es.length (tcs c.es)
  u : w.ownsRow B 50 3 vu c.us.length (tcs c.us)
  p : w.ownsRow B 43 3 vp c.ps.length (pcs ps)
  pm : ps.map (·.1) = c.ps
  ks : ∀ q ∈ ps, w.ownsRow B 3 1 q.2 q.1.kinds.length (ncs q.1.kinds) ∧ ∀ i, q.2.ownBlock = some i → vd.ownBlock ≠ some i
def CfP (w : World) (B g : Nat) (c : Cfg) : Prop := ∃ vd ve vu vp ps, CfO w B g c vd ve vu vp ps
section
variable {w w' : World} {B g : Nat} {c : Cfg} {vd ve vu vp : Value} {ps : List (Plan × Value)}
theorem CfO.kt {X : List TypeId} (h : CfO w B g c vd ve vu vp ps) (k : Kt X w w') (h0 : 27 ∉ X) (h1 : 3 ∉ X) (h2 : 47 ∉ X) (h3 : 50 ∉ X) (h4 : 43 ∉ X) : CfO w' B g c vd ve vu vp ps :=
  ⟨k _ _ _ _ h.cb h0, h.low, own_kt h.d k h1, own_kt h.e k h2, own_kt h.u k h3, own_kt h.p k h4, h.pm, fun q hq => ⟨own_kt (h.ks q hq).1 k h1, (h.ks q hq).2⟩⟩
theorem CfO.words (h : CfO w B g c vd ve vu vp ps) (k : Kt [99] w w') : CfO w' B g c vd ve vu vp ps := h.kt k (by decide) (by decide) (by decide) (by decide) (by decide)
theorem CfO.below (h : CfO w B g c vd ve vu vp ps) (hb : Below w.heap.size w w') : CfO w' B g c vd ve vu vp ps := h.kt (X := []) (Kt.of_below _ hb) (by simp) (by simp) (by simp) (by simp) (by simp)
theorem CfP.words (h : CfP w B g c) (k : Kt [99] w w') : CfP w' B g c := by obtain ⟨vd, ve, vu, vp, ps, h⟩ := h; exact ⟨vd, ve, vu, vp, ps, h.words k⟩
theorem CfP.below (h : CfP w B g c) (k : Below w.heap.size w w') : CfP w' B g c := by obtain ⟨vd, ve, vu, vp, ps, h⟩ := h; exact ⟨vd, ve, vu, vp, ps, h.below k⟩
theorem CfP.lt (h : CfP w B g c) : g < w.heap.size ∧ B ≤ g := by obtain ⟨vd, ve, vu, vp, ps, h⟩ := h; exact ⟨h.cb.lt, h.low⟩
/-- Cells are stored into the configuration's block. -/
theorem CfO.store (h : CfO w B g c vd ve vu vp ps) {i : Nat} {x : Value} {c' : Cfg} (hc : (cfgCells c vd ve vu vp).toArray.setIfInBounds i x = (cfgCells c' vd ve vu vp).toArray) (hd : c'.ds = c.ds) (he : c'.es = c.es) (hu : c'.us = c.us) (hp : c'.ps = c.ps) :
    CfO (w.setCell ⟨g, i, none⟩ x) B g c' vd ve vu vp ps ∧ Kt cfgTs w (w.setCell ⟨g, i, none⟩ x) := by
  have k : Kt [27] w (w.setCell ⟨g, i, none⟩ x) := Kt.setCell (p := ⟨g, i, none⟩) h.cb (by simp) x
  refine ⟨⟨?_, h.low, by rw [hd]; exact own_kt h.d k (by decide), by rw [he]; exact own_kt h.e k (by decide), by rw [hu]; exact own_kt h.u k (by decide), by rw [hp]; exact own_kt h.p k (by decide), h.pm.trans hp.symm, fun q hq => ⟨own_kt (h.ks q hq).1 k (by decide), (h.ks q hq).2⟩⟩, k.mono (fun T hT => by simp at hT; subst hT; decide)⟩
  unfold CB
  rw [heap_setCell_same w g i _ _ _ h.cb, hc]
theorem cfg_sub {T : TypeId} {X : List TypeId} (h : X ⊆ cfgTs) : T ∈ X → T ∈ cfgTs := fun hT => h hT
/-- One more district. -/
theorem CfO.push_d (h : CfO w B g c vd ve vu vp ps) {w3 : World} {v3 : Value} {z : Int} (hO : w3.ownsRow B 3 1 v3 (c.ds.length + 1) (ncs c.ds ++ [.int .i64 z])) (hg : w.grownBy w3 vd.ownBlock) (hn : ∀ b, v3.ownBlock = some b → vd.ownBlock = some b ∨ b = w.heap.size) :
    CfO (w3.setCell ⟨g, 1, none⟩ v3) B g { c with ds := c.ds ++ [z] } v3 ve vu vp ps ∧ Kt cfgTs w (w3.setCell ⟨g, 1, none⟩ v3) := by
  have k1 : Kt [3] w w3 := Kt.grown h.d (by simp) hg
  have hcb : CB w3 g c vd ve vu vp := k1 _ _ _ _ h.cb (by decide)
  have k2 : Kt [27] w3 (w3.setCell ⟨g, 1, none⟩ v3) := Kt.setCell (p := ⟨g, 1, none⟩) hcb (by simp) v3
  refine ⟨⟨?_, h.low, ?_, own_kt (own_kt h.e k1 (by decide)) k2 (by decide), own_kt (own_kt h.u k1 (by decide)) k2 (by decide), own_kt (own_kt h.p k1 (by decide)) k2 (by decide), h.pm, fun q hq => ?_⟩, (k1.mono (fun T hT => by simp at hT; subst hT; decide)).trans (k2.mono (fun T hT => by simp at hT; subst hT; decide))⟩
  · unfold CB
    rw [heap_setCell_same w3 g 1 _ _ _ hcb]; rfl
  · have := own_kt hO k2 (by decide)
    rw [List.length_append, ncs_app]
    exact this
  · obtain ⟨q1, q2⟩ := h.ks q hq
    refine ⟨own_kt (own_kept q1 fun i hi => hg.block i (World.ownsRow.lt q1 i hi).2 fun e => q2 i hi e.symm) k2 (by decide), fun i hi e => ?_⟩
    rcases hn i e with e2 | e2
    · exact q2 i hi e2
    · have := (World.ownsRow.lt q1 i hi).2
      omega
theorem CfO.push_e (h : CfO w B g c vd ve vu vp ps) {w3 : World} {v3 : Value} {x : Int × Int × Int} (hO : w3.ownsRow B 47 3 v3 (c.es.length + 1) (tcs c.es ++ [.int .i64 x.1, .int .i64 x.2.1, .int .i64 x.2.2])) (hg : w.grownBy w3 ve.ownBlock) :
    CfO (w3.setCell ⟨g, 2, none⟩ v3) B g { c with es := c.es ++ [x] } vd v3 vu vp ps ∧ Kt cfgTs w (w3.setCell ⟨g, 2, none⟩ v3) := by
  have k1 : Kt [47] w w3 := Kt.grown h.e (by simp) hg
  have hcb : CB w3 g c vd ve vu vp := k1 _ _ _ _ h.cb (by decide)
  have k2 : Kt [27] w3 (w3.setCell ⟨g, 2, none⟩ v3) := Kt.setCell (p := ⟨g, 2, none⟩) hcb (by simp) v3
  refine ⟨⟨?_, h.low, own_kt (own_kt h.d k1 (by decide)) k2 (by decide), ?_, own_kt (own_kt h.u k1 (by decide)) k2 (by decide), own_kt (own_kt h.p k1 (by decide)) k2 (by decide), h.pm, fun q hq => ⟨own_kt (own_kt (h.ks q hq).1 k1 (by decide)) k2 (by decide), (h.ks q hq).2⟩⟩, (k1.mono (fun T hT => by simp at hT; subst hT; decide)).trans (k2.mono (fun T hT => by simp at hT; subst hT; decide))⟩
  · unfold CB
    rw [heap_setCell_same w3 g 2 _ _ _ hcb]; rfl
  · have := own_kt hO k2 (by decide)
    rw [List.length_append, tcs_snoc]
    exact this
theorem CfO.push_u (h : CfO w B g c vd ve vu vp ps) {w3 : World} {v3 : Value} {x : Int × Int × Int} (hO : w3.ownsRow B 50 3 v3 (c.us.length + 1) (tcs c.us ++ [.int .i64 x.1, .int .i64 x.2.1, .int .i64 x.2.2])) (hg : w.grownBy w3 vu.ownBlock) :
    CfO (w3.setCell ⟨g, 3, none⟩ v3) B g { c with us := c.us ++ [x] } vd ve v3 vp ps ∧ Kt cfgTs w (w3.setCell ⟨g, 3, none⟩ v3) := by
  have k1 : Kt [50] w w3 := Kt.grown h.u (by simp) hg
  have hcb : CB w3 g c vd ve vu vp := k1 _ _ _ _ h.cb (by decide)
  have k2 : Kt [27] w3 (w3.setCell ⟨g, 3, none⟩ v3) := Kt.setCell (p := ⟨g, 3, none⟩) hcb (by simp) v3
  refine ⟨⟨?_, h.low, own_kt (own_kt h.d k1 (by decide)) k2 (by decide), own_kt (own_kt h.e k1 (by decide)) k2 (by decide), ?_, own_kt (own_kt h.p k1 (by decide)) k2 (by decide), h.pm, fun q hq => ⟨own_kt (own_kt (h.ks q hq).1 k1 (by decide)) k2 (by decide), (h.ks q hq).2⟩⟩, (k1.mono (fun T hT => by simp at hT; subst hT; decide)).trans (k2.mono (fun T hT => by simp at hT; subst hT; decide))⟩
  · unfold CB
    rw [heap_setCell_same w3 g 3 _ _ _ hcb]; rfl
  · have := own_kt hO k2 (by decide)
    rw [List.length_append, tcs_snoc]
    exact this
theorem CfO.push_p (h : CfO w B g c vd ve vu vp ps) {w3 : World} {v3 : Value} {q : Plan} {u : Value} (hu : w.ownsRow B 3 1 u q.kinds.length (ncs q.kinds)) (hud : ∀ i, u.ownBlock = some i → vd.ownBlock ≠ some i) (hO : w3.ownsRow B 43 3 v3 (c.ps.length + 1) (pcs ps ++ [.string ⟨q.code.toArray⟩, .int .i64 q.urg, u])) (hg : w.grownBy w3 vp.ownBlock) :
    CfO (w3.setCell ⟨g, 4, none⟩ v3) B g { c with ps := c.ps ++ [q] } vd ve vu v3 (ps ++ [(q, u)]) ∧ Kt cfgTs w (w3.setCell ⟨g, 4, none⟩ v3) := by
  have k1 : Kt [43] w w3 := Kt.grown h.p (by simp) hg
  have hcb : CB w3 g c vd ve vu vp := k1 _ _ _ _ h.cb (by decide)
  have k2 : Kt [27] w3 (w3.setCell ⟨g, 4, none⟩ v3) := Kt.setCell (p := ⟨g, 4, none⟩) hcb (by simp) v3
  refine ⟨⟨?_, h.low, own_kt (own_kt h.d k1 (by decide)) k2 (by decide), own_kt (own_kt h.e k1 (by decide)) k2 (by decide), own_kt (own_kt h.u k1 (by decide)) k2 (by decide), ?_, by rw [List.map_append, h.pm]; rfl, fun x hx => ?_⟩, (k1.mono (fun T hT => by simp at hT; subst hT; decide)).trans (k2.mono (fun T hT => by simp at hT; subst hT; decide))⟩
  · unfold CB
    rw [heap_setCell_same w3 g 4 _ _ _ hcb]; rfl
  · have := own_kt hO k2 (by decide)
    rw [List.length_append, pcs_snoc]
    exact this
  · rcases List.mem_append.1 hx with hx | hx
    · exact ⟨own_kt (own_kt (h.ks x hx).1 k1 (by decide)) k2 (by decide), (h.ks x hx).2⟩
    · simp only [List.mem_singleton] at hx
      subst hx
      exact ⟨own_kt (own_kt hu k1 (by decide)) k2 (by decide), hud⟩
end
/-- A new block with a configuration without lists. -/
theorem CfO.new (w : World) {B : Nat} (hB : B ≤ w.heap.size) (c : Cfg) (h : c.ds = [] ∧ c.es = [] ∧ c.us = [] ∧ c.ps = []) : CfO (w.alloc (.cells (cfgCells c (.slice none 0 0) (.slice none 0 0) (.slice none 0 0) (.slice none 0 0)).toArray 27)) B w.heap.size c (.slice none 0 0) (.slice none 0 0) (.slice none 0 0) (.slice none 0 0) [] := by
  obtain ⟨h1, h2, h3, h4⟩ := h
  refine ⟨cb_new w c _ _ _ _, hB, ?_, ?_, ?_, ?_, by rw [h4]; rfl, fun q hq => by cases hq⟩
  · rw [h1]; exact World.ownsRow_nil _ _ _ _
  · rw [h2]; exact World.ownsRow_nil _ _ _ _
  · rw [h3]; exact World.ownsRow_nil _ _ _ _
  · rw [h4]; exact World.ownsRow_nil _ _ _ _

theorem put0_any (B g : Nat) (c : Cfg) (z : Int) (w : World) (H : CfP w B g c) : Calls Tryz.prog 58 #[.pointer (some ⟨g, 0, none⟩), .int .i64 z] w fun e w' => (∃ u, e = .returned u) ∧ CfP w' B g (setN c 0 z) ∧ Below B w w' ∧ Kt cfgTs w w' := by
  obtain ⟨vd, ve, vu, vp, ps, H⟩ := H
  have c0 := H.cb.at_ 5 _ rfl
  have f0 := H.cb.frozen 5
  have hN := Lib.hid (H.store (i := 5) (x := .int .i64 z) (c' := setN c 0 z) rfl rfl rfl rfl rfl)
  have hB := Lib.hid ((Below.refl B w).setCell (p := ⟨g, 5, none⟩) H.low (.int .i64 z))
  clear H
  go_enter Tryz.func58, Tryz.ntmps58
  go_wp2
  go_end0
  exact ⟨⟨_, rfl⟩, ⟨_, _, _, _, _, hN.out.1⟩, hB.out, hN.out.2⟩
theorem put1_any (B g : Nat) (c : Cfg) (z : Int) (w : World) (H : CfP w B g c) : Calls Tryz.prog 60 #[.pointer (some ⟨g, 0, none⟩), .int .i64 z] w fun e w' => (∃ u, e = .returned u) ∧ CfP w' B g (setN c 1 z) ∧ Below B w w' ∧ Kt cfgTs w w' := by
  obtain ⟨vd, ve, vu, vp, ps, H⟩ := H
  have c0 := H.cb.at_ 6 _ rfl
  have f0 := H.cb.frozen 6
  have hN := Lib.hid (H.store (i := 6) (x := .int .i64 z) (c' := setN c 1 z) rfl rfl rfl rfl rfl)
  have hB := Lib.hid ((Below.refl B w).setCell (p := ⟨g, 6, none⟩) H.low (.int .i64 z))
  clear H
  go_enter Tryz.func60, Tryz.ntmps60
  go_wp2
  go_end0
  exact ⟨⟨_, rfl⟩, ⟨_, _, _, _, _, hN.out.1⟩, hB.out, hN.out.2⟩
theorem put2_any (B g : Nat) (c : Cfg) (z : Int) (w : World) (H : CfP w B g c) : Calls Tryz.prog 62 #[.pointer (some ⟨g, 0, none⟩), .int .i64 z] w fun e w' => (∃ u, e = .returned u) ∧ CfP w' B g (setN c 2 z) ∧ Below B w w' ∧ Kt cfgTs w w' := by
  obtain ⟨vd, ve, vu, vp, ps, H⟩ := H
  have c0 := H.cb.at_ 7 _ rfl
  have f0 := H.cb.frozen 7
  have hN := Lib.hid (H.store (i := 7) (x := .int .i64 z) (c' := setN c 2 z) rfl rfl rfl rfl rfl)
  have hB := Lib.hid ((Below.refl B w).setCell (p := ⟨g, 7, none⟩) H.low (.int .i64 z))
  clear H
  go_enter Tryz.func62, Tryz.ntmps62
  go_wp2
  go_end0
  exact ⟨⟨_, rfl⟩, ⟨_, _, _, _, _, hN.out.1⟩, hB.out, hN.out.2⟩
theorem put3_any (B g : Nat) (c : Cfg) (z : Int) (w : World) (H : CfP w B g c) : Calls Tryz.prog 64 #[.pointer (some ⟨g, 0, none⟩), .int .i64 z] w fun e w' => (∃ u, e = .returned u) ∧ CfP w' B g (setN c 3 z) ∧ Below B w w' ∧ Kt cfgTs w w' := by
  obtain ⟨vd, ve, vu, vp, ps, H⟩ := H
  have c0 := H.cb.at_ 8 _ rfl
  have f0 := H.cb.frozen 8
  have hN := Lib.hid (H.store (i := 8) (x := .int .i64 z) (c' := setN c 3 z) rfl rfl rfl rfl rfl)
  have hB := Lib.hid ((Below.refl B w).setCell (p := ⟨g, 8, none⟩) H.low (.int .i64 z))
  clear H
  go_enter Tryz.func64, Tryz.ntmps64
  go_wp2
  go_end0
  exact ⟨⟨_, rfl⟩, ⟨_, _, _, _, _, hN.out.1⟩, hB.out, hN.out.2⟩
theorem put4_any (B g : Nat) (c : Cfg) (z : Int) (w : World) (H : CfP w B g c) : Calls Tryz.prog 66 #[.pointer (some ⟨g, 0, none⟩), .int .i64 z] w fun e w' => (∃ u, e = .returned u) ∧ CfP w' B g (setN c 4 z) ∧ Below B w w' ∧ Kt cfgTs w w' := by
  obtain ⟨vd, ve, vu, vp, ps, H⟩ := H
  have c0 := H.cb.at_ 9 _ rfl
  have f0 := H.cb.frozen 9
  have hN := Lib.hid (H.store (i := 9) (x := .int .i64 z) (c' := setN c 4 z) rfl rfl rfl rfl rfl)
  have hB := Lib.hid ((Below.refl B w).setCell (p := ⟨g, 9, none⟩) H.low (.int .i64 z))
  clear H
  go_enter Tryz.func66, Tryz.ntmps66
  go_wp2
  go_end0
  exact ⟨⟨_, rfl⟩, ⟨_, _, _, _, _, hN.out.1⟩, hB.out, hN.out.2⟩
theorem put5_any (B g : Nat) (c : Cfg) (z : Int) (w : World) (H : CfP w B g c) : Calls Tryz.prog 68 #[.pointer (some ⟨g, 0, none⟩), .int .i64 z] w fun e w' => (∃ u, e = .returned u) ∧ CfP w' B g (setN c 5 z) ∧ Below B w w' ∧ Kt cfgTs w w' := by
  obtain ⟨vd, ve, vu, vp, ps, H⟩ := H
  have c0 := H.cb.at_ 10 _ rfl
  have f0 := H.cb.frozen 10
  have hN := Lib.hid (H.store (i := 10) (x := .int .i64 z) (c' := setN c 5 z) rfl rfl rfl rfl rfl)
  have hB := Lib.hid ((Below.refl B w).setCell (p := ⟨g, 10, none⟩) H.low (.int .i64 z))
  clear H
  go_enter Tryz.func68, Tryz.ntmps68
  go_wp2
  go_end0
  exact ⟨⟨_, rfl⟩, ⟨_, _, _, _, _, hN.out.1⟩, hB.out, hN.out.2⟩
theorem put6_any (B g : Nat) (c : Cfg) (z : Int) (w : World) (H : CfP w B g c) : Calls Tryz.prog 70 #[.pointer (some ⟨g, 0, none⟩), .int .i64 z] w fun e w' => (∃ u, e = .returned u) ∧ CfP w' B g (setN c 6 z) ∧ Below B w w' ∧ Kt cfgTs w w' := by
  obtain ⟨vd, ve, vu, vp, ps, H⟩ := H
  have c0 := H.cb.at_ 11 _ rfl
  have f0 := H.cb.frozen 11
  have hN := Lib.hid (H.store (i := 11) (x := .int .i64 z) (c' := setN c 6 z) rfl rfl rfl rfl rfl)
  have hB := Lib.hid ((Below.refl B w).setCell (p := ⟨g, 11, none⟩) H.low (.int .i64 z))
  clear H
  go_enter Tryz.func70, Tryz.ntmps70
  go_wp2
  go_end0
  exact ⟨⟨_, rfl⟩, ⟨_, _, _, _, _, hN.out.1⟩, hB.out, hN.out.2⟩
theorem put7_any (B g : Nat) (c : Cfg) (z : Int) (w : World) (H : CfP w B g c) : Calls Tryz.prog 72 #[.pointer (some ⟨g, 0, none⟩), .int .i64 z] w fun e w' => (∃ u, e = .returned u) ∧ CfP w' B g (setN c 7 z) ∧ Below B w w' ∧ Kt cfgTs w w' := by
  obtain ⟨vd, ve, vu, vp, ps, H⟩ := H
  have c0 := H.cb.at_ 12 _ rfl
  have f0 := H.cb.frozen 12
  have hN := Lib.hid (H.store (i := 12) (x := .int .i64 z) (c' := setN c 7 z) rfl rfl rfl rfl rfl)
  have hB := Lib.hid ((Below.refl B w).setCell (p := ⟨g, 12, none⟩) H.low (.int .i64 z))
  clear H
  go_enter Tryz.func72, Tryz.ntmps72
  go_wp2
  go_end0
  exact ⟨⟨_, rfl⟩, ⟨_, _, _, _, _, hN.out.1⟩, hB.out, hN.out.2⟩
theorem put8_any (B g : Nat) (c : Cfg) (z : Int) (w : World) (H : CfP w B g c) : Calls Tryz.prog 74 #[.pointer (some ⟨g, 0, none⟩), .int .i64 z] w fun e w' => (∃ u, e = .returned u) ∧ CfP w' B g (setN c 8 z) ∧ Below B w w' ∧ Kt cfgTs w w' := by
  obtain ⟨vd, ve, vu, vp, ps, H⟩ := H
  have c0 := H.cb.at_ 13 _ rfl
  have f0 := H.cb.frozen 13
  have hN := Lib.hid (H.store (i := 13) (x := .int .i64 z) (c' := setN c 8 z) rfl rfl rfl rfl rfl)
  have hB := Lib.hid ((Below.refl B w).setCell (p := ⟨g, 13, none⟩) H.low (.int .i64 z))
  clear H
  go_enter Tryz.func74, Tryz.ntmps74
  go_wp2
  go_end0
  exact ⟨⟨_, rfl⟩, ⟨_, _, _, _, _, hN.out.1⟩, hB.out, hN.out.2⟩
theorem put9_any (B g : Nat) (c : Cfg) (z : Int) (w : World) (H : CfP w B g c) : Calls Tryz.prog 76 #[.pointer (some ⟨g, 0, none⟩), .int .i64 z] w fun e w' => (∃ u, e = .returned u) ∧ CfP w' B g (setN c 9 z) ∧ Below B w w' ∧ Kt cfgTs w w' := by
  obtain ⟨vd, ve, vu, vp, ps, H⟩ := H
  have c0 := H.cb.at_ 14 _ rfl
  have f0 := H.cb.frozen 14
  have hN := Lib.hid (H.store (i := 14) (x := .int .i64 z) (c' := setN c 9 z) rfl rfl rfl rfl rfl)
  have hB := Lib.hid ((Below.refl B w).setCell (p := ⟨g, 14, none⟩) H.low (.int .i64 z))
  clear H
  go_enter Tryz.func76, Tryz.ntmps76
  go_wp2
  go_end0
  exact ⟨⟨_, rfl⟩, ⟨_, _, _, _, _, hN.out.1⟩, hB.out, hN.out.2⟩
theorem put_any (i : Nat) (hi : i < 10) (B g : Nat) (c : Cfg) (z : Int) (w : World) (H : CfP w B g c) : Calls Tryz.prog (putF i) #[.pointer (some ⟨g, 0, none⟩), .int .i64 z] w fun e w' => (∃ u, e = .returned u) ∧ CfP w' B g (setN c i z) ∧ Below B w w' ∧ Kt cfgTs w w' := by
  match i, hi with
  | 0, _ => exact put0_any B g c z w H
  | 1, _ => exact put1_any B g c z w H
  | 2, _ => exact put2_any B g c z w H
  | 3, _ => exact put3_any B g c z w H
  | 4, _ => exact put4_any B g c z w H
  | 5, _ => exact put5_any B g c z w H
  | 6, _ => exact put6_any B g c z w H
  | 7, _ => exact put7_any B g c z w H
  | 8, _ => exact put8_any B g c z w H
  | 9, _ => exact put9_any B g c z w H
end Go.Proofs.YtjklpikopgihgaaGreatDoor
