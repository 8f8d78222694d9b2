/- The code: readWords, lines with a word of their own. -/
import Derived.Test.YtjklpikopgihgaaGreatDoorKB
import Derived.Deep.RegionLaw
set_option linter.unusedVariables false
set_option maxRecDepth 100000
set_option linter.unusedSimpArgs false
namespace Go.Proofs.YtjklpikopgihgaaGreatDoor
open Go.RowKit Go.Lib Cf

/-- How long the lists may be. -/
def Lens (c : Cfg) : Prop := c.ds.length ≤ 1000000 ∧ c.es.length ≤ 1000000 ∧ c.us.length ≤ 1000000 ∧ c.ps.length ≤ 1000000
/-- What readWords leaves. -/
def RwPost (B gc gw : Nat) (c : Cfg) (r : List Bs) (b : Bool) (w : World) (e : Ending) (w' : World) : Prop :=
  e = .returned (.int .i64 (mWords c (r, b)).2.1) ∧ CfP w' B gc (mWords c (r, b)).1 ∧ WdP w' gw (mWords c (r, b)).2.2.1 (mWords c (r, b)).2.2.2 ∧ Below B w w'
theorem row_new (w : World) (T : TypeId) (xs : List Value) : ∀ (j : Nat) (u : Value), xs[j]? = some u → (w.alloc (.cells xs.toArray T)).cell? ⟨w.heap.size, j, none⟩ = some u := fun j u hj => by
  rw [cell_of_row _ _ j _ _ _ (heap_alloc_new _ _)]; simpa using hj
theorem one3 (a b c : Int) : ∀ u ∈ ([.int .i64 a, .int .i64 b, .int .i64 c] : List Value), u.oneCell' = true := by simp [Value.oneCell']
theorem oneP (a : ByteArray) (b : Int) (A : Option Addr) (n c : Nat) : ∀ u ∈ ([.string a, .int .i64 b, .slice A n c] : List Value), u.oneCell' = true := by simp [Value.oneCell']
theorem wd_cfg {w w' : World} {g : Nat} {r : List Bs} {b : Bool} (h : WdP w g r b) (k : Kt cfgTs w w') : WdP w' g r b := h.kt k (by decide) (by decide)
theorem alloc_below (w : World) (o : Obj) : Below w.heap.size w (w.alloc o) := (Below.refl _ _).alloc (Nat.le_refl _) o

set_option maxHeartbeats 1000000 in
theorem rw_centres (B gc gw : Nat) (c : Cfg) (r : List Bs) (b : Bool) (w : World)
    (C : CfP w B gc c) (H : WdP w gw r b) (hBw : B ≤ gw) (hB9 : 9 ≤ B) (hE : Env w) (hr : Wl r) (hlen : Lens c) (hx : hd r = wdCentres) :
    Calls Tryz.prog 87 #[.pointer (some ⟨gc, 0, none⟩), .pointer (some ⟨gw, 0, none⟩)] w (RwPost B gc gw c r b w) := by
  unfold RwPost
  have HX := Lib.hid (next_any B gw r b w H hBw hr.1)
  have hr1 := Lib.hid hr.tl
  have hE' := Lib.hid hE
  have hm := Lib.hid (show mWords c (r, b) = ({ c with ce := (mNum (tl r, b)).1 }, 1, (mNum (tl r, b)).2) from by unfold mWords; simp only [hx]; rfl)
  have C' := Lib.hid C
  rw [hx] at HX
  generalize tl r = r1 at *
  obtain ⟨hl1, hl2, hl3, hl4⟩ := hlen
  clear hE H C hx
  go_enter Tryz.func87, Tryz.ntmps87
  go_wp2_with fail
  refine HX.out.mono ?_
  rintro e w1 ⟨rfl, L1⟩
  have hE1 := Lib.hid (hE'.out.keep (L1.bel.mono hB9))
  have L1' := Lib.hid L1
  obtain ⟨vd, ve, vu, vp, ps, C1⟩ := C'.out.words L1.kt
  have C1' := Lib.hid C1
  clear L1 C1 HX hE'
  have HN := Lib.hid (number_any B gw r1 b w1 L1'.out.wd hBw hB9 hE1.out hr1.out)
  obtain ⟨z, hz⟩ : ∃ z, (mNum (r1, b)).1 = z := ⟨_, rfl⟩
  obtain ⟨s, hs⟩ : ∃ s, (mNum (r1, b)).2 = s := ⟨_, rfl⟩
  rw [hz, hs] at hm HN
  clear hz hs
  go_wp2_with fail
  refine HN.out.mono ?_
  rintro e w2 ⟨rfl, L2⟩
  have C2 := C1'.out.words L2.kt
  have c0 := C2.cb.at_ 0 _ rfl
  have f0 := C2.cb.frozen 0
  have hS := C2.store (i := 0) (x := .int .i64 z) (c' := { c with ce := z }) rfl rfl rfl rfl rfl
  have hend := Lib.hid (show CfP (w2.setCell ⟨gc, 0, none⟩ (.int .i64 z)) B gc { c with ce := z } ∧ WdP (w2.setCell ⟨gc, 0, none⟩ (.int .i64 z)) gw s.1 s.2 ∧ Below B w (w2.setCell ⟨gc, 0, none⟩ (.int .i64 z)) from ⟨⟨_, _, _, _, _, hS.1⟩, wd_cfg L2.wd hS.2, (L1'.out.bel.trans L2.bel).setCell (p := ⟨gc, 0, none⟩) C2.low _⟩)
  clear hS C2 L2 HN
  go_wp2
  go_ret
  rw [hm.out]
  exact ⟨rfl, hend.out⟩
set_option maxHeartbeats 4000000 in
theorem rw_node (B gc gw : Nat) (c : Cfg) (r : List Bs) (b : Bool) (w : World)
    (C : CfP w B gc c) (H : WdP w gw r b) (hBw : B ≤ gw) (hB9 : 9 ≤ B) (hE : Env w) (hr : Wl r) (hlen : Lens c) (hx : hd r = wdNode) :
    Calls Tryz.prog 87 #[.pointer (some ⟨gc, 0, none⟩), .pointer (some ⟨gw, 0, none⟩)] w (RwPost B gc gw c r b w) := by
  unfold RwPost
  have HX := Lib.hid (next_any B gw r b w H hBw hr.1)
  have hr1 := Lib.hid hr.tl
  have hE' := Lib.hid hE
  have hm := Lib.hid (show mWords c (r, b) = ({ c with ds := c.ds ++ [(mNum (tl r, b)).1] }, 2, (mNum (tl r, b)).2) from by unfold mWords; simp only [hx]; rfl)
  have C' := Lib.hid C
  rw [hx] at HX
  generalize tl r = r1 at *
  obtain ⟨hl1, hl2, hl3, hl4⟩ := hlen
  clear hE H C hx
  go_enter Tryz.func87, Tryz.ntmps87
  go_wp2_with fail
  refine HX.out.mono ?_
  rintro e w1 ⟨rfl, L1⟩
  have hE1 := Lib.hid (hE'.out.keep (L1.bel.mono hB9))
  have L1' := Lib.hid L1
  obtain ⟨vd, ve, vu, vp, ps, C1⟩ := C'.out.words L1.kt
  have C1' := Lib.hid C1
  clear L1 C1 HX hE'
  have H1 := Lib.hid (fun w' (h : Left B gw r1 b w1 w') => number_any B gw r1 b w' h.wd hBw hB9 (hE1.out.keep (h.bel.mono hB9)) hr1.out)
  obtain ⟨z, hz⟩ : ∃ z, (mNum (r1, b)).1 = z := ⟨_, rfl⟩
  obtain ⟨s, hs⟩ : ∃ s, (mNum (r1, b)).2 = s := ⟨_, rfl⟩
  rw [hz, hs] at hm H1
  clear hz hs
  obtain ⟨rA, rc, rfl⟩ := own_form C1'.out.d
  have h63 := Lib.hid (show c.ds.length ≤ 10000000 from by omega)
  go_wp2_with fail
  have hdr : Below w1.heap.size w1 w1.drew := (Below.refl _ _).drew
  have Lw := (Left.start (B := B) L1'.out.wd).below hBw hdr
  have Cw := C1'.out.below hdr
  have d1 := Cw.cb.at_ 1 _ rfl
  have f1 := Cw.cb.frozen 1
  clear hdr
  go_region_law (first
    | (go_simp; go_at_call 97; refine (H1.out _ Lw).mono ?_; rintro e w2 ⟨rfl, L2⟩; have Cw := Cw.words L2.kt; have Lw2 := Lw.after L2; have d2 := Cw.cb.at_ 1 _ rfl; have Ca := Cw.below (alloc_below w2 (.cells #[.int .i64 z] 3)); have d3 := Ca.cb.at_ 1 _ rfl)
    | (refine step_append1 rfl _ _ 22 3 rfl 1 8 _ Tryz.underlying22 infoInt rfl (by decide) (by decide) B (.slice rA c.ds.length rc) _ _ rfl Ca.d w2.heap.size rfl [.int .i64 z] rfl (one_new w2 3 (.int .i64 z)) (one_i64 z) h63.out (le_alloc (Nat.le_trans Lw2.bel.size (Nat.le_refl _) |> fun h => Nat.le_trans (Nat.le_of_lt (Nat.lt_of_le_of_lt hBw L1'.out.wd.lt)) h)) ?_; intro v3 w3 hO3 hg3 hn3; have hcb : CB w3 gc c (.slice rA c.ds.length rc) ve vu vp := (Kt.grown Ca.d (X := [3]) (by simp) hg3) _ _ _ _ Ca.cb (by decide); have d4 := hcb.at_ 1 _ rfl; have f4 := hcb.frozen 1; have hS := Ca.push_d hO3 hg3 hn3; obtain ⟨A3, n3, c3, rfl⟩ := own_form3 hO3; have hb3 := (Lw2.bel.trans ((alloc_below w2 (.cells #[.int .i64 z] 3)).mono (by have := Lw2.wd.lt; omega))).grown hg3 (by have := Lw2.wd.lt; rw [World.size_alloc]; omega) (fun k hk => (World.ownsRow.lt Ca.d k hk).1)))
  all_goals (
    have hend := Lib.hid (show CfP (w3.setCell ⟨gc, 1, none⟩ (.slice A3 n3 c3)) B gc { c with ds := c.ds ++ [z] } ∧ WdP (w3.setCell ⟨gc, 1, none⟩ (.slice A3 n3 c3)) gw s.1 s.2 ∧ Below B w (w3.setCell ⟨gc, 1, none⟩ (.slice A3 n3 c3)) from ⟨⟨_, _, _, _, _, hS.1⟩, wd_cfg (Lw2.wd.below (alloc_below w2 _)) hS.2, (L1'.out.bel.trans hb3).setCell (p := ⟨gc, 1, none⟩) C1'.out.low _⟩)
    clear hS hb3 hO3 hg3 hn3 hcb d1 d2 d3 d4 f1 f4 Lw2 Ca L2
    go_wp2
    go_ret
    rw [hm.out]
    exact ⟨rfl, hend.out⟩)
theorem rest_num (s : Wd) : (mNum s).2.1 = tl s.1 := by unfold mNum mNumOf; split <;> rfl
theorem rest_time (s : Wd) : (mTime s).2.1 = tl s.1 := by
  unfold mTime mNumOf
  split
  · rfl
  · split <;> rfl
theorem rest_code (s : Wd) : (mCode s).2.1 = tl s.1 := by unfold mCode; split <;> rfl
theorem rest_kind (s : Wd) : (mKind s).2.1 = tl s.1 := rfl
end Go.Proofs.YtjklpikopgihgaaGreatDoor
