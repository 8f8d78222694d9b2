/- The code: the parameters, validParameters, Validate, Default. -/
import Derived.Test.YtjklpikopgihgaaGreatDoorK2
import Derived.Test.YtjklpikopgihgaaGreatDoorW6
import Derived.Laws.EntriesVeiled
set_option linter.unusedVariables false
set_option maxRecDepth 100000
set_option linter.unusedSimpArgs false
namespace Go.Proofs.YtjklpikopgihgaaGreatDoor
open Go.RowKit Go.Lib Cf

def getF (i : Nat) : FuncId :=
  match i with
  | 0 => 57 | 1 => 59 | 2 => 61 | 3 => 63 | 4 => 65 | 5 => 67 | 6 => 69 | 7 => 71 | 8 => 73 | 9 => 75 | _ => 0
def putF (i : Nat) : FuncId :=
  match i with
  | 0 => 58 | 1 => 60 | 2 => 62 | 3 => 64 | 4 => 66 | 5 => 68 | 6 => 70 | 7 => 72 | 8 => 74 | 9 => 76 | _ => 0
/-- The cells of a parameter. -/
def parCells (i : Nat) : List Value := [.string ⟨(word i).toArray⟩, .int .i64 (bounds i).1, .int .i64 (bounds i).2, .func (.func (getF i)) #[] #[], .func (.func (putF i)) #[] #[]]
theorem run_getF0 (args : Array Value) (w : World) : Sem.run Tryz.prog (callFunc 57 args) w = Result.ok (Next.enter 57 args) w := by kernel_rfl
theorem run_getF1 (args : Array Value) (w : World) : Sem.run Tryz.prog (callFunc 59 args) w = Result.ok (Next.enter 59 args) w := by kernel_rfl
theorem run_getF2 (args : Array Value) (w : World) : Sem.run Tryz.prog (callFunc 61 args) w = Result.ok (Next.enter 61 args) w := by kernel_rfl
theorem run_getF3 (args : Array Value) (w : World) : Sem.run Tryz.prog (callFunc 63 args) w = Result.ok (Next.enter 63 args) w := by kernel_rfl
theorem run_getF4 (args : Array Value) (w : World) : Sem.run Tryz.prog (callFunc 65 args) w = Result.ok (Next.enter 65 args) w := by kernel_rfl
theorem run_getF5 (args : Array Value) (w : World) : Sem.run Tryz.prog (callFunc 67 args) w = Result.ok (Next.enter 67 args) w := by kernel_rfl
theorem run_getF6 (args : Array Value) (w : World) : Sem.run Tryz.prog (callFunc 69 args) w = Result.ok (Next.enter 69 args) w := by kernel_rfl
theorem run_getF7 (args : Array Value) (w : World) : Sem.run Tryz.prog (callFunc 71 args) w = Result.ok (Next.enter 71 args) w := by kernel_rfl
theorem run_getF8 (args : Array Value) (w : World) : Sem.run Tryz.prog (callFunc 73 args) w = Result.ok (Next.enter 73 args) w := by kernel_rfl
theorem run_getF9 (args : Array Value) (w : World) : Sem.run Tryz.prog (callFunc 75 args) w = Result.ok (Next.enter 75 args) w := by kernel_rfl
theorem run_getF (k : Nat) (hk : k < 10) (args : Array Value) (w : World) : Sem.run Tryz.prog (callFunc (getF k) args) w = Result.ok (Next.enter (getF k) args) w := by
  match k, hk with
  | 0, _ => exact run_getF0 args w
  | 1, _ => exact run_getF1 args w
  | 2, _ => exact run_getF2 args w
  | 3, _ => exact run_getF3 args w
  | 4, _ => exact run_getF4 args w
  | 5, _ => exact run_getF5 args w
  | 6, _ => exact run_getF6 args w
  | 7, _ => exact run_getF7 args w
  | 8, _ => exact run_getF8 args w
  | 9, _ => exact run_getF9 args w
theorem run_putF0 (args : Array Value) (w : World) : Sem.run Tryz.prog (callFunc 58 args) w = Result.ok (Next.enter 58 args) w := by kernel_rfl
theorem run_putF1 (args : Array Value) (w : World) : Sem.run Tryz.prog (callFunc 60 args) w = Result.ok (Next.enter 60 args) w := by kernel_rfl
theorem run_putF2 (args : Array Value) (w : World) : Sem.run Tryz.prog (callFunc 62 args) w = Result.ok (Next.enter 62 args) w := by kernel_rfl
theorem run_putF3 (args : Array Value) (w : World) : Sem.run Tryz.prog (callFunc 64 args) w = Result.ok (Next.enter 64 args) w := by kernel_rfl
theorem run_putF4 (args : Array Value) (w : World) : Sem.run Tryz.prog (callFunc 66 args) w = Result.ok (Next.enter 66 args) w := by kernel_rfl
theorem run_putF5 (args : Array Value) (w : World) : Sem.run Tryz.prog (callFunc 68 args) w = Result.ok (Next.enter 68 args) w := by kernel_rfl
theorem run_putF6 (args : Array Value) (w : World) : Sem.run Tryz.prog (callFunc 70 args) w = Result.ok (Next.enter 70 args) w := by kernel_rfl
theorem run_putF7 (args : Array Value) (w : World) : Sem.run Tryz.prog (callFunc 72 args) w = Result.ok (Next.enter 72 args) w := by kernel_rfl
theorem run_putF8 (args : Array Value) (w : World) : Sem.run Tryz.prog (callFunc 74 args) w = Result.ok (Next.enter 74 args) w := by kernel_rfl
theorem run_putF9 (args : Array Value) (w : World) : Sem.run Tryz.prog (callFunc 76 args) w = Result.ok (Next.enter 76 args) w := by kernel_rfl
theorem run_putF (k : Nat) (hk : k < 10) (args : Array Value) (w : World) : Sem.run Tryz.prog (callFunc (putF k) args) w = Result.ok (Next.enter (putF k) args) w := by
  match k, hk with
  | 0, _ => exact run_putF0 args w
  | 1, _ => exact run_putF1 args w
  | 2, _ => exact run_putF2 args w
  | 3, _ => exact run_putF3 args w
  | 4, _ => exact run_putF4 args w
  | 5, _ => exact run_putF5 args w
  | 6, _ => exact run_putF6 args w
  | 7, _ => exact run_putF7 args w
  | 8, _ => exact run_putF8 args w
  | 9, _ => exact run_putF9 args w
/-- The ten parameters, in a row at A. -/
def ParsAt (w : World) (A : Addr) : Prop := ∀ i, i < 10 → ∀ j v, (parCells i)[j]? = some v → w.cell? ((A.add (i * 5)).add j) = some v
theorem ParsAt.below {w w' : World} {A : Addr} (h : ParsAt w A) (hb : Below w.heap.size w w') : ParsAt w' A := fun i hi j v hv => cell_keep (h i hi j v hv) hb
theorem ParsAt.same {w w' : World} {A : Addr} (h : ParsAt w A) (e : w'.heap[A.block]? = w.heap[A.block]?) : ParsAt w' A := fun i hi j v hv => by
  have h2 := h i hi j v hv
  unfold World.cell? at h2 ⊢
  rw [block_add', block_add'] at h2 ⊢
  rw [e]; exact h2
theorem ParsAt.load {w : World} {A : Addr} (h : ParsAt w A) {i : Nat} (hi : i < 10) : (loadVar 67 (A.add (i * 5))).run Tryz.prog w = .ok (.agg (parCells i).toArray) w :=
  run_load_list w 67 _ (parCells i) (by kernel_rfl) (by kernel_rfl) (h i hi)

set_option maxHeartbeats 4000000 in
theorem parameters_any (w : World) : Calls Tryz.prog 36 #[] w fun e w' => ∃ A c, e = .returned (.slice (some A) 10 c) ∧ ParsAt w' A ∧ (∃ cs, w'.heap[A.block]? = some (.cells cs 67 (0, 0))) ∧ Below w.heap.size w w' := by
  have hB : ∀ o, Below w.heap.size w (w.alloc o) := fun o => (Below.refl _ _).alloc (Nat.le_refl _) o
  have hB' := Lib.hid hB
  have hC : ∀ o, ((w.alloc o).heap[w.heap.size]? = some o) := fun o => heap_alloc_new w o
  have hC' := Lib.hid hC
  clear hB hC
  go_enter Tryz.func36, Tryz.ntmps36
  go_wp2
  go_ret
  refine ⟨⟨w.heap.size, 0, none⟩, _, rfl, ?_, ⟨_, hC'.out _⟩, hB'.out _⟩
  intro i hi j v hv
  have hadd : ((⟨w.heap.size, 0, none⟩ : Addr).add (i * 5)).add j = ⟨w.heap.size, i * 5 + j, none⟩ := by
    rw [addr_add]; unfold Addr.add; split <;> simp_all
  rw [hadd, cell_of_row _ _ (i * 5 + j) _ _ _ (hC'.out _)]
  unfold parCells at hv
  match i, hi with
  | 0, _ | 1, _ | 2, _ | 3, _ | 4, _ | 5, _ | 6, _ | 7, _ | 8, _ | 9, _ =>
    match j, hv with
    | 0, hv | 1, hv | 2, hv | 3, hv | 4, hv => injection hv with hv; subst hv; rfl
    | j + 5, hv => simp at hv

theorem get0_any (c : Cfg) (v : Value) (w : World) (h : CfgV w v c) : Calls Tryz.prog 57 #[v] w fun r w' => r = .returned (.int .i64 c.n0) ∧ Below w.heap.size w w' := by
  obtain ⟨vd, ve, vu, vp, rfl, hd0, he0, hu0, hp0⟩ := h
  obtain ⟨Ad, cd, rfl⟩ := hd0.form
  obtain ⟨Ae, ce, rfl⟩ := he0.form
  obtain ⟨Au, cu, rfl⟩ := hu0.form
  obtain ⟨Ap, cp, rfl⟩ := hp0.form
  obtain ⟨W, hWe, hC, hB0, hWs⟩ := box_cfg w c (.slice Ad c.ds.length cd) (.slice Ae c.es.length ce) (.slice Au c.us.length cu) (.slice Ap c.ps.length cp)
  have hWe' := hWe.symm
  have hV := Lib.hid (show CfgV W (.agg (cfgCells c (.slice Ad c.ds.length cd) (.slice Ae c.es.length ce) (.slice Au c.us.length cu) (.slice Ap c.ps.length cp)).toArray) c from ⟨_, _, _, _, rfl, hd0.below hB0, he0.below hB0, hu0.below hB0, hp0.below hB0⟩)
  have hd' := Lib.hid (hd0.below hB0)
  have hh' := Lib.hid (he0.below hB0)
  have hu' := Lib.hid (hu0.below hB0)
  have hq' := Lib.hid (hp0.below hB0)
  have hC' := Lib.hid hC
  have hB0' := Lib.hid hB0
  have hWl : w.heap.size ≤ W.heap.size := by omega
  have c0 := hC.at_ 0 _ rfl
  have c1 := hC.at_ 1 _ rfl
  have c2 := hC.at_ 2 _ rfl
  have c3 := hC.at_ 3 _ rfl
  have c4 := hC.at_ 4 _ rfl
  have hCl := Lib.hid hC.load
  clear hWe hd0 he0 hu0 hp0 hC hB0
  unfold cfgCells
  have z := hC'.out.at_ 5 _ rfl
  go_enter Tryz.func57, Tryz.ntmps57
  go_wp2
  go_ret
  exact ⟨rfl, hB0'.out⟩
theorem get1_any (c : Cfg) (v : Value) (w : World) (h : CfgV w v c) : Calls Tryz.prog 59 #[v] w fun r w' => r = .returned (.int .i64 c.n1) ∧ Below w.heap.size w w' := by
  obtain ⟨vd, ve, vu, vp, rfl, hd0, he0, hu0, hp0⟩ := h
  obtain ⟨Ad, cd, rfl⟩ := hd0.form
  obtain ⟨Ae, ce, rfl⟩ := he0.form
  obtain ⟨Au, cu, rfl⟩ := hu0.form
  obtain ⟨Ap, cp, rfl⟩ := hp0.form
  obtain ⟨W, hWe, hC, hB0, hWs⟩ := box_cfg w c (.slice Ad c.ds.length cd) (.slice Ae c.es.length ce) (.slice Au c.us.length cu) (.slice Ap c.ps.length cp)
  have hWe' := hWe.symm
  have hV := Lib.hid (show CfgV W (.agg (cfgCells c (.slice Ad c.ds.length cd) (.slice Ae c.es.length ce) (.slice Au c.us.length cu) (.slice Ap c.ps.length cp)).toArray) c from ⟨_, _, _, _, rfl, hd0.below hB0, he0.below hB0, hu0.below hB0, hp0.below hB0⟩)
  have hd' := Lib.hid (hd0.below hB0)
  have hh' := Lib.hid (he0.below hB0)
  have hu' := Lib.hid (hu0.below hB0)
  have hq' := Lib.hid (hp0.below hB0)
  have hC' := Lib.hid hC
  have hB0' := Lib.hid hB0
  have hWl : w.heap.size ≤ W.heap.size := by omega
  have c0 := hC.at_ 0 _ rfl
  have c1 := hC.at_ 1 _ rfl
  have c2 := hC.at_ 2 _ rfl
  have c3 := hC.at_ 3 _ rfl
  have c4 := hC.at_ 4 _ rfl
  have hCl := Lib.hid hC.load
  clear hWe hd0 he0 hu0 hp0 hC hB0
  unfold cfgCells
  have z := hC'.out.at_ 6 _ rfl
  go_enter Tryz.func59, Tryz.ntmps59
  go_wp2
  go_ret
  exact ⟨rfl, hB0'.out⟩
theorem get2_any (c : Cfg) (v : Value) (w : World) (h : CfgV w v c) : Calls Tryz.prog 61 #[v] w fun r w' => r = .returned (.int .i64 c.n2) ∧ Below w.heap.size w w' := by
  obtain ⟨vd, ve, vu, vp, rfl, hd0, he0, hu0, hp0⟩ := h
  obtain ⟨Ad, cd, rfl⟩ := hd0.form
  obtain ⟨Ae, ce, rfl⟩ := he0.form
  obtain ⟨Au, cu, rfl⟩ := hu0.form
  obtain ⟨Ap, cp, rfl⟩ := hp0.form
  obtain ⟨W, hWe, hC, hB0, hWs⟩ := box_cfg w c (.slice Ad c.ds.length cd) (.slice Ae c.es.length ce) (.slice Au c.us.length cu) (.slice Ap c.ps.length cp)
  have hWe' := hWe.symm
  have hV := Lib.hid (show CfgV W (.agg (cfgCells c (.slice Ad c.ds.length cd) (.slice Ae c.es.length ce) (.slice Au c.us.length cu) (.slice Ap c.ps.length cp)).toArray) c from ⟨_, _, _, _, rfl, hd0.below hB0, he0.below hB0, hu0.below hB0, hp0.below hB0⟩)
  have hd' := Lib.hid (hd0.below hB0)
  have hh' := Lib.hid (he0.below hB0)
  have hu' := Lib.hid (hu0.below hB0)
  have hq' := Lib.hid (hp0.below hB0)
  have hC' := Lib.hid hC
  have hB0' := Lib.hid hB0
  have hWl : w.heap.size ≤ W.heap.size := by omega
  have c0 := hC.at_ 0 _ rfl
  have c1 := hC.at_ 1 _ rfl
  have c2 := hC.at_ 2 _ rfl
  have c3 := hC.at_ 3 _ rfl
  have c4 := hC.at_ 4 _ rfl
  have hCl := Lib.hid hC.load
  clear hWe hd0 he0 hu0 hp0 hC hB0
  unfold cfgCells
  have z := hC'.out.at_ 7 _ rfl
  go_enter Tryz.func61, Tryz.ntmps61
  go_wp2
  go_ret
  exact ⟨rfl, hB0'.out⟩
theorem get3_any (c : Cfg) (v : Value) (w : World) (h : CfgV w v c) : Calls Tryz.prog 63 #[v] w fun r w' => r = .returned (.int .i64 c.n3) ∧ Below w.heap.size w w' := by
  obtain ⟨vd, ve, vu, vp, rfl, hd0, he0, hu0, hp0⟩ := h
  obtain ⟨Ad, cd, rfl⟩ := hd0.form
  obtain ⟨Ae, ce, rfl⟩ := he0.form
  obtain ⟨Au, cu, rfl⟩ := hu0.form
  obtain ⟨Ap, cp, rfl⟩ := hp0.form
  obtain ⟨W, hWe, hC, hB0, hWs⟩ := box_cfg w c (.slice Ad c.ds.length cd) (.slice Ae c.es.length ce) (.slice Au c.us.length cu) (.slice Ap c.ps.length cp)
  have hWe' := hWe.symm
  have hV := Lib.hid (show CfgV W (.agg (cfgCells c (.slice Ad c.ds.length cd) (.slice Ae c.es.length ce) (.slice Au c.us.length cu) (.slice Ap c.ps.length cp)).toArray) c from ⟨_, _, _, _, rfl, hd0.below hB0, he0.below hB0, hu0.below hB0, hp0.below hB0⟩)
  have hd' := Lib.hid (hd0.below hB0)
  have hh' := Lib.hid (he0.below hB0)
  have hu' := Lib.hid (hu0.below hB0)
  have hq' := Lib.hid (hp0.below hB0)
  have hC' := Lib.hid hC
  have hB0' := Lib.hid hB0
  have hWl : w.heap.size ≤ W.heap.size := by omega
  have c0 := hC.at_ 0 _ rfl
  have c1 := hC.at_ 1 _ rfl
  have c2 := hC.at_ 2 _ rfl
  have c3 := hC.at_ 3 _ rfl
  have c4 := hC.at_ 4 _ rfl
  have hCl := Lib.hid hC.load
  clear hWe hd0 he0 hu0 hp0 hC hB0
  unfold cfgCells
  have z := hC'.out.at_ 8 _ rfl
  go_enter Tryz.func63, Tryz.ntmps63
  go_wp2
  go_ret
  exact ⟨rfl, hB0'.out⟩
theorem get4_any (c : Cfg) (v : Value) (w : World) (h : CfgV w v c) : Calls Tryz.prog 65 #[v] w fun r w' => r = .returned (.int .i64 c.n4) ∧ Below w.heap.size w w' := by
  obtain ⟨vd, ve, vu, vp, rfl, hd0, he0, hu0, hp0⟩ := h
  obtain ⟨Ad, cd, rfl⟩ := hd0.form
  obtain ⟨Ae, ce, rfl⟩ := he0.form
  obtain ⟨Au, cu, rfl⟩ := hu0.form
  obtain ⟨Ap, cp, rfl⟩ := hp0.form
  obtain ⟨W, hWe, hC, hB0, hWs⟩ := box_cfg w c (.slice Ad c.ds.length cd) (.slice Ae c.es.length ce) (.slice Au c.us.length cu) (.slice Ap c.ps.length cp)
  have hWe' := hWe.symm
  have hV := Lib.hid (show CfgV W (.agg (cfgCells c (.slice Ad c.ds.length cd) (.slice Ae c.es.length ce) (.slice Au c.us.length cu) (.slice Ap c.ps.length cp)).toArray) c from ⟨_, _, _, _, rfl, hd0.below hB0, he0.below hB0, hu0.below hB0, hp0.below hB0⟩)
  have hd' := Lib.hid (hd0.below hB0)
  have hh' := Lib.hid (he0.below hB0)
  have hu' := Lib.hid (hu0.below hB0)
  have hq' := Lib.hid (hp0.below hB0)
  have hC' := Lib.hid hC
  have hB0' := Lib.hid hB0
  have hWl : w.heap.size ≤ W.heap.size := by omega
  have c0 := hC.at_ 0 _ rfl
  have c1 := hC.at_ 1 _ rfl
  have c2 := hC.at_ 2 _ rfl
  have c3 := hC.at_ 3 _ rfl
  have c4 := hC.at_ 4 _ rfl
  have hCl := Lib.hid hC.load
  clear hWe hd0 he0 hu0 hp0 hC hB0
  unfold cfgCells
  have z := hC'.out.at_ 9 _ rfl
  go_enter Tryz.func65, Tryz.ntmps65
  go_wp2
  go_ret
  exact ⟨rfl, hB0'.out⟩
theorem get5_any (c : Cfg) (v : Value) (w : World) (h : CfgV w v c) : Calls Tryz.prog 67 #[v] w fun r w' => r = .returned (.int .i64 c.n5) ∧ Below w.heap.size w w' := by
  obtain ⟨vd, ve, vu, vp, rfl, hd0, he0, hu0, hp0⟩ := h
  obtain ⟨Ad, cd, rfl⟩ := hd0.form
  obtain ⟨Ae, ce, rfl⟩ := he0.form
  obtain ⟨Au, cu, rfl⟩ := hu0.form
  obtain ⟨Ap, cp, rfl⟩ := hp0.form
  obtain ⟨W, hWe, hC, hB0, hWs⟩ := box_cfg w c (.slice Ad c.ds.length cd) (.slice Ae c.es.length ce) (.slice Au c.us.length cu) (.slice Ap c.ps.length cp)
  have hWe' := hWe.symm
  have hV := Lib.hid (show CfgV W (.agg (cfgCells c (.slice Ad c.ds.length cd) (.slice Ae c.es.length ce) (.slice Au c.us.length cu) (.slice Ap c.ps.length cp)).toArray) c from ⟨_, _, _, _, rfl, hd0.below hB0, he0.below hB0, hu0.below hB0, hp0.below hB0⟩)
  have hd' := Lib.hid (hd0.below hB0)
  have hh' := Lib.hid (he0.below hB0)
  have hu' := Lib.hid (hu0.below hB0)
  have hq' := Lib.hid (hp0.below hB0)
  have hC' := Lib.hid hC
  have hB0' := Lib.hid hB0
  have hWl : w.heap.size ≤ W.heap.size := by omega
  have c0 := hC.at_ 0 _ rfl
  have c1 := hC.at_ 1 _ rfl
  have c2 := hC.at_ 2 _ rfl
  have c3 := hC.at_ 3 _ rfl
  have c4 := hC.at_ 4 _ rfl
  have hCl := Lib.hid hC.load
  clear hWe hd0 he0 hu0 hp0 hC hB0
  unfold cfgCells
  have z := hC'.out.at_ 10 _ rfl
  go_enter Tryz.func67, Tryz.ntmps67
  go_wp2
  go_ret
  exact ⟨rfl, hB0'.out⟩
theorem get6_any (c : Cfg) (v : Value) (w : World) (h : CfgV w v c) : Calls Tryz.prog 69 #[v] w fun r w' => r = .returned (.int .i64 c.n6) ∧ Below w.heap.size w w' := by
  obtain ⟨vd, ve, vu, vp, rfl, hd0, he0, hu0, hp0⟩ := h
  obtain ⟨Ad, cd, rfl⟩ := hd0.form
  obtain ⟨Ae, ce, rfl⟩ := he0.form
  obtain ⟨Au, cu, rfl⟩ := hu0.form
  obtain ⟨Ap, cp, rfl⟩ := hp0.form
  obtain ⟨W, hWe, hC, hB0, hWs⟩ := box_cfg w c (.slice Ad c.ds.length cd) (.slice Ae c.es.length ce) (.slice Au c.us.length cu) (.slice Ap c.ps.length cp)
  have hWe' := hWe.symm
  have hV := Lib.hid (show CfgV W (.agg (cfgCells c (.slice Ad c.ds.length cd) (.slice Ae c.es.length ce) (.slice Au c.us.length cu) (.slice Ap c.ps.length cp)).toArray) c from ⟨_, _, _, _, rfl, hd0.below hB0, he0.below hB0, hu0.below hB0, hp0.below hB0⟩)
  have hd' := Lib.hid (hd0.below hB0)
  have hh' := Lib.hid (he0.below hB0)
  have hu' := Lib.hid (hu0.below hB0)
  have hq' := Lib.hid (hp0.below hB0)
  have hC' := Lib.hid hC
  have hB0' := Lib.hid hB0
  have hWl : w.heap.size ≤ W.heap.size := by omega
  have c0 := hC.at_ 0 _ rfl
  have c1 := hC.at_ 1 _ rfl
  have c2 := hC.at_ 2 _ rfl
  have c3 := hC.at_ 3 _ rfl
  have c4 := hC.at_ 4 _ rfl
  have hCl := Lib.hid hC.load
  clear hWe hd0 he0 hu0 hp0 hC hB0
  unfold cfgCells
  have z := hC'.out.at_ 11 _ rfl
  go_enter Tryz.func69, Tryz.ntmps69
  go_wp2
  go_ret
  exact ⟨rfl, hB0'.out⟩
theorem get7_any (c : Cfg) (v : Value) (w : World) (h : CfgV w v c) : Calls Tryz.prog 71 #[v] w fun r w' => r = .returned (.int .i64 c.n7) ∧ Below w.heap.size w w' := by
  obtain ⟨vd, ve, vu, vp, rfl, hd0, he0, hu0, hp0⟩ := h
  obtain ⟨Ad, cd, rfl⟩ := hd0.form
  obtain ⟨Ae, ce, rfl⟩ := he0.form
  obtain ⟨Au, cu, rfl⟩ := hu0.form
  obtain ⟨Ap, cp, rfl⟩ := hp0.form
  obtain ⟨W, hWe, hC, hB0, hWs⟩ := box_cfg w c (.slice Ad c.ds.length cd) (.slice Ae c.es.length ce) (.slice Au c.us.length cu) (.slice Ap c.ps.length cp)
  have hWe' := hWe.symm
  have hV := Lib.hid (show CfgV W (.agg (cfgCells c (.slice Ad c.ds.length cd) (.slice Ae c.es.length ce) (.slice Au c.us.length cu) (.slice Ap c.ps.length cp)).toArray) c from ⟨_, _, _, _, rfl, hd0.below hB0, he0.below hB0, hu0.below hB0, hp0.below hB0⟩)
  have hd' := Lib.hid (hd0.below hB0)
  have hh' := Lib.hid (he0.below hB0)
  have hu' := Lib.hid (hu0.below hB0)
  have hq' := Lib.hid (hp0.below hB0)
  have hC' := Lib.hid hC
  have hB0' := Lib.hid hB0
  have hWl : w.heap.size ≤ W.heap.size := by omega
  have c0 := hC.at_ 0 _ rfl
  have c1 := hC.at_ 1 _ rfl
  have c2 := hC.at_ 2 _ rfl
  have c3 := hC.at_ 3 _ rfl
  have c4 := hC.at_ 4 _ rfl
  have hCl := Lib.hid hC.load
  clear hWe hd0 he0 hu0 hp0 hC hB0
  unfold cfgCells
  have z := hC'.out.at_ 12 _ rfl
  go_enter Tryz.func71, Tryz.ntmps71
  go_wp2
  go_ret
  exact ⟨rfl, hB0'.out⟩
theorem get8_any (c : Cfg) (v : Value) (w : World) (h : CfgV w v c) : Calls Tryz.prog 73 #[v] w fun r w' => r = .returned (.int .i64 c.n8) ∧ Below w.heap.size w w' := by
  obtain ⟨vd, ve, vu, vp, rfl, hd0, he0, hu0, hp0⟩ := h
  obtain ⟨Ad, cd, rfl⟩ := hd0.form
  obtain ⟨Ae, ce, rfl⟩ := he0.form
  obtain ⟨Au, cu, rfl⟩ := hu0.form
  obtain ⟨Ap, cp, rfl⟩ := hp0.form
  obtain ⟨W, hWe, hC, hB0, hWs⟩ := box_cfg w c (.slice Ad c.ds.length cd) (.slice Ae c.es.length ce) (.slice Au c.us.length cu) (.slice Ap c.ps.length cp)
  have hWe' := hWe.symm
  have hV := Lib.hid (show CfgV W (.agg (cfgCells c (.slice Ad c.ds.length cd) (.slice Ae c.es.length ce) (.slice Au c.us.length cu) (.slice Ap c.ps.length cp)).toArray) c from ⟨_, _, _, _, rfl, hd0.below hB0, he0.below hB0, hu0.below hB0, hp0.below hB0⟩)
  have hd' := Lib.hid (hd0.below hB0)
  have hh' := Lib.hid (he0.below hB0)
  have hu' := Lib.hid (hu0.below hB0)
  have hq' := Lib.hid (hp0.below hB0)
  have hC' := Lib.hid hC
  have hB0' := Lib.hid hB0
  have hWl : w.heap.size ≤ W.heap.size := by omega
  have c0 := hC.at_ 0 _ rfl
  have c1 := hC.at_ 1 _ rfl
  have c2 := hC.at_ 2 _ rfl
  have c3 := hC.at_ 3 _ rfl
  have c4 := hC.at_ 4 _ rfl
  have hCl := Lib.hid hC.load
  clear hWe hd0 he0 hu0 hp0 hC hB0
  unfold cfgCells
  have z := hC'.out.at_ 13 _ rfl
  go_enter Tryz.func73, Tryz.ntmps73
  go_wp2
  go_ret
  exact ⟨rfl, hB0'.out⟩
theorem get9_any (c : Cfg) (v : Value) (w : World) (h : CfgV w v c) : Calls Tryz.prog 75 #[v] w fun r w' => r = .returned (.int .i64 c.n9) ∧ Below w.heap.size w w' := by
  obtain ⟨vd, ve, vu, vp, rfl, hd0, he0, hu0, hp0⟩ := h
  obtain ⟨Ad, cd, rfl⟩ := hd0.form
  obtain ⟨Ae, ce, rfl⟩ := he0.form
  obtain ⟨Au, cu, rfl⟩ := hu0.form
  obtain ⟨Ap, cp, rfl⟩ := hp0.form
  obtain ⟨W, hWe, hC, hB0, hWs⟩ := box_cfg w c (.slice Ad c.ds.length cd) (.slice Ae c.es.length ce) (.slice Au c.us.length cu) (.slice Ap c.ps.length cp)
  have hWe' := hWe.symm
  have hV := Lib.hid (show CfgV W (.agg (cfgCells c (.slice Ad c.ds.length cd) (.slice Ae c.es.length ce) (.slice Au c.us.length cu) (.slice Ap c.ps.length cp)).toArray) c from ⟨_, _, _, _, rfl, hd0.below hB0, he0.below hB0, hu0.below hB0, hp0.below hB0⟩)
  have hd' := Lib.hid (hd0.below hB0)
  have hh' := Lib.hid (he0.below hB0)
  have hu' := Lib.hid (hu0.below hB0)
  have hq' := Lib.hid (hp0.below hB0)
  have hC' := Lib.hid hC
  have hB0' := Lib.hid hB0
  have hWl : w.heap.size ≤ W.heap.size := by omega
  have c0 := hC.at_ 0 _ rfl
  have c1 := hC.at_ 1 _ rfl
  have c2 := hC.at_ 2 _ rfl
  have c3 := hC.at_ 3 _ rfl
  have c4 := hC.at_ 4 _ rfl
  have hCl := Lib.hid hC.load
  clear hWe hd0 he0 hu0 hp0 hC hB0
  unfold cfgCells
  have z := hC'.out.at_ 14 _ rfl
  go_enter Tryz.func75, Tryz.ntmps75
  go_wp2
  go_ret
  exact ⟨rfl, hB0'.out⟩

theorem get_any (i : Nat) (hi : i < 10) (c : Cfg) (v : Value) (w : World) (h : CfgV w v c) : Calls Tryz.prog (getF i) #[v] w fun r w' => r = .returned (.int .i64 (c.nums.getD i 0)) ∧ Below w.heap.size w w' := by
  match i, hi with
  | 0, _ => exact get0_any c v w h
  | 1, _ => exact get1_any c v w h
  | 2, _ => exact get2_any c v w h
  | 3, _ => exact get3_any c v w h
  | 4, _ => exact get4_any c v w h
  | 5, _ => exact get5_any c v w h
  | 6, _ => exact get6_any c v w h
  | 7, _ => exact get7_any c v w h
  | 8, _ => exact get8_any c v w h
  | 9, _ => exact get9_any c v w h

theorem default_is (w : World) : Calls Tryz.prog 17 #[] w fun e w' => e = .returned (.agg (cfgCells dflt (.slice none 0 0) (.slice none 0 0) (.slice none 0 0) (.slice none 0 0)).toArray) ∧ Below w.heap.size w w' := by
  have hB : ∀ o, Below w.heap.size w (w.alloc o) := fun o => (Below.refl _ _).alloc (Nat.le_refl _) o
  have hB' := Lib.hid hB
  clear hB
  go_enter Tryz.func17, Tryz.ntmps17
  go_wp2
  exact bodyPost_ret (v := .agg (cfgCells dflt (.slice none 0 0) (.slice none 0 0) (.slice none 0 0) (.slice none 0 0)).toArray) (by simp [results, Tryz.results17, go_sem, cfgCells, dflt]) rfl ⟨rfl, hB'.out _⟩


set_option maxHeartbeats 8000000 in
theorem validParameters_any (c : Cfg) (v : Value) (w : World) (h : CfgV w v c) :
    Calls Tryz.prog 25 #[v] w fun r w' => r = .returned (.bool (numsOk c)) ∧ Below w.heap.size w w' := by
  obtain ⟨vd, ve, vu, vp, rfl, hd0, he0, hu0, hp0⟩ := h
  obtain ⟨Ad, cd, rfl⟩ := hd0.form
  obtain ⟨Ae, ce, rfl⟩ := he0.form
  obtain ⟨Au, cu, rfl⟩ := hu0.form
  obtain ⟨Ap, cp, rfl⟩ := hp0.form
  obtain ⟨W, hWe, hC, hB0, hWs⟩ := box_cfg w c (.slice Ad c.ds.length cd) (.slice Ae c.es.length ce) (.slice Au c.us.length cu) (.slice Ap c.ps.length cp)
  have hWe' := hWe.symm
  have hV := Lib.hid (show CfgV W (.agg (cfgCells c (.slice Ad c.ds.length cd) (.slice Ae c.es.length ce) (.slice Au c.us.length cu) (.slice Ap c.ps.length cp)).toArray) c from ⟨_, _, _, _, rfl, hd0.below hB0, he0.below hB0, hu0.below hB0, hp0.below hB0⟩)
  have hd' := Lib.hid (hd0.below hB0)
  have hh' := Lib.hid (he0.below hB0)
  have hu' := Lib.hid (hu0.below hB0)
  have hq' := Lib.hid (hp0.below hB0)
  have hC' := Lib.hid hC
  have hB0' := Lib.hid hB0
  have hWl : w.heap.size ≤ W.heap.size := by omega
  have c0 := hC.at_ 0 _ rfl
  have c1 := hC.at_ 1 _ rfl
  have c2 := hC.at_ 2 _ rfl
  have c3 := hC.at_ 3 _ rfl
  have c4 := hC.at_ 4 _ rfl
  have hCl := Lib.hid hC.load
  clear hWe hd0 he0 hu0 hp0 hC hB0
  unfold cfgCells
  go_enter Tryz.func25, Tryz.ntmps25
  go_wp2_with fail
  refine (parameters_any W).mono ?_
  rintro r w1 ⟨Aq, cq, rfl, hPs, _, hB1⟩
  have hPs' := Lib.hid hPs
  have hB1' := Lib.hid hB1
  clear hPs hB1 hWe' c0 c1 c2 c3 c4
  go_wp2_with fail
  go_loopw [7] (fun i w' => ∃ k : Nat, i = .int .i64 (k : Int) ∧ k ≤ 10 ∧ NumsTo c k ∧ Below w1.heap.size w1 w') (fun i _ => 10 - (intOf i).toNat)
  case atStart => exact ⟨0, rfl, by omega, fun i hi => absurd hi (by omega), Below.refl _ _⟩
  case round =>
    obtain ⟨k, rfl, hk, hal, hB⟩ := hrel
    have hal' := Lib.hid hal
    have hB' := Lib.hid hB
    clear hal hB
    by_cases hlt : k < 10
    · have e1 : (k : Int) < 10 := by omega
      have e2 : (0 : Int) ≤ (k : Int) := by omega
      have hle := (hPs'.out.below hB'.out).load hlt
      obtain ⟨z, hz0⟩ : ∃ z, c.nums[k]? = some z := ⟨_, List.getElem?_eq_getElem (show k < c.nums.length from hlt)⟩
      have hz := Lib.hid hz0
      have hzg := Lib.hid (getD_of hz0)
      clear hz0
      obtain ⟨nm, hnm⟩ : ∃ nm, word k = nm := ⟨_, rfl⟩
      obtain ⟨lo, hi, hb⟩ : ∃ lo hi, bounds k = (lo, hi) := ⟨_, _, rfl⟩
      obtain ⟨gf, hgf⟩ : ∃ gf, getF k = gf := ⟨_, rfl⟩
      obtain ⟨pf, hpf⟩ : ∃ pf, putF k = pf := ⟨_, rfl⟩
      have hgf' := Lib.hid hgf
      have hrun : ∀ args w, Sem.run Tryz.prog (callFunc gf args) w = Result.ok (Next.enter gf args) w := fun args w => by rw [← hgf]; exact run_getF k hlt args w
      unfold parCells at hle
      rw [hnm, hb, hgf, hpf] at hle
      simp only at hle
      have hb' := Lib.hid hb
      clear hnm hb hgf hpf
      have hBa : Below wr.heap.size wr (wr.alloc (.cells #[.string ⟨nm.toArray⟩, .int .i64 lo, .int .i64 hi, .func (.func gf) #[] #[], .func (.func pf) #[] #[]] 67)) := (Below.refl _ _).alloc (Nat.le_refl _) _
      have hnew := heap_alloc_new wr (.cells #[.string ⟨nm.toArray⟩, .int .i64 lo, .int .i64 hi, .func (.func gf) #[] #[], .func (.func pf) #[] #[]] 67)
      have B2 := then_ hB'.out hBa
      have hV2 := hV.out.below (then_ hB1'.out B2)
      have hC2 := hC'.out.below (then_ hB1'.out B2)
      go_wp2_with (refine wpList_load_list rfl 67 _ rfl (Aq.add (k * 5)) rfl [.string ⟨nm.toArray⟩, .int .i64 lo, .int .i64 hi, .func (.func gf) #[] #[], .func (.func pf) #[] #[]] hle ?_)
      clear hle hBa
      generalize wr.alloc (.cells #[.string ⟨nm.toArray⟩, .int .i64 lo, .int .i64 hi, .func (.func gf) #[] #[], .func (.func pf) #[] #[]] 67) = V at hnew B2 hV2 hC2 ⊢
      generalize wr.heap.size = gV at hnew ⊢
      obtain ⟨G, hG1, hG2⟩ := gworlds V
      have hW0 : ∃ q, V.drew = G q := hG2 _ (Below.refl _ _).drew
      have x1 : ∀ r, (G r).cell? ⟨gV, 1, none⟩ = some (.int .i64 lo) := fun r => cell_keep (by rw [cell_of_row _ _ 1 _ _ _ hnew]; rfl) (hG1 r)
      have x2 : ∀ r, (G r).cell? ⟨gV, 2, none⟩ = some (.int .i64 hi) := fun r => cell_keep (by rw [cell_of_row _ _ 2 _ _ _ hnew]; rfl) (hG1 r)
      have x3 : ∀ r, (G r).cell? ⟨gV, 3, none⟩ = some (.func (.func gf) #[] #[]) := fun r => cell_keep (by rw [cell_of_row _ _ 3 _ _ _ hnew]; rfl) (hG1 r)
      have HL := Lib.hid (fun r => (hC2.below (hG1 r)).load)
      have HG := Lib.hid (fun r => show Calls Tryz.prog gf #[.agg (cfgCells c (.slice Ad c.ds.length cd) (.slice Ae c.es.length ce) (.slice Au c.us.length cu) (.slice Ap c.ps.length cp)).toArray] (G r) (fun e w'' => e = .returned (.int .i64 z) ∧ ∃ q : Regrown, w'' = G q) from hgf'.out ▸ (get_any k hlt c _ (G r) (hV2.below (hG1 r))).mono fun e w'' ⟨he, hb⟩ => ⟨by rw [he, hzg.out], hG2 _ (then_ (hG1 r) hb)⟩)
      have HW := Lib.hid (fun r => show Calls Tryz.prog 50 #[.int .i64 z, .int .i64 lo, .int .i64 hi] (G r) (fun e w'' => e = .returned (.bool (inR z lo hi)) ∧ ∃ q : Regrown, w'' = G q) from (cw64_any z lo hi (G r)).mono fun e w'' ⟨he, hb⟩ => ⟨he, r, hb.symm⟩)
      have HB := Lib.hid (fun r => then_ B2 (hG1 r))
      clear hG1 hG2 hnew hV2 hC2 B2
      cases ok : inR z lo hi with
      | false =>
        rw [ok] at HW
        have hr := Lib.hid (show numsOk c = false from nums_bad hz.out (by rw [hb'.out]; exact ok))
        clear ok
        refine wp_region_G (G := G) (by kernel_rfl) (by kernel_rfl) hW0 ?_
        repeat (first | go_big_quiet_skip | (go_big_quiet_want; first
          | (refine q_load_list 27 _ ⟨w.heap.size, 0, none⟩ (cfgCells c (.slice Ad c.ds.length cd) (.slice Ae c.es.length ce) (.slice Au c.us.length cu) (.slice Ap c.ps.length cp)) rfl rfl HL.out ?_; simp only [Act.put, List.setIfInBounds_toArray, List.set_cons_zero, List.set_cons_succ]; go_big_quiet_on)
          | (go_big_quiet_op; first | go_big_quiet_on | go_big_quiet_call (first | (go_at_call 50; exact HW.out _) | exact HG.out _))))
        refine wpQuiet_nil ?_
        rintro _ ⟨r, rfl⟩
        go_wp2
        go_ret
        exact ⟨ret_b hr.out.symm, hB0'.out.trans ((then_ hB1'.out (HB.out r)).mono hWl)⟩
      | true =>
        rw [ok] at HW
        have hst := Lib.hid (show NumsTo c (k + 1) from nums_step hal'.out hz.out (by rw [hb'.out]; exact ok))
        clear ok
        refine wp_region_G (G := G) (by kernel_rfl) (by kernel_rfl) hW0 ?_
        repeat (first | go_big_quiet_skip | (go_big_quiet_want; first
          | (refine q_load_list 27 _ ⟨w.heap.size, 0, none⟩ (cfgCells c (.slice Ad c.ds.length cd) (.slice Ae c.es.length ce) (.slice Au c.us.length cu) (.slice Ap c.ps.length cp)) rfl rfl HL.out ?_; simp only [Act.put, List.setIfInBounds_toArray, List.set_cons_zero, List.set_cons_succ]; go_big_quiet_on)
          | (go_big_quiet_op; first | go_big_quiet_on | go_big_quiet_call (first | (go_at_call 50; exact HW.out _) | exact HG.out _))))
        refine wpQuiet_nil ?_
        rintro _ ⟨r, rfl⟩
        go_wp2
        go_roundw
        case rel => exact ⟨k + 1, by go_num, by omega, hst.out, HB.out r⟩
        case measure => simp [intOf]; omega
    · obtain rfl : k = 10 := by omega
      have hr := Lib.hid (nums_all hal'.out)
      clear hal'
      go_wp2
      go_ret
      exact ⟨ret_b hr.out.symm, hB0'.out.trans ((then_ hB1'.out hB'.out).mono hWl)⟩
end Go.Proofs.YtjklpikopgihgaaGreatDoor
