/- The reference: Set. -/
import Derived.Test.YtjklpikopgihgaaGreatDoorW6
set_option linter.unusedVariables false
set_option maxRecDepth 100000
set_option linter.unusedSimpArgs false
namespace Go.Proofs.YtjklpikopgihgaaGreatDoor
open Go.RowKit Go.Lib Cf

theorem set_below (w : World) : ∀ o1 o2, Below w.heap.size w ((w.alloc o1).alloc o2) := fun o1 o2 => ((Below.refl _ _).alloc (Nat.le_refl _) o1).alloc (by simp) o2
set_option maxHeartbeats 2000000 in
theorem set_0 (c : Cfg) (n : Int) (Ad Ae Au Ap : Option Addr) (cd ce cu cp : Nat) (w : World) : Calls Tryz.prog 19 #[.agg (cfgCells c (.slice Ad c.ds.length cd) (.slice Ae c.es.length ce) (.slice Au c.us.length cu) (.slice Ap c.ps.length cp)).toArray, .int .i64 0, .int .i64 n] w fun e w' => e = .returned (.agg (cfgCells (setN c 0 n) (.slice Ad c.ds.length cd) (.slice Ae c.es.length ce) (.slice Au c.us.length cu) (.slice Ap c.ps.length cp)).toArray) ∧ Below w.heap.size w w' := by
  obtain ⟨ce', ds, es, us, ps, n0, n1, n2, n3, n4, n5, n6, n7, n8, n9⟩ := c
  have hB := Lib.hid (set_below w)
  unfold cfgCells setN
  simp only
  go_enter Tryz.func19, Tryz.ntmps19
  go_wp2
  exact bodyPost_ret (v := .agg #[.int .i64 ce', .slice Ad ds.length cd, .slice Ae es.length ce, .slice Au us.length cu, .slice Ap ps.length cp, .int .i64 n, .int .i64 n1, .int .i64 n2, .int .i64 n3, .int .i64 n4, .int .i64 n5, .int .i64 n6, .int .i64 n7, .int .i64 n8, .int .i64 n9]) (by simp [results, Tryz.results19, go_sem]) rfl ⟨rfl, hB.out _ _⟩
set_option maxHeartbeats 2000000 in
theorem set_1 (c : Cfg) (n : Int) (Ad Ae Au Ap : Option Addr) (cd ce cu cp : Nat) (w : World) : Calls Tryz.prog 19 #[.agg (cfgCells c (.slice Ad c.ds.length cd) (.slice Ae c.es.length ce) (.slice Au c.us.length cu) (.slice Ap c.ps.length cp)).toArray, .int .i64 1, .int .i64 n] w fun e w' => e = .returned (.agg (cfgCells (setN c 1 n) (.slice Ad c.ds.length cd) (.slice Ae c.es.length ce) (.slice Au c.us.length cu) (.slice Ap c.ps.length cp)).toArray) ∧ Below w.heap.size w w' := by
  obtain ⟨ce', ds, es, us, ps, n0, n1, n2, n3, n4, n5, n6, n7, n8, n9⟩ := c
  have hB := Lib.hid (set_below w)
  unfold cfgCells setN
  simp only
  go_enter Tryz.func19, Tryz.ntmps19
  go_wp2
  exact bodyPost_ret (v := .agg #[.int .i64 ce', .slice Ad ds.length cd, .slice Ae es.length ce, .slice Au us.length cu, .slice Ap ps.length cp, .int .i64 n0, .int .i64 n, .int .i64 n2, .int .i64 n3, .int .i64 n4, .int .i64 n5, .int .i64 n6, .int .i64 n7, .int .i64 n8, .int .i64 n9]) (by simp [results, Tryz.results19, go_sem]) rfl ⟨rfl, hB.out _ _⟩
set_option maxHeartbeats 2000000 in
theorem set_2 (c : Cfg) (n : Int) (Ad Ae Au Ap : Option Addr) (cd ce cu cp : Nat) (w : World) : Calls Tryz.prog 19 #[.agg (cfgCells c (.slice Ad c.ds.length cd) (.slice Ae c.es.length ce) (.slice Au c.us.length cu) (.slice Ap c.ps.length cp)).toArray, .int .i64 2, .int .i64 n] w fun e w' => e = .returned (.agg (cfgCells (setN c 2 n) (.slice Ad c.ds.length cd) (.slice Ae c.es.length ce) (.slice Au c.us.length cu) (.slice Ap c.ps.length cp)).toArray) ∧ Below w.heap.size w w' := by
  obtain ⟨ce', ds, es, us, ps, n0, n1, n2, n3, n4, n5, n6, n7, n8, n9⟩ := c
  have hB := Lib.hid (set_below w)
  unfold cfgCells setN
  simp only
  go_enter Tryz.func19, Tryz.ntmps19
  go_wp2
  exact bodyPost_ret (v := .agg #[.int .i64 ce', .slice Ad ds.length cd, .slice Ae es.length ce, .slice Au us.length cu, .slice Ap ps.length cp, .int .i64 n0, .int .i64 n1, .int .i64 n, .int .i64 n3, .int .i64 n4, .int .i64 n5, .int .i64 n6, .int .i64 n7, .int .i64 n8, .int .i64 n9]) (by simp [results, Tryz.results19, go_sem]) rfl ⟨rfl, hB.out _ _⟩
set_option maxHeartbeats 2000000 in
theorem set_3 (c : Cfg) (n : Int) (Ad Ae Au Ap : Option Addr) (cd ce cu cp : Nat) (w : World) : Calls Tryz.prog 19 #[.agg (cfgCells c (.slice Ad c.ds.length cd) (.slice Ae c.es.length ce) (.slice Au c.us.length cu) (.slice Ap c.ps.length cp)).toArray, .int .i64 3, .int .i64 n] w fun e w' => e = .returned (.agg (cfgCells (setN c 3 n) (.slice Ad c.ds.length cd) (.slice Ae c.es.length ce) (.slice Au c.us.length cu) (.slice Ap c.ps.length cp)).toArray) ∧ Below w.heap.size w w' := by
  obtain ⟨ce', ds, es, us, ps, n0, n1, n2, n3, n4, n5, n6, n7, n8, n9⟩ := c
  have hB := Lib.hid (set_below w)
  unfold cfgCells setN
  simp only
  go_enter Tryz.func19, Tryz.ntmps19
  go_wp2
  exact bodyPost_ret (v := .agg #[.int .i64 ce', .slice Ad ds.length cd, .slice Ae es.length ce, .slice Au us.length cu, .slice Ap ps.length cp, .int .i64 n0, .int .i64 n1, .int .i64 n2, .int .i64 n, .int .i64 n4, .int .i64 n5, .int .i64 n6, .int .i64 n7, .int .i64 n8, .int .i64 n9]) (by simp [results, Tryz.results19, go_sem]) rfl ⟨rfl, hB.out _ _⟩
set_option maxHeartbeats 2000000 in
theorem set_4 (c : Cfg) (n : Int) (Ad Ae Au Ap : Option Addr) (cd ce cu cp : Nat) (w : World) : Calls Tryz.prog 19 #[.agg (cfgCells c (.slice Ad c.ds.length cd) (.slice Ae c.es.length ce) (.slice Au c.us.length cu) (.slice Ap c.ps.length cp)).toArray, .int .i64 4, .int .i64 n] w fun e w' => e = .returned (.agg (cfgCells (setN c 4 n) (.slice Ad c.ds.length cd) (.slice Ae c.es.length ce) (.slice Au c.us.length cu) (.slice Ap c.ps.length cp)).toArray) ∧ Below w.heap.size w w' := by
  obtain ⟨ce', ds, es, us, ps, n0, n1, n2, n3, n4, n5, n6, n7, n8, n9⟩ := c
  have hB := Lib.hid (set_below w)
  unfold cfgCells setN
  simp only
  go_enter Tryz.func19, Tryz.ntmps19
  go_wp2
  exact bodyPost_ret (v := .agg #[.int .i64 ce', .slice Ad ds.length cd, .slice Ae es.length ce, .slice Au us.length cu, .slice Ap ps.length cp, .int .i64 n0, .int .i64 n1, .int .i64 n2, .int .i64 n3, .int .i64 n, .int .i64 n5, .int .i64 n6, .int .i64 n7, .int .i64 n8, .int .i64 n9]) (by simp [results, Tryz.results19, go_sem]) rfl ⟨rfl, hB.out _ _⟩
set_option maxHeartbeats 2000000 in
theorem set_5 (c : Cfg) (n : Int) (Ad Ae Au Ap : Option Addr) (cd ce cu cp : Nat) (w : World) : Calls Tryz.prog 19 #[.agg (cfgCells c (.slice Ad c.ds.length cd) (.slice Ae c.es.length ce) (.slice Au c.us.length cu) (.slice Ap c.ps.length cp)).toArray, .int .i64 5, .int .i64 n] w fun e w' => e = .returned (.agg (cfgCells (setN c 5 n) (.slice Ad c.ds.length cd) (.slice Ae c.es.length ce) (.slice Au c.us.length cu) (.slice Ap c.ps.length cp)).toArray) ∧ Below w.heap.size w w' := by
  obtain ⟨ce', ds, es, us, ps, n0, n1, n2, n3, n4, n5, n6, n7, n8, n9⟩ := c
  have hB := Lib.hid (set_below w)
  unfold cfgCells setN
  simp only
  go_enter Tryz.func19, Tryz.ntmps19
  go_wp2
  exact bodyPost_ret (v := .agg #[.int .i64 ce', .slice Ad ds.length cd, .slice Ae es.length ce, .slice Au us.length cu, .slice Ap ps.length cp, .int .i64 n0, .int .i64 n1, .int .i64 n2, .int .i64 n3, .int .i64 n4, .int .i64 n, .int .i64 n6, .int .i64 n7, .int .i64 n8, .int .i64 n9]) (by simp [results, Tryz.results19, go_sem]) rfl ⟨rfl, hB.out _ _⟩
set_option maxHeartbeats 2000000 in
theorem set_6 (c : Cfg) (n : Int) (Ad Ae Au Ap : Option Addr) (cd ce cu cp : Nat) (w : World) : Calls Tryz.prog 19 #[.agg (cfgCells c (.slice Ad c.ds.length cd) (.slice Ae c.es.length ce) (.slice Au c.us.length cu) (.slice Ap c.ps.length cp)).toArray, .int .i64 6, .int .i64 n] w fun e w' => e = .returned (.agg (cfgCells (setN c 6 n) (.slice Ad c.ds.length cd) (.slice Ae c.es.length ce) (.slice Au c.us.length cu) (.slice Ap c.ps.length cp)).toArray) ∧ Below w.heap.size w w' := by
  obtain ⟨ce', ds, es, us, ps, n0, n1, n2, n3, n4, n5, n6, n7, n8, n9⟩ := c
  have hB := Lib.hid (set_below w)
  unfold cfgCells setN
  simp only
  go_enter Tryz.func19, Tryz.ntmps19
  go_wp2
  exact bodyPost_ret (v := .agg #[.int .i64 ce', .slice Ad ds.length cd, .slice Ae es.length ce, .slice Au us.length cu, .slice Ap ps.length cp, .int .i64 n0, .int .i64 n1, .int .i64 n2, .int .i64 n3, .int .i64 n4, .int .i64 n5, .int .i64 n, .int .i64 n7, .int .i64 n8, .int .i64 n9]) (by simp [results, Tryz.results19, go_sem]) rfl ⟨rfl, hB.out _ _⟩
set_option maxHeartbeats 2000000 in
theorem set_7 (c : Cfg) (n : Int) (Ad Ae Au Ap : Option Addr) (cd ce cu cp : Nat) (w : World) : Calls Tryz.prog 19 #[.agg (cfgCells c (.slice Ad c.ds.length cd) (.slice Ae c.es.length ce) (.slice Au c.us.length cu) (.slice Ap c.ps.length cp)).toArray, .int .i64 7, .int .i64 n] w fun e w' => e = .returned (.agg (cfgCells (setN c 7 n) (.slice Ad c.ds.length cd) (.slice Ae c.es.length ce) (.slice Au c.us.length cu) (.slice Ap c.ps.length cp)).toArray) ∧ Below w.heap.size w w' := by
  obtain ⟨ce', ds, es, us, ps, n0, n1, n2, n3, n4, n5, n6, n7, n8, n9⟩ := c
  have hB := Lib.hid (set_below w)
  unfold cfgCells setN
  simp only
  go_enter Tryz.func19, Tryz.ntmps19
  go_wp2
  exact bodyPost_ret (v := .agg #[.int .i64 ce', .slice Ad ds.length cd, .slice Ae es.length ce, .slice Au us.length cu, .slice Ap ps.length cp, .int .i64 n0, .int .i64 n1, .int .i64 n2, .int .i64 n3, .int .i64 n4, .int .i64 n5, .int .i64 n6, .int .i64 n, .int .i64 n8, .int .i64 n9]) (by simp [results, Tryz.results19, go_sem]) rfl ⟨rfl, hB.out _ _⟩
set_option maxHeartbeats 2000000 in
theorem set_8 (c : Cfg) (n : Int) (Ad Ae Au Ap : Option Addr) (cd ce cu cp : Nat) (w : World) : Calls Tryz.prog 19 #[.agg (cfgCells c (.slice Ad c.ds.length cd) (.slice Ae c.es.length ce) (.slice Au c.us.length cu) (.slice Ap c.ps.length cp)).toArray, .int .i64 8, .int .i64 n] w fun e w' => e = .returned (.agg (cfgCells (setN c 8 n) (.slice Ad c.ds.length cd) (.slice Ae c.es.length ce) (.slice Au c.us.length cu) (.slice Ap c.ps.length cp)).toArray) ∧ Below w.heap.size w w' := by
  obtain ⟨ce', ds, es, us, ps, n0, n1, n2, n3, n4, n5, n6, n7, n8, n9⟩ := c
  have hB := Lib.hid (set_below w)
  unfold cfgCells setN
  simp only
  go_enter Tryz.func19, Tryz.ntmps19
  go_wp2
  exact bodyPost_ret (v := .agg #[.int .i64 ce', .slice Ad ds.length cd, .slice Ae es.length ce, .slice Au us.length cu, .slice Ap ps.length cp, .int .i64 n0, .int .i64 n1, .int .i64 n2, .int .i64 n3, .int .i64 n4, .int .i64 n5, .int .i64 n6, .int .i64 n7, .int .i64 n, .int .i64 n9]) (by simp [results, Tryz.results19, go_sem]) rfl ⟨rfl, hB.out _ _⟩
set_option maxHeartbeats 2000000 in
theorem set_9 (c : Cfg) (n : Int) (Ad Ae Au Ap : Option Addr) (cd ce cu cp : Nat) (w : World) : Calls Tryz.prog 19 #[.agg (cfgCells c (.slice Ad c.ds.length cd) (.slice Ae c.es.length ce) (.slice Au c.us.length cu) (.slice Ap c.ps.length cp)).toArray, .int .i64 9, .int .i64 n] w fun e w' => e = .returned (.agg (cfgCells (setN c 9 n) (.slice Ad c.ds.length cd) (.slice Ae c.es.length ce) (.slice Au c.us.length cu) (.slice Ap c.ps.length cp)).toArray) ∧ Below w.heap.size w w' := by
  obtain ⟨ce', ds, es, us, ps, n0, n1, n2, n3, n4, n5, n6, n7, n8, n9⟩ := c
  have hB := Lib.hid (set_below w)
  unfold cfgCells setN
  simp only
  go_enter Tryz.func19, Tryz.ntmps19
  go_wp2
  exact bodyPost_ret (v := .agg #[.int .i64 ce', .slice Ad ds.length cd, .slice Ae es.length ce, .slice Au us.length cu, .slice Ap ps.length cp, .int .i64 n0, .int .i64 n1, .int .i64 n2, .int .i64 n3, .int .i64 n4, .int .i64 n5, .int .i64 n6, .int .i64 n7, .int .i64 n8, .int .i64 n]) (by simp [results, Tryz.results19, go_sem]) rfl ⟨rfl, hB.out _ _⟩

theorem setN_same (c : Cfg) (i : Nat) (n : Int) : (setN c i n).ds = c.ds ∧ (setN c i n).es = c.es ∧ (setN c i n).us = c.us ∧ (setN c i n).ps = c.ps ∧ (setN c i n).ce = c.ce := by
  unfold setN
  split <;> exact ⟨rfl, rfl, rfl, rfl, rfl⟩
theorem set_any (c : Cfg) (v : Value) (i : Nat) (hi : i ≤ 9) (n : Int) (w : World) (h : CfgV w v c) : Calls Tryz.prog 19 #[v, .int .i64 (i : Int), .int .i64 n] w fun e w' => ∃ v', e = .returned v' ∧ CfgV w' v' (setN c i n) ∧ Below w.heap.size w w' := by
  obtain ⟨vd, ve, vu, vp, rfl, hd, hh, hu, hq⟩ := h
  obtain ⟨Ad, cd, rfl⟩ := hd.form
  obtain ⟨Ae, ce, rfl⟩ := hh.form
  obtain ⟨Au, cu, rfl⟩ := hu.form
  obtain ⟨Ap, cp, rfl⟩ := hq.form
  have key : ∀ k : Nat, Calls Tryz.prog 19 #[.agg (cfgCells c (.slice Ad c.ds.length cd) (.slice Ae c.es.length ce) (.slice Au c.us.length cu) (.slice Ap c.ps.length cp)).toArray, .int .i64 (k : Int), .int .i64 n] w (fun e w' => e = .returned (.agg (cfgCells (setN c k n) (.slice Ad c.ds.length cd) (.slice Ae c.es.length ce) (.slice Au c.us.length cu) (.slice Ap c.ps.length cp)).toArray) ∧ Below w.heap.size w w') → Calls Tryz.prog 19 #[.agg (cfgCells c (.slice Ad c.ds.length cd) (.slice Ae c.es.length ce) (.slice Au c.us.length cu) (.slice Ap c.ps.length cp)).toArray, .int .i64 (k : Int), .int .i64 n] w fun e w' => ∃ v', e = .returned v' ∧ CfgV w' v' (setN c k n) ∧ Below w.heap.size w w' := by
    intro k hc
    refine hc.mono ?_
    rintro e w' ⟨rfl, hb⟩
    obtain ⟨s1, s2, s3, s4, _⟩ := setN_same c k n
    exact ⟨_, rfl, ⟨_, _, _, _, rfl, by rw [s1]; exact hd.below hb, by rw [s2]; exact hh.below hb, by rw [s3]; exact hu.below hb, by rw [s4]; exact hq.below hb⟩, hb⟩
  rcases (show i = 0 ∨ i = 1 ∨ i = 2 ∨ i = 3 ∨ i = 4 ∨ i = 5 ∨ i = 6 ∨ i = 7 ∨ i = 8 ∨ i = 9 from by omega) with rfl | rfl | rfl | rfl | rfl | rfl | rfl | rfl | rfl | rfl
  · exact key 0 (set_0 c n Ad Ae Au Ap cd ce cu cp w)
  · exact key 1 (set_1 c n Ad Ae Au Ap cd ce cu cp w)
  · exact key 2 (set_2 c n Ad Ae Au Ap cd ce cu cp w)
  · exact key 3 (set_3 c n Ad Ae Au Ap cd ce cu cp w)
  · exact key 4 (set_4 c n Ad Ae Au Ap cd ce cu cp w)
  · exact key 5 (set_5 c n Ad Ae Au Ap cd ce cu cp w)
  · exact key 6 (set_6 c n Ad Ae Au Ap cd ce cu cp w)
  · exact key 7 (set_7 c n Ad Ae Au Ap cd ce cu cp w)
  · exact key 8 (set_8 c n Ad Ae Au Ap cd ce cu cp w)
  · exact key 9 (set_9 c n Ad Ae Au Ap cd ce cu cp w)
end Go.Proofs.YtjklpikopgihgaaGreatDoor
