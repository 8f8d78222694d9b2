/- The code: Equal. -/
import Derived.Test.YtjklpikopgihgaaGreatDoorK4
import Derived.Test.YtjklpikopgihgaaGreatDoorW8
set_option linter.unusedVariables false
set_option maxRecDepth 100000
set_option linter.unusedSimpArgs false
namespace Go.Proofs.YtjklpikopgihgaaGreatDoor
open Go.RowKit Go.Lib Cf

set_option maxHeartbeats 2000000 in
theorem eqInts_any (l m : List Int) (u v : Value) (w : World) (hu : RN w u l) (hv : RN w v m) (hl : l.length ≤ 1000000) (hm : m.length ≤ 1000000) :
    Calls Tryz.prog 42 #[u, v] w fun e w' => e = .returned (.bool (decide (l = m))) ∧ Below w.heap.size w w' := by
  obtain ⟨A, c, rfl⟩ := hu.form
  obtain ⟨D, d, rfl⟩ := hv.form
  have hu' := Lib.hid hu
  have hv' := Lib.hid hv
  clear hu hv
  by_cases hlen : l.length = m.length
  rotate_left
  · have t : ((l.length : Int) != (m.length : Int)) = true := by simp; omega
    have hr := Lib.hid (show decide (l = m) = false from decide_eq_false fun e => hlen (by rw [e]))
    clear hlen
    go_enter Tryz.func42, Tryz.ntmps42
    go_wp2
    go_ret
    exact ⟨ret_b hr.out.symm, Below.refl _ _⟩
  have t : ((l.length : Int) != (m.length : Int)) = false := by simp; omega
  have hlen' := Lib.hid hlen
  clear hlen
  go_enter Tryz.func42, Tryz.ntmps42
  go_wp2_with fail
  clear t
  go_loopw [13] (fun i w' => ∃ k : Nat, i = .int .i64 (k : Int) ∧ k ≤ l.length ∧ l.take k = m.take k ∧ Below w.heap.size w w') (fun i _ => l.length - (intOf i).toNat)
  case atStart => exact ⟨0, rfl, by omega, rfl, Below.refl _ _⟩
  case round =>
    obtain ⟨k, rfl, hk, htk, hB⟩ := hrel
    have htk' := Lib.hid htk
    have hB' := Lib.hid hB
    clear htk hB
    by_cases hlt : k < l.length
    · obtain ⟨x, hx⟩ : ∃ x, l[k]? = some x := ⟨_, List.getElem?_eq_getElem hlt⟩
      obtain ⟨y, hy⟩ : ∃ x, m[k]? = some x := ⟨_, List.getElem?_eq_getElem (by have := hlen'.out; omega)⟩
      have hlb := hlen'.out
      obtain ⟨ada, rfl, xa⟩ := (hu'.out.below hB'.out).at_ hx
      obtain ⟨adb, rfl, xb⟩ := (hv'.out.below hB'.out).at_ hy
      have e1 : (k : Int) < (l.length : Int) := by omega
      have e2 : (0 : Int) ≤ (k : Int) := by omega
      have e3 : (k : Int) < (m.length : Int) := by omega
      have hbad := Lib.hid (show x ≠ y → decide (l = m) = false from fun hne => decide_eq_false fun e => by subst e; rw [hx] at hy; injection hy with hy; exact hne hy)
      have hgood := Lib.hid (show x = y → l.take (k + 1) = m.take (k + 1) from fun e => by rw [List.take_add_one, List.take_add_one, hx, hy, htk'.out, e])
      clear hx hy hlb
      by_cases hxy : x = y
      · have hst := Lib.hid (hgood.out hxy)
        have t1 : (x != y) = false := by simp [hxy]
        clear hxy
        go_wp2
        go_quiet (fail)
        go_wp2
        go_roundw
        case rel => exact ⟨k + 1, by go_num, by omega, hst.out, below_drewN hB'.out _⟩
        case measure => simp [intOf]; omega
      · have hno := Lib.hid (hbad.out hxy)
        have t1 : (x != y) = true := by simp [hxy]
        clear hxy
        go_wp2
        go_quiet (fail)
        go_wp2
        go_ret
        exact ⟨ret_b hno.out.symm, below_drewN hB'.out _⟩
    · obtain rfl : k = l.length := by omega
      have hr := Lib.hid (show decide (l = m) = true from decide_eq_true (by
        have h := htk'.out
        rw [List.take_length, hlen'.out, List.take_length] at h
        exact h))
      clear htk'
      go_wp2
      go_ret
      exact ⟨ret_b hr.out.symm, hB'.out⟩
set_option maxHeartbeats 2000000 in
theorem eqEdges_any (l m : List (Int × Int × Int)) (u v : Value) (w : World) (hu : R3 w u l) (hv : R3 w v m) (hl : l.length ≤ 1000000) (hm : m.length ≤ 1000000) :
    Calls Tryz.prog 43 #[u, v] w fun e w' => e = .returned (.bool (decide (l = m))) ∧ Below w.heap.size w w' := by
  obtain ⟨A, c, rfl⟩ := hu.form
  obtain ⟨D, d, rfl⟩ := hv.form
  have hu' := Lib.hid hu
  have hv' := Lib.hid hv
  clear hu hv
  by_cases hlen : l.length = m.length
  rotate_left
  · have t : ((l.length : Int) != (m.length : Int)) = true := by simp; omega
    have hr := Lib.hid (show decide (l = m) = false from decide_eq_false fun e => hlen (by rw [e]))
    clear hlen
    go_enter Tryz.func43, Tryz.ntmps43
    go_wp2
    go_ret
    exact ⟨ret_b hr.out.symm, Below.refl _ _⟩
  have t : ((l.length : Int) != (m.length : Int)) = false := by simp; omega
  have hlen' := Lib.hid hlen
  clear hlen
  go_enter Tryz.func43, Tryz.ntmps43
  go_wp2_with fail
  clear t
  go_loopw [13] (fun i w' => ∃ k : Nat, i = .int .i64 (k : Int) ∧ k ≤ l.length ∧ l.take k = m.take k ∧ Below w.heap.size w w') (fun i _ => l.length - (intOf i).toNat)
  case atStart => exact ⟨0, rfl, by omega, rfl, Below.refl _ _⟩
  case round =>
    obtain ⟨k, rfl, hk, htk, hB⟩ := hrel
    have htk' := Lib.hid htk
    have hB' := Lib.hid hB
    clear htk hB
    by_cases hlt : k < l.length
    · obtain ⟨x, hx⟩ : ∃ x, l[k]? = some x := ⟨_, List.getElem?_eq_getElem hlt⟩
      obtain ⟨y, hy⟩ : ∃ x, m[k]? = some x := ⟨_, List.getElem?_eq_getElem (by have := hlen'.out; omega)⟩
      have hlb := hlen'.out
      obtain ⟨ada, rfl, xa⟩ := (hu'.out.below hB'.out).at_ hx
      obtain ⟨adb, rfl, xb⟩ := (hv'.out.below hB'.out).at_ hy
      have e1 : (k : Int) < (l.length : Int) := by omega
      have e2 : (0 : Int) ≤ (k : Int) := by omega
      have e3 : (k : Int) < (m.length : Int) := by omega
      have hbad := Lib.hid (show x ≠ y → decide (l = m) = false from fun hne => decide_eq_false fun e => by subst e; rw [hx] at hy; injection hy with hy; exact hne hy)
      have hgood := Lib.hid (show x = y → l.take (k + 1) = m.take (k + 1) from fun e => by rw [List.take_add_one, List.take_add_one, hx, hy, htk'.out, e])
      clear hx hy hlb
      obtain ⟨x1, x2, x3⟩ := x
      obtain ⟨y1, y2, y3⟩ := y
      obtain ⟨a1, a2, a3⟩ := xa
      obtain ⟨b1, b2, b3⟩ := xb
      have a2 : wr.cell? ⟨(ada.add (k * 3)).block, (ada.add (k * 3)).off + 1, none⟩ = some (.int .i64 x2) := a2
      have a3 : wr.cell? ⟨(ada.add (k * 3)).block, (ada.add (k * 3)).off + 2, none⟩ = some (.int .i64 x3) := a3
      have b2 : wr.cell? ⟨(adb.add (k * 3)).block, (adb.add (k * 3)).off + 1, none⟩ = some (.int .i64 y2) := b2
      have b3 : wr.cell? ⟨(adb.add (k * 3)).block, (adb.add (k * 3)).off + 2, none⟩ = some (.int .i64 y3) := b3
      simp only at a1 b1
      by_cases h1 : x1 = y1
      rotate_left
      · have hno := Lib.hid (hbad.out (fun e => h1 (by injection e)))
        go_wp2
        go_quiet (fail)
        go_wp2
        go_ret
        exact ⟨ret_b hno.out.symm, below_drewN hB'.out _⟩
      subst h1
      by_cases h2 : x2 = y2
      rotate_left
      · have hno := Lib.hid (hbad.out (fun e => h2 (by injection e with _ e; injection e)))
        go_wp2
        go_quiet (fail)
        go_wp2
        go_ret
        exact ⟨ret_b hno.out.symm, below_drewN hB'.out _⟩
      subst h2
      by_cases h3 : x3 = y3
      rotate_left
      · have hno := Lib.hid (hbad.out (fun e => h3 (by injection e with _ e; injection e)))
        go_wp2
        go_quiet (fail)
        go_wp2
        go_ret
        exact ⟨ret_b hno.out.symm, below_drewN hB'.out _⟩
      subst h3
      have hst := Lib.hid (hgood.out rfl)
      go_wp2
      go_quiet (fail)
      go_wp2
      go_roundw
      case rel => exact ⟨k + 1, by go_num, by omega, hst.out, below_drewN hB'.out _⟩
      case measure => simp [intOf]; omega
    · obtain rfl : k = l.length := by omega
      have hr := Lib.hid (show decide (l = m) = true from decide_eq_true (by
        have h := htk'.out
        rw [List.take_length, hlen'.out, List.take_length] at h
        exact h))
      clear htk'
      go_wp2
      go_ret
      exact ⟨ret_b hr.out.symm, hB'.out⟩
set_option maxHeartbeats 2000000 in
theorem eqUnits_any (l m : List (Int × Int × Int)) (u v : Value) (w : World) (hu : R3 w u l) (hv : R3 w v m) (hl : l.length ≤ 1000000) (hm : m.length ≤ 1000000) :
    Calls Tryz.prog 44 #[u, v] w fun e w' => e = .returned (.bool (decide (l = m))) ∧ Below w.heap.size w w' := by
  obtain ⟨A, c, rfl⟩ := hu.form
  obtain ⟨D, d, rfl⟩ := hv.form
  have hu' := Lib.hid hu
  have hv' := Lib.hid hv
  clear hu hv
  by_cases hlen : l.length = m.length
  rotate_left
  · have t : ((l.length : Int) != (m.length : Int)) = true := by simp; omega
    have hr := Lib.hid (show decide (l = m) = false from decide_eq_false fun e => hlen (by rw [e]))
    clear hlen
    go_enter Tryz.func44, Tryz.ntmps44
    go_wp2
    go_ret
    exact ⟨ret_b hr.out.symm, Below.refl _ _⟩
  have t : ((l.length : Int) != (m.length : Int)) = false := by simp; omega
  have hlen' := Lib.hid hlen
  clear hlen
  go_enter Tryz.func44, Tryz.ntmps44
  go_wp2_with fail
  clear t
  go_loopw [13] (fun i w' => ∃ k : Nat, i = .int .i64 (k : Int) ∧ k ≤ l.length ∧ l.take k = m.take k ∧ Below w.heap.size w w') (fun i _ => l.length - (intOf i).toNat)
  case atStart => exact ⟨0, rfl, by omega, rfl, Below.refl _ _⟩
  case round =>
    obtain ⟨k, rfl, hk, htk, hB⟩ := hrel
    have htk' := Lib.hid htk
    have hB' := Lib.hid hB
    clear htk hB
    by_cases hlt : k < l.length
    · obtain ⟨x, hx⟩ : ∃ x, l[k]? = some x := ⟨_, List.getElem?_eq_getElem hlt⟩
      obtain ⟨y, hy⟩ : ∃ x, m[k]? = some x := ⟨_, List.getElem?_eq_getElem (by have := hlen'.out; omega)⟩
      have hlb := hlen'.out
      obtain ⟨ada, rfl, xa⟩ := (hu'.out.below hB'.out).at_ hx
      obtain ⟨adb, rfl, xb⟩ := (hv'.out.below hB'.out).at_ hy
      have e1 : (k : Int) < (l.length : Int) := by omega
      have e2 : (0 : Int) ≤ (k : Int) := by omega
      have e3 : (k : Int) < (m.length : Int) := by omega
      have hbad := Lib.hid (show x ≠ y → decide (l = m) = false from fun hne => decide_eq_false fun e => by subst e; rw [hx] at hy; injection hy with hy; exact hne hy)
      have hgood := Lib.hid (show x = y → l.take (k + 1) = m.take (k + 1) from fun e => by rw [List.take_add_one, List.take_add_one, hx, hy, htk'.out, e])
      clear hx hy hlb
      obtain ⟨x1, x2, x3⟩ := x
      obtain ⟨y1, y2, y3⟩ := y
      obtain ⟨a1, a2, a3⟩ := xa
      obtain ⟨b1, b2, b3⟩ := xb
      have a2 : wr.cell? ⟨(ada.add (k * 3)).block, (ada.add (k * 3)).off + 1, none⟩ = some (.int .i64 x2) := a2
      have a3 : wr.cell? ⟨(ada.add (k * 3)).block, (ada.add (k * 3)).off + 2, none⟩ = some (.int .i64 x3) := a3
      have b2 : wr.cell? ⟨(adb.add (k * 3)).block, (adb.add (k * 3)).off + 1, none⟩ = some (.int .i64 y2) := b2
      have b3 : wr.cell? ⟨(adb.add (k * 3)).block, (adb.add (k * 3)).off + 2, none⟩ = some (.int .i64 y3) := b3
      simp only at a1 b1
      by_cases h1 : x1 = y1
      rotate_left
      · have hno := Lib.hid (hbad.out (fun e => h1 (by injection e)))
        go_wp2
        go_quiet (fail)
        go_wp2
        go_ret
        exact ⟨ret_b hno.out.symm, below_drewN hB'.out _⟩
      subst h1
      by_cases h2 : x2 = y2
      rotate_left
      · have hno := Lib.hid (hbad.out (fun e => h2 (by injection e with _ e; injection e)))
        go_wp2
        go_quiet (fail)
        go_wp2
        go_ret
        exact ⟨ret_b hno.out.symm, below_drewN hB'.out _⟩
      subst h2
      by_cases h3 : x3 = y3
      rotate_left
      · have hno := Lib.hid (hbad.out (fun e => h3 (by injection e with _ e; injection e)))
        go_wp2
        go_quiet (fail)
        go_wp2
        go_ret
        exact ⟨ret_b hno.out.symm, below_drewN hB'.out _⟩
      subst h3
      have hst := Lib.hid (hgood.out rfl)
      go_wp2
      go_quiet (fail)
      go_wp2
      go_roundw
      case rel => exact ⟨k + 1, by go_num, by omega, hst.out, below_drewN hB'.out _⟩
      case measure => simp [intOf]; omega
    · obtain rfl : k = l.length := by omega
      have hr := Lib.hid (show decide (l = m) = true from decide_eq_true (by
        have h := htk'.out
        rw [List.take_length, hlen'.out, List.take_length] at h
        exact h))
      clear htk'
      go_wp2
      go_ret
      exact ⟨ret_b hr.out.symm, hB'.out⟩
set_option maxHeartbeats 2000000 in
theorem equalPlans_any (p q : Plan) (u v : Value) (w : World) (hu : RN w u p.kinds) (hv : RN w v q.kinds) (h1 : p.kinds.length ≤ 1000000) (h2 : q.kinds.length ≤ 1000000) :
    Calls Tryz.prog 46 #[.agg #[.string ⟨p.code.toArray⟩, .int .i64 p.urg, u], .agg #[.string ⟨q.code.toArray⟩, .int .i64 q.urg, v]] w fun e w' => e = .returned (.bool (decide (p = q))) ∧ Below w.heap.size w w' := by
  obtain ⟨Ak, ak, rfl⟩ := hu.form
  obtain ⟨Bk, bk, rfl⟩ := hv.form
  have hw2 := two_new w 43 (.string ⟨p.code.toArray⟩) (.int .i64 p.urg) (.slice Ak p.kinds.length ak) (.string ⟨q.code.toArray⟩) (.int .i64 q.urg) (.slice Bk q.kinds.length bk) _ rfl
  obtain ⟨hb2, f0, f1, f2, s0, s1, s2⟩ := hw2
  have HK := Lib.hid (eqInts_any p.kinds q.kinds _ _ _ (hu.below hb2) (hv.below hb2) h1 h2)
  have hb2' := Lib.hid hb2
  by_cases c0 : p.code = q.code
  rotate_left
  · have hr := Lib.hid (show decide (p = q) = false from decide_eq_false fun e => c0 (by rw [e]))
    have t0 : (p.code != q.code) = true := by simp [c0]
    have t0b : (p.code == q.code) = false := by simp [c0]
    clear c0 hb2 hu hv
    go_enter Tryz.func46, Tryz.ntmps46
    go_wp2
    go_ret
    exact ⟨ret_b hr.out.symm, hb2'.out⟩
  have t0 : (p.code != q.code) = false := by simp [c0]
  have t0b : (p.code == q.code) = true := by simp [c0]
  by_cases c1 : p.urg = q.urg
  rotate_left
  · have hr := Lib.hid (show decide (p = q) = false from decide_eq_false fun e => c1 (by rw [e]))
    have t1 : (p.urg != q.urg) = true := by simp [c1]
    have t1b : (p.urg == q.urg) = false := by simp [c1]
    clear c0 c1 hb2 hu hv
    go_enter Tryz.func46, Tryz.ntmps46
    go_wp2
    go_ret
    exact ⟨ret_b hr.out.symm, hb2'.out⟩
  have t1 : (p.urg != q.urg) = false := by simp [c1]
  have t1b : (p.urg == q.urg) = true := by simp [c1]
  have hr := Lib.hid (show decide (p = q) = decide (p.kinds = q.kinds) from by
    rw [decide_eq_decide]
    exact ⟨fun e => by rw [e], fun e => plan_eq c0 c1 e⟩)
  clear c0 c1 hb2 hu hv
  go_enter Tryz.func46, Tryz.ntmps46
  go_wp2_with fail
  refine HK.out.mono ?_
  rintro e w3 ⟨rfl, b3⟩
  have b3' := Lib.hid (then_ hb2'.out b3)
  clear b3 f0 f1 f2 s0 s1 s2
  go_wp2
  go_ret
  exact ⟨ret_b hr.out.symm, b3'.out⟩

set_option maxHeartbeats 4000000 in
theorem eqFunc_any (l m : List Plan) (u v : Value) (w : World) (hu : RP w u l) (hv : RP w v m) (hl : l.length ≤ 1000000) (hm : m.length ≤ 1000000) (hpl : ∀ p ∈ l, p.kinds.length ≤ 1000000) (hpm : ∀ p ∈ m, p.kinds.length ≤ 1000000) :
    Calls Tryz.prog 45 #[u, v, .func (.func 46) #[] #[]] w fun e w' => e = .returned (.bool (decide (l = m))) ∧ Below w.heap.size w w' := by
  obtain ⟨A, c, rfl⟩ := hu.form
  obtain ⟨D, d, rfl⟩ := hv.form
  have hu' := Lib.hid hu
  have hv' := Lib.hid hv
  have hpl' := Lib.hid hpl
  have hpm' := Lib.hid hpm
  clear hu hv hpl hpm
  by_cases hlen : l.length = m.length
  rotate_left
  · have t : ((l.length : Int) != (m.length : Int)) = true := by simp; omega
    have hr := Lib.hid (show decide (l = m) = false from decide_eq_false fun e => hlen (by rw [e]))
    clear hlen
    go_enter Tryz.func45, Tryz.ntmps45
    go_wp2
    go_ret
    exact ⟨ret_b hr.out.symm, Below.refl _ _⟩
  have t : ((l.length : Int) != (m.length : Int)) = false := by simp; omega
  have hlen' := Lib.hid hlen
  clear hlen
  go_enter Tryz.func45, Tryz.ntmps45
  go_wp2_with fail
  clear t
  go_loopw [17] (fun i w' => ∃ k : Nat, i = .int .i64 (k : Int) ∧ k ≤ l.length ∧ l.take k = m.take k ∧ Below w.heap.size w w') (fun i _ => l.length - (intOf i).toNat)
  case atStart => exact ⟨0, rfl, by omega, rfl, Below.refl _ _⟩
  case round =>
    obtain ⟨k, rfl, hk, htk, hB⟩ := hrel
    have htk' := Lib.hid htk
    have hB' := Lib.hid hB
    clear htk hB
    by_cases hlt : k < l.length
    · obtain ⟨p, hx⟩ : ∃ x, l[k]? = some x := ⟨_, List.getElem?_eq_getElem hlt⟩
      obtain ⟨q, hy⟩ : ∃ x, m[k]? = some x := ⟨_, List.getElem?_eq_getElem (by have := hlen'.out; omega)⟩
      have hlb := hlen'.out
      obtain ⟨ada, u1, rfl, xa, ru⟩ := (hu'.out.below hB'.out).at_ hx
      obtain ⟨adb, v1, rfl, xb, rv⟩ := (hv'.out.below hB'.out).at_ hy
      obtain ⟨Ak, ak, rfl⟩ := ru.form
      obtain ⟨Bk, bk, rfl⟩ := rv.form
      have e1 : (k : Int) < (l.length : Int) := by omega
      have e2 : (0 : Int) ≤ (k : Int) := by omega
      have e3 : (k : Int) < (m.length : Int) := by omega
      have hbad := Lib.hid (show p ≠ q → decide (l = m) = false from fun hne => decide_eq_false fun e => by subst e; rw [hx] at hy; injection hy with hy; exact hne hy)
      have hgood := Lib.hid (show p = q → l.take (k + 1) = m.take (k + 1) from fun e => by rw [List.take_add_one, List.take_add_one, hx, hy, htk'.out, e])
      have hka := hpl'.out p (List.mem_of_getElem? hx)
      have hkb := hpm'.out q (List.mem_of_getElem? hy)
      have la := load_plan xa
      have hb1 : Below wr.heap.size wr (wr.alloc (.cells #[.string ⟨p.code.toArray⟩, .int .i64 p.urg, .slice Ak p.kinds.length ak] 43)) := (Below.refl _ _).alloc (Nat.le_refl _) _
      have lb := load_plan (xb.below hb1)
      have hw2 := two_new wr 43 (.string ⟨p.code.toArray⟩) (.int .i64 p.urg) (.slice Ak p.kinds.length ak) (.string ⟨q.code.toArray⟩) (.int .i64 q.urg) (.slice Bk q.kinds.length bk) _ rfl
      obtain ⟨hb2, f0, f1, f2, s0, s1, s2⟩ := hw2
      have lp := load_plan (p := ⟨wr.heap.size, 0, none⟩) (q := p) ⟨f0, f1, f2⟩
      have lq := load_plan (p := ⟨wr.heap.size + 1, 0, none⟩) (q := q) ⟨s0, s1, s2⟩
      have HP := Lib.hid (equalPlans_any p q _ _ _ (ru.below hb2) (rv.below hb2) hka hkb)
      have B2 := Lib.hid (then_ hB'.out hb2)
      clear hx hy hlb xa xb ru rv hka hkb hb1 hb2 f0 f1 f2 s0 s1 s2
      go_wp2_with (first
        | (refine wpList_load_list rfl 43 _ rfl (ada.add (k * 3)) rfl [.string ⟨p.code.toArray⟩, .int .i64 p.urg, .slice Ak p.kinds.length ak] la ?_)
        | (refine wpList_load_list rfl 43 _ rfl (adb.add (k * 3)) rfl [.string ⟨q.code.toArray⟩, .int .i64 q.urg, .slice Bk q.kinds.length bk] lb ?_)
        | (refine wpList_load_list rfl 43 _ rfl ⟨wr.heap.size, 0, none⟩ rfl [.string ⟨p.code.toArray⟩, .int .i64 p.urg, .slice Ak p.kinds.length ak] lp ?_)
        | (refine wpList_load_list rfl 43 _ rfl ⟨wr.heap.size + 1, 0, none⟩ rfl [.string ⟨q.code.toArray⟩, .int .i64 q.urg, .slice Bk q.kinds.length bk] lq ?_))
      refine HP.out.mono ?_
      rintro e w3 ⟨rfl, b3⟩
      have B3 := Lib.hid (then_ B2.out b3)
      clear b3 la lb lp lq
      cases hpq : decide (p = q) with
      | false =>
        have hno := Lib.hid (hbad.out (of_decide_eq_false hpq))
        clear hpq
        go_wp2
        go_ret
        exact ⟨ret_b hno.out.symm, B3.out⟩
      | true =>
        have hst := Lib.hid (hgood.out (of_decide_eq_true hpq))
        clear hpq
        go_wp2
        go_roundw
        case rel => exact ⟨k + 1, by go_num, by omega, hst.out, B3.out⟩
        case measure => simp [intOf]; omega
    · obtain rfl : k = l.length := by omega
      have hr := Lib.hid (show decide (l = m) = true from decide_eq_true (by
        have h := htk'.out
        rw [List.take_length, hlen'.out, List.take_length] at h
        exact h))
      clear htk'
      go_wp2
      go_ret
      exact ⟨ret_b hr.out.symm, hB'.out⟩
set_option maxHeartbeats 8000000 in
theorem equalParameters_any (a b : Cfg) (va vb : Value) (w : World) (ha : CfgV w va a) (hb : CfgV w vb b) :
    Calls Tryz.prog 47 #[va, vb] w fun e w' => e = .returned (.bool (decide (a.nums = b.nums))) ∧ Below w.heap.size w w' := by
  obtain ⟨_, _, _, _, rfl, ad, ae, au, ap⟩ := ha
  obtain ⟨_, _, _, _, rfl, bd, be, bu, bp⟩ := hb
  obtain ⟨A1d, c1d, rfl⟩ := ad.form
  obtain ⟨A1e, c1e, rfl⟩ := ae.form
  obtain ⟨A1u, c1u, rfl⟩ := au.form
  obtain ⟨A1p, c1p, rfl⟩ := ap.form
  obtain ⟨A2d, c2d, rfl⟩ := bd.form
  obtain ⟨A2e, c2e, rfl⟩ := be.form
  obtain ⟨A2u, c2u, rfl⟩ := bu.form
  obtain ⟨A2p, c2p, rfl⟩ := bp.form
  have hA : Below w.heap.size w (w.alloc (.cells (cfgCells a (.slice A1d a.ds.length c1d) (.slice A1e a.es.length c1e) (.slice A1u a.us.length c1u) (.slice A1p a.ps.length c1p)).toArray 27)) := (Below.refl _ _).alloc (Nat.le_refl _) _
  have hCa1 : CB (w.alloc (.cells (cfgCells a (.slice A1d a.ds.length c1d) (.slice A1e a.es.length c1e) (.slice A1u a.us.length c1u) (.slice A1p a.ps.length c1p)).toArray 27)) w.heap.size a _ _ _ _ := cb_new w a (.slice A1d a.ds.length c1d) (.slice A1e a.es.length c1e) (.slice A1u a.us.length c1u) (.slice A1p a.ps.length c1p)
  have hAB := (Below.refl (w.alloc (.cells (cfgCells a (.slice A1d a.ds.length c1d) (.slice A1e a.es.length c1e) (.slice A1u a.us.length c1u) (.slice A1p a.ps.length c1p)).toArray 27)).heap.size (w.alloc (.cells (cfgCells a (.slice A1d a.ds.length c1d) (.slice A1e a.es.length c1e) (.slice A1u a.us.length c1u) (.slice A1p a.ps.length c1p)).toArray 27))).alloc (Nat.le_refl _) (.cells (cfgCells b (.slice A2d b.ds.length c2d) (.slice A2e b.es.length c2e) (.slice A2u b.us.length c2u) (.slice A2p b.ps.length c2p)).toArray 27)
  have hCa := hCa1.below hAB
  have hCb := cb_new (w.alloc (.cells (cfgCells a (.slice A1d a.ds.length c1d) (.slice A1e a.es.length c1e) (.slice A1u a.us.length c1u) (.slice A1p a.ps.length c1p)).toArray 27)) b (.slice A2d b.ds.length c2d) (.slice A2e b.es.length c2e) (.slice A2u b.us.length c2u) (.slice A2p b.ps.length c2p)
  rw [World.size_alloc] at hCb
  have hB0 := then_ hA hAB
  obtain ⟨W, hW⟩ : ∃ W, (w.alloc (.cells (cfgCells a (.slice A1d a.ds.length c1d) (.slice A1e a.es.length c1e) (.slice A1u a.us.length c1u) (.slice A1p a.ps.length c1p)).toArray 27)).alloc (.cells (cfgCells b (.slice A2d b.ds.length c2d) (.slice A2e b.es.length c2e) (.slice A2u b.us.length c2u) (.slice A2p b.ps.length c2p)).toArray 27) = W := ⟨_, rfl⟩
  rw [hW] at hCa hCb hB0
  have hVa := Lib.hid (show CfgV W (.agg (cfgCells a (.slice A1d a.ds.length c1d) (.slice A1e a.es.length c1e) (.slice A1u a.us.length c1u) (.slice A1p a.ps.length c1p)).toArray) a from ⟨_, _, _, _, rfl, ad.below hB0, ae.below hB0, au.below hB0, ap.below hB0⟩)
  have hVb := Lib.hid (show CfgV W (.agg (cfgCells b (.slice A2d b.ds.length c2d) (.slice A2e b.es.length c2e) (.slice A2u b.us.length c2u) (.slice A2p b.ps.length c2p)).toArray) b from ⟨_, _, _, _, rfl, bd.below hB0, be.below hB0, bu.below hB0, bp.below hB0⟩)
  have hB0' := Lib.hid hB0
  have hWl : w.heap.size ≤ W.heap.size := hB0.size
  have hCa' := Lib.hid hCa
  have hCb' := Lib.hid hCb
  clear ad ae au ap bd be bu bp hA hAB hCa1 hCa hCb hB0
  unfold cfgCells at hW ⊢
  go_enter Tryz.func47, Tryz.ntmps47
  go_wp2_with fail
  clear hW
  refine (parameters_any W).mono ?_
  rintro r w1 ⟨Aq, cq, rfl, hPs, _, hB1⟩
  have hPs' := Lib.hid hPs
  have hB1' := Lib.hid hB1
  clear hPs hB1
  go_wp2_with fail
  go_loopw [9] (fun i w' => ∃ k : Nat, i = .int .i64 (k : Int) ∧ k ≤ 10 ∧ a.nums.take k = b.nums.take k ∧ Below w1.heap.size w1 w') (fun i _ => 10 - (intOf i).toNat)
  case atStart => exact ⟨0, rfl, by omega, rfl, Below.refl _ _⟩
  case round =>
    obtain ⟨k, rfl, hk, hal, hB⟩ := hrel
    have hal' := Lib.hid hal
    have hB' := Lib.hid hB
    clear hal hB
    by_cases hlt : k < 10
    · have e1 : (k : Int) < 10 := by omega
      have e2 : (0 : Int) ≤ (k : Int) := by omega
      have hle := (hPs'.out.below hB'.out).load hlt
      obtain ⟨x, hx⟩ : ∃ z, a.nums[k]? = some z := ⟨_, List.getElem?_eq_getElem (show k < a.nums.length from hlt)⟩
      obtain ⟨y, hy⟩ : ∃ z, b.nums[k]? = some z := ⟨_, List.getElem?_eq_getElem (show k < b.nums.length from hlt)⟩
      have hbad := Lib.hid (show x ≠ y → decide (a.nums = b.nums) = false from fun hne => decide_eq_false fun e => by rw [e, hy] at hx; injection hx with hx; exact hne hx.symm)
      have hgood := Lib.hid (show x = y → a.nums.take (k + 1) = b.nums.take (k + 1) from fun e => by rw [List.take_add_one, List.take_add_one, hx, hy, hal'.out, e])
      have hxg := Lib.hid (getD_of hx)
      have hyg := Lib.hid (getD_of hy)
      clear hx hy
      obtain ⟨nm, hnm⟩ : ∃ nm, word k = nm := ⟨_, rfl⟩
      obtain ⟨lo, hi, hbd⟩ : ∃ lo hi, bounds k = (lo, hi) := ⟨_, _, rfl⟩
      obtain ⟨gf, hgf⟩ : ∃ gf, getF k = gf := ⟨_, rfl⟩
      obtain ⟨pf, hpf⟩ : ∃ pf, putF k = pf := ⟨_, rfl⟩
      have hrun : ∀ args w, Sem.run Tryz.prog (callFunc gf args) w = Result.ok (Next.enter gf args) w := fun args w => by rw [← hgf]; exact run_getF k hlt args w
      have hgf' := Lib.hid hgf
      unfold parCells at hle
      rw [hnm, hbd, hgf, hpf] at hle
      simp only at hle
      clear hnm hbd hgf hpf
      have hBa : Below wr.heap.size wr (wr.alloc (.cells #[.string ⟨nm.toArray⟩, .int .i64 lo, .int .i64 hi, .func (.func gf) #[] #[], .func (.func pf) #[] #[]] 67)) := (Below.refl _ _).alloc (Nat.le_refl _) _
      have hnew := heap_alloc_new wr (.cells #[.string ⟨nm.toArray⟩, .int .i64 lo, .int .i64 hi, .func (.func gf) #[] #[], .func (.func pf) #[] #[]] 67)
      have B2 := then_ hB'.out hBa
      have BW := then_ hB1'.out B2
      have hVa2 := hVa.out.below BW
      have hVb2 := hVb.out.below BW
      have hCa2 := hCa'.out.below BW
      have hCb2 := hCb'.out.below BW
      go_wp2_with (refine wpList_load_list rfl 67 _ rfl (Aq.add (k * 5)) rfl [.string ⟨nm.toArray⟩, .int .i64 lo, .int .i64 hi, .func (.func gf) #[] #[], .func (.func pf) #[] #[]] hle ?_)
      clear hle hBa BW
      generalize wr.alloc (.cells #[.string ⟨nm.toArray⟩, .int .i64 lo, .int .i64 hi, .func (.func gf) #[] #[], .func (.func pf) #[] #[]] 67) = V at hnew B2 hVa2 hVb2 hCa2 hCb2 ⊢
      generalize wr.heap.size = gV at hnew ⊢
      obtain ⟨G, hG1, hG2⟩ := gworlds V
      have hW0 : ∃ q, V.drew = G q := hG2 _ (Below.refl _ _).drew
      have x3 : ∀ r, (G r).cell? ⟨gV, 3, none⟩ = some (.func (.func gf) #[] #[]) := fun r => cell_keep (by rw [cell_of_row _ _ 3 _ _ _ hnew]; rfl) (hG1 r)
      have HLa := Lib.hid (fun r => (hCa2.below (hG1 r)).load)
      have HLb := Lib.hid (fun r => (hCb2.below (hG1 r)).load)
      have HGa := Lib.hid (fun r => show Calls Tryz.prog gf #[.agg (cfgCells a (.slice A1d a.ds.length c1d) (.slice A1e a.es.length c1e) (.slice A1u a.us.length c1u) (.slice A1p a.ps.length c1p)).toArray] (G r) (fun e w'' => e = .returned (.int .i64 x) ∧ ∃ q : Regrown, w'' = G q) from hgf'.out ▸ (get_any k hlt a _ (G r) (hVa2.below (hG1 r))).mono fun e w'' ⟨he, hb⟩ => ⟨by rw [he, hxg.out], hG2 _ (then_ (hG1 r) hb)⟩)
      have HGb := Lib.hid (fun r => show Calls Tryz.prog gf #[.agg (cfgCells b (.slice A2d b.ds.length c2d) (.slice A2e b.es.length c2e) (.slice A2u b.us.length c2u) (.slice A2p b.ps.length c2p)).toArray] (G r) (fun e w'' => e = .returned (.int .i64 y) ∧ ∃ q : Regrown, w'' = G q) from hgf'.out ▸ (get_any k hlt b _ (G r) (hVb2.below (hG1 r))).mono fun e w'' ⟨he, hb⟩ => ⟨by rw [he, hyg.out], hG2 _ (then_ (hG1 r) hb)⟩)
      have HB := Lib.hid (fun r => then_ B2 (hG1 r))
      clear hG1 hG2 hnew hVa2 hVb2 hCa2 hCb2 B2
      by_cases hxy : x = y
      · have t1 : (x != y) = false := by simp [hxy]
        have hst := Lib.hid (hgood.out hxy)
        clear hxy
        refine wp_region_G (G := G) (by kernel_rfl) (by kernel_rfl) hW0 ?_
        repeat (first | go_big_quiet_skip | (go_big_quiet_want; first
          | (refine q_load_list 27 _ ⟨w.heap.size, 0, none⟩ (cfgCells a (.slice A1d a.ds.length c1d) (.slice A1e a.es.length c1e) (.slice A1u a.us.length c1u) (.slice A1p a.ps.length c1p)) rfl rfl HLa.out ?_; simp only [Act.put, List.setIfInBounds_toArray, List.set_cons_zero, List.set_cons_succ]; go_big_quiet_on)
          | (refine q_load_list 27 _ ⟨w.heap.size + 1, 0, none⟩ (cfgCells b (.slice A2d b.ds.length c2d) (.slice A2e b.es.length c2e) (.slice A2u b.us.length c2u) (.slice A2p b.ps.length c2p)) rfl rfl HLb.out ?_; simp only [Act.put, List.setIfInBounds_toArray, List.set_cons_zero, List.set_cons_succ]; go_big_quiet_on)
          | (go_big_quiet_op; first | go_big_quiet_on | go_big_quiet_call (first | exact HGa.out _ | exact HGb.out _))))
        refine wpQuiet_nil ?_
        rintro _ ⟨r, rfl⟩
        go_wp2
        go_roundw
        case rel => exact ⟨k + 1, by go_num, by omega, hst.out, HB.out r⟩
        case measure => simp [intOf]; omega
      · have t1 : (x != y) = true := by simp [hxy]
        have hno := Lib.hid (hbad.out hxy)
        clear hxy
        refine wp_region_G (G := G) (by kernel_rfl) (by kernel_rfl) hW0 ?_
        repeat (first | go_big_quiet_skip | (go_big_quiet_want; first
          | (refine q_load_list 27 _ ⟨w.heap.size, 0, none⟩ (cfgCells a (.slice A1d a.ds.length c1d) (.slice A1e a.es.length c1e) (.slice A1u a.us.length c1u) (.slice A1p a.ps.length c1p)) rfl rfl HLa.out ?_; simp only [Act.put, List.setIfInBounds_toArray, List.set_cons_zero, List.set_cons_succ]; go_big_quiet_on)
          | (refine q_load_list 27 _ ⟨w.heap.size + 1, 0, none⟩ (cfgCells b (.slice A2d b.ds.length c2d) (.slice A2e b.es.length c2e) (.slice A2u b.us.length c2u) (.slice A2p b.ps.length c2p)) rfl rfl HLb.out ?_; simp only [Act.put, List.setIfInBounds_toArray, List.set_cons_zero, List.set_cons_succ]; go_big_quiet_on)
          | (go_big_quiet_op; first | go_big_quiet_on | go_big_quiet_call (first | exact HGa.out _ | exact HGb.out _))))
        refine wpQuiet_nil ?_
        rintro _ ⟨r, rfl⟩
        go_wp2
        go_ret
        exact ⟨ret_b hno.out.symm, hB0'.out.trans ((then_ hB1'.out (HB.out r)).mono hWl)⟩
    · obtain rfl : k = 10 := by omega
      have hr := Lib.hid (show decide (a.nums = b.nums) = true from decide_eq_true (by
        have h := hal'.out
        rw [List.take_of_length_le (show a.nums.length ≤ 10 from Nat.le_refl _), List.take_of_length_le (show b.nums.length ≤ 10 from Nat.le_refl _)] at h
        exact h))
      clear hal'
      go_wp2
      go_ret
      exact ⟨ret_b hr.out.symm, hB0'.out.trans ((then_ hB1'.out hB'.out).mono hWl)⟩

end Go.Proofs.YtjklpikopgihgaaGreatDoor
