/- The reference: Same. -/
import Derived.Test.YtjklpikopgihgaaGreatDoorW6
import Derived.Deep.DeepCutAuto
import Derived.Deep.CutRange
set_option linter.unusedVariables false
set_option maxRecDepth 100000
set_option linter.unusedSimpArgs false
namespace Go.Proofs.YtjklpikopgihgaaGreatDoor
open Go.RowKit Go.Lib Cf

theorem two_new (w : World) (T : TypeId) (x y z x' y' z' : Value) (W : World) (hW : (w.alloc (.cells #[x, y, z] T)).alloc (.cells #[x', y', z'] T) = W) :
    Below w.heap.size w W ∧ W.cell? ⟨w.heap.size, 0, none⟩ = some x ∧ W.cell? ⟨w.heap.size, 1, none⟩ = some y ∧ W.cell? ⟨w.heap.size, 2, none⟩ = some z
      ∧ W.cell? ⟨w.heap.size + 1, 0, none⟩ = some x' ∧ W.cell? ⟨w.heap.size + 1, 1, none⟩ = some y' ∧ W.cell? ⟨w.heap.size + 1, 2, none⟩ = some z' := by
  subst hW
  have h1 : Below w.heap.size w (w.alloc (.cells #[x, y, z] T)) := (Below.refl _ _).alloc (Nat.le_refl _) _
  have h2 : Below (w.alloc (.cells #[x, y, z] T)).heap.size (w.alloc (.cells #[x, y, z] T)) ((w.alloc (.cells #[x, y, z] T)).alloc (.cells #[x', y', z'] T)) := (Below.refl _ _).alloc (Nat.le_refl _) _
  have a (i : Nat) (v : Value) (h : #[x, y, z][i]? = some v) : ((w.alloc (.cells #[x, y, z] T)).alloc (.cells #[x', y', z'] T)).cell? ⟨w.heap.size, i, none⟩ = some v := cell_keep (by simp [World.cell?_alloc_new, h]) h2
  have b (i : Nat) (v : Value) (h : #[x', y', z'][i]? = some v) : ((w.alloc (.cells #[x, y, z] T)).alloc (.cells #[x', y', z'] T)).cell? ⟨w.heap.size + 1, i, none⟩ = some v := by
    rw [show w.heap.size + 1 = (w.alloc (.cells #[x, y, z] T)).heap.size from (World.size_alloc _ _).symm]
    simp [World.cell?_alloc_new, h]
  exact ⟨then_ h1 h2, a 0 _ rfl, a 1 _ rfl, a 2 _ rfl, b 0 _ rfl, b 1 _ rfl, b 2 _ rfl⟩
theorem plan_eq {p q : Plan} (h1 : p.code = q.code) (h2 : p.urg = q.urg) (h3 : p.kinds = q.kinds) : p = q := by
  cases p; cases q; simp only at h1 h2 h3; subst h1; subst h2; subst h3; rfl
theorem cfg_eq {a b : Cfg} (h0 : a.ce = b.ce) (h1 : a.ds = b.ds) (h2 : a.es = b.es) (h3 : a.us = b.us) (h4 : a.ps = b.ps) (h5 : a.nums = b.nums) : a = b := by
  cases a; cases b
  simp only [Cfg.nums, List.cons.injEq, and_true] at h0 h1 h2 h3 h4 h5
  obtain ⟨g0, g1, g2, g3, g4, g5, g6, g7, g8, g9⟩ := h5
  subst h0 h1 h2 h3 h4 g0 g1 g2 g3 g4 g5 g6 g7 g8 g9
  rfl

set_option maxRecDepth 100000 in
set_option maxHeartbeats 8000000 in
theorem same_any (a b : Cfg) (va vb : Value) (w : World) (ha : CfgV w va a) (hb : CfgV w vb b) (ma : Small a) (mb : Small b) :
    Calls Tryz.prog 15 #[va, vb] w fun r w' => r = .returned (.bool (decide (a = b))) ∧ Below w.heap.size w w' := by
  obtain ⟨_, _, _, _, rfl, hd1, he1, hu1, hp1⟩ := ha
  obtain ⟨Aad, acd, rfl⟩ := hd1.form
  obtain ⟨Aae, ace, rfl⟩ := he1.form
  obtain ⟨Aau, acu, rfl⟩ := hu1.form
  obtain ⟨Aap, acp, rfl⟩ := hp1.form
  obtain ⟨_, _, _, _, rfl, hd2, he2, hu2, hp2⟩ := hb
  obtain ⟨Abd, bcd, rfl⟩ := hd2.form
  obtain ⟨Abe, bce, rfl⟩ := he2.form
  obtain ⟨Abu, bcu, rfl⟩ := hu2.form
  obtain ⟨Abp, bcp, rfl⟩ := hp2.form
  have hBa : Below w.heap.size w (w.alloc (.cells (cfgCells a (.slice Aad a.ds.length acd) (.slice Aae a.es.length ace) (.slice Aau a.us.length acu) (.slice Aap a.ps.length acp)).toArray 27)) := (Below.refl _ _).alloc (Nat.le_refl _) _
  have hCa0 := cb_new w a (.slice Aad a.ds.length acd) (.slice Aae a.es.length ace) (.slice Aau a.us.length acu) (.slice Aap a.ps.length acp)
  have hBb : Below (w.alloc (.cells (cfgCells a (.slice Aad a.ds.length acd) (.slice Aae a.es.length ace) (.slice Aau a.us.length acu) (.slice Aap a.ps.length acp)).toArray 27)).heap.size (w.alloc (.cells (cfgCells a (.slice Aad a.ds.length acd) (.slice Aae a.es.length ace) (.slice Aau a.us.length acu) (.slice Aap a.ps.length acp)).toArray 27)) ((w.alloc (.cells (cfgCells a (.slice Aad a.ds.length acd) (.slice Aae a.es.length ace) (.slice Aau a.us.length acu) (.slice Aap a.ps.length acp)).toArray 27)).alloc (.cells (cfgCells b (.slice Abd b.ds.length bcd) (.slice Abe b.es.length bce) (.slice Abu b.us.length bcu) (.slice Abp b.ps.length bcp)).toArray 27)) := (Below.refl _ _).alloc (Nat.le_refl _) _
  have hCb0 := cb_new (w.alloc (.cells (cfgCells a (.slice Aad a.ds.length acd) (.slice Aae a.es.length ace) (.slice Aau a.us.length acu) (.slice Aap a.ps.length acp)).toArray 27)) b (.slice Abd b.ds.length bcd) (.slice Abe b.es.length bce) (.slice Abu b.us.length bcu) (.slice Abp b.ps.length bcp)
  rw [World.size_alloc] at hCb0
  have hCa1 := hCa0.below hBb
  have hB0 := then_ hBa hBb
  obtain ⟨W, hW⟩ : ∃ W, (w.alloc (.cells (cfgCells a (.slice Aad a.ds.length acd) (.slice Aae a.es.length ace) (.slice Aau a.us.length acu) (.slice Aap a.ps.length acp)).toArray 27)).alloc (.cells (cfgCells b (.slice Abd b.ds.length bcd) (.slice Abe b.es.length bce) (.slice Abu b.us.length bcu) (.slice Abp b.ps.length bcp)).toArray 27) = W := ⟨_, rfl⟩
  have hWs : W.heap.size = w.heap.size + 2 := by rw [← hW, World.size_alloc, World.size_alloc]
  rw [hW] at hCa1 hCb0 hB0
  unfold cfgCells at hW
  have hCa' := Lib.hid hCa1
  have hCb' := Lib.hid hCb0
  have hB0' := Lib.hid hB0
  have hda := Lib.hid (hd1.below hB0)
  have hea := Lib.hid (he1.below hB0)
  have hua := Lib.hid (hu1.below hB0)
  have hpa := Lib.hid (hp1.below hB0)
  have hdb := Lib.hid (hd2.below hB0)
  have heb := Lib.hid (he2.below hB0)
  have hub := Lib.hid (hu2.below hB0)
  have hpb := Lib.hid (hp2.below hB0)
  have z0 := hCa1.at_ 0 _ rfl
  have z1 := hCa1.at_ 1 _ rfl
  have z2 := hCa1.at_ 2 _ rfl
  have z3 := hCa1.at_ 3 _ rfl
  have z4 := hCa1.at_ 4 _ rfl
  have y0 := hCb0.at_ 0 _ rfl
  have y1 := hCb0.at_ 1 _ rfl
  have y2 := hCb0.at_ 2 _ rfl
  have y3 := hCb0.at_ 3 _ rfl
  have y4 := hCb0.at_ 4 _ rfl
  have hend := Lib.hid hB0
  have hWl : w.heap.size ≤ W.heap.size := by omega
  have k1 := ma.ds; have k2 := ma.es; have k3 := ma.us; have k4 := ma.ps
  have m1 := mb.ds; have m2 := mb.es; have m3 := mb.us; have m4 := mb.ps
  clear hBa hCa0 hBb hCb0 hCa1 hB0 hd1 he1 hu1 hp1 hd2 he2 hu2 hp2
  unfold cfgCells
  go_enter Tryz.func15, Tryz.ntmps15
  by_cases c0 : a.ce = b.ce
  rotate_left
  · have t0 : (a.ce != b.ce) = true := by simp [c0]
    have hr := Lib.hid (show decide (a = b) = false from decide_eq_false fun e => by subst e; exact c0 rfl)
    go_wp2
    go_ret
    exact ⟨ret_b hr.out.symm, hend.out⟩
  have t0 : (a.ce != b.ce) = false := by simp [c0]
  have eqC := Lib.hid c0
  clear c0
  by_cases c1 : a.ds.length = b.ds.length
  rotate_left
  · have t1 : ((a.ds.length : Int) != (b.ds.length : Int)) = true := by simp; omega
    have t1b : (a.ds.length != b.ds.length) = true := by simp [c1]
    have hr := Lib.hid (show decide (a = b) = false from decide_eq_false fun e => by subst e; exact c1 rfl)
    go_wp2
    go_ret
    exact ⟨ret_b hr.out.symm, hend.out⟩
  have t1 : ((a.ds.length : Int) != (b.ds.length : Int)) = false := by simp; omega
  have t1b : (a.ds.length != b.ds.length) = false := by simp [c1]
  have lds := Lib.hid c1
  clear c1
  by_cases c2 : a.es.length = b.es.length
  rotate_left
  · have t2 : ((a.es.length : Int) != (b.es.length : Int)) = true := by simp; omega
    have t2b : (a.es.length != b.es.length) = true := by simp [c2]
    have hr := Lib.hid (show decide (a = b) = false from decide_eq_false fun e => by subst e; exact c2 rfl)
    go_wp2
    go_ret
    exact ⟨ret_b hr.out.symm, hend.out⟩
  have t2 : ((a.es.length : Int) != (b.es.length : Int)) = false := by simp; omega
  have t2b : (a.es.length != b.es.length) = false := by simp [c2]
  have les := Lib.hid c2
  clear c2
  by_cases c3 : a.us.length = b.us.length
  rotate_left
  · have t3 : ((a.us.length : Int) != (b.us.length : Int)) = true := by simp; omega
    have t3b : (a.us.length != b.us.length) = true := by simp [c3]
    have hr := Lib.hid (show decide (a = b) = false from decide_eq_false fun e => by subst e; exact c3 rfl)
    go_wp2
    go_ret
    exact ⟨ret_b hr.out.symm, hend.out⟩
  have t3 : ((a.us.length : Int) != (b.us.length : Int)) = false := by simp; omega
  have t3b : (a.us.length != b.us.length) = false := by simp [c3]
  have lus := Lib.hid c3
  clear c3
  by_cases c4 : a.ps.length = b.ps.length
  rotate_left
  · have t4 : ((a.ps.length : Int) != (b.ps.length : Int)) = true := by simp; omega
    have t4b : (a.ps.length != b.ps.length) = true := by simp [c4]
    have hr := Lib.hid (show decide (a = b) = false from decide_eq_false fun e => by subst e; exact c4 rfl)
    go_wp2
    go_ret
    exact ⟨ret_b hr.out.symm, hend.out⟩
  have t4 : ((a.ps.length : Int) != (b.ps.length : Int)) = false := by simp; omega
  have t4b : (a.ps.length != b.ps.length) = false := by simp [c4]
  have lps := Lib.hid c4
  clear c4
  go_wp2_with fail
  clear t0 t1 t1b t2 t2b t3 t3b t4 t4b hW
  go_loopw [59] (fun i w' => ∃ k : Nat, i = .int .i64 (k : Int) ∧ k ≤ a.ds.length ∧ a.ds.take k = b.ds.take k ∧ Below W.heap.size W w') (fun i _ => a.ds.length - (intOf i).toNat)
  case atStart => exact ⟨0, rfl, by omega, rfl, Below.refl _ _⟩
  case round =>
    obtain ⟨k, rfl, hk, htk, hB⟩ := hrel
    have htk' := Lib.hid htk
    have hB' := Lib.hid hB
    have ca := (hCa'.out.below hB).at_ 1 _ rfl
    have cb := (hCb'.out.below hB).at_ 1 _ rfl
    clear htk hB
    by_cases hlt : k < a.ds.length
    · obtain ⟨x, hx⟩ : ∃ x, a.ds[k]? = some x := ⟨_, List.getElem?_eq_getElem hlt⟩
      obtain ⟨y, hy⟩ : ∃ x, b.ds[k]? = some x := ⟨_, List.getElem?_eq_getElem (by have := lds.out; omega)⟩
      have hlb := lds.out
      obtain ⟨ada, rfl, xa⟩ := (hda.out.below hB'.out).at_ hx
      obtain ⟨adb, rfl, xb⟩ := (hdb.out.below hB'.out).at_ hy
      have e1 : (k : Int) < (a.ds.length : Int) := by omega
      have e2 : (0 : Int) ≤ (k : Int) := by omega
      have e3 : (k : Int) < (b.ds.length : Int) := by omega
      have hbad := Lib.hid (show x ≠ y → decide (a = b) = false from fun hne => decide_eq_false fun e => by subst e; rw [hx] at hy; injection hy with hy; exact hne hy)
      have hgood := Lib.hid (show x = y → a.ds.take (k + 1) = b.ds.take (k + 1) from fun e => by rw [List.take_add_one, List.take_add_one, hx, hy, htk'.out, e])
      clear hx hy hlb
      by_cases hxy : x = y
      · have hst := Lib.hid (hgood.out hxy)
        have t1 : (x != y) = false := by simp [hxy]
        clear hxy
        go_wp2
        go_quiet (fail)
        go_wp2
        go_roundw
        case rel => exact ⟨k + 1, by go_num, by omega, hst.out, below_drewN hB'.out _⟩
        case measure => simp [intOf]; omega
      · have hno := Lib.hid (hbad.out hxy)
        have t1 : (x != y) = true := by simp [hxy]
        clear hxy
        go_wp2
        go_quiet (fail)
        go_wp2
        go_ret
        exact ⟨ret_b hno.out.symm, hB0'.out.trans ((below_drewN hB'.out _).mono hWl)⟩
    · obtain rfl : k = a.ds.length := by omega
      have eqD := Lib.hid (show a.ds = b.ds from by
        have h := htk'.out
        rw [List.take_length, lds.out, List.take_length] at h
        exact h)
      have ca' := (hCa'.out.below hB'.out).at_ 2 _ rfl
      have cb' := (hCb'.out.below hB'.out).at_ 2 _ rfl
      clear htk'
      go_wp2_with fail
      go_loopw [77] (fun i w' => ∃ k : Nat, i = .int .i64 (k : Int) ∧ k ≤ a.es.length ∧ a.es.take k = b.es.take k ∧ Below W.heap.size W w') (fun i _ => a.es.length - (intOf i).toNat)
      case atStart => exact ⟨0, rfl, by omega, rfl, hB'.out⟩
      case round =>
        obtain ⟨k, rfl, hk, htk, hB⟩ := hrel
        have htk' := Lib.hid htk
        have hB' := Lib.hid hB
        have ca := (hCa'.out.below hB).at_ 2 _ rfl
        have cb := (hCb'.out.below hB).at_ 2 _ rfl
        clear htk hB
        by_cases hlt : k < a.es.length
        · obtain ⟨x, hx⟩ : ∃ x, a.es[k]? = some x := ⟨_, List.getElem?_eq_getElem hlt⟩
          obtain ⟨y, hy⟩ : ∃ x, b.es[k]? = some x := ⟨_, List.getElem?_eq_getElem (by have := les.out; omega)⟩
          have hlb := les.out
          obtain ⟨ada, rfl, xa⟩ := (hea.out.below hB'.out).at_ hx
          obtain ⟨adb, rfl, xb⟩ := (heb.out.below hB'.out).at_ hy
          have e1 : (k : Int) < (a.es.length : Int) := by omega
          have e2 : (0 : Int) ≤ (k : Int) := by omega
          have e3 : (k : Int) < (b.es.length : Int) := by omega
          have hbad := Lib.hid (show x ≠ y → decide (a = b) = false from fun hne => decide_eq_false fun e => by subst e; rw [hx] at hy; injection hy with hy; exact hne hy)
          have hgood := Lib.hid (show x = y → a.es.take (k + 1) = b.es.take (k + 1) from fun e => by rw [List.take_add_one, List.take_add_one, hx, hy, htk'.out, e])
          clear hx hy hlb
          obtain ⟨x1, x2, x3⟩ := x
          obtain ⟨y1, y2, y3⟩ := y
          obtain ⟨a1, a2, a3⟩ := xa
          obtain ⟨b1, b2, b3⟩ := xb
          have a2 : wr.cell? ⟨(ada.add (k * 3)).block, (ada.add (k * 3)).off + 1, none⟩ = some (.int .i64 x2) := a2
          have a3 : wr.cell? ⟨(ada.add (k * 3)).block, (ada.add (k * 3)).off + 2, none⟩ = some (.int .i64 x3) := a3
          have b2 : wr.cell? ⟨(adb.add (k * 3)).block, (adb.add (k * 3)).off + 1, none⟩ = some (.int .i64 y2) := b2
          have b3 : wr.cell? ⟨(adb.add (k * 3)).block, (adb.add (k * 3)).off + 2, none⟩ = some (.int .i64 y3) := b3
          simp only at a1 b1
          by_cases h1 : x1 = y1
          rotate_left
          · have hno := Lib.hid (hbad.out (fun e => h1 (by injection e)))
            go_wp2
            go_quiet (fail)
            go_wp2
            go_ret
            exact ⟨ret_b hno.out.symm, hB0'.out.trans ((below_drewN hB'.out _).mono hWl)⟩
          subst h1
          by_cases h2 : x2 = y2
          rotate_left
          · have hno := Lib.hid (hbad.out (fun e => h2 (by injection e with _ e; injection e)))
            go_wp2
            go_quiet (fail)
            go_wp2
            go_ret
            exact ⟨ret_b hno.out.symm, hB0'.out.trans ((below_drewN hB'.out _).mono hWl)⟩
          subst h2
          by_cases h3 : x3 = y3
          rotate_left
          · have hno := Lib.hid (hbad.out (fun e => h3 (by injection e with _ e; injection e)))
            go_wp2
            go_quiet (fail)
            go_wp2
            go_ret
            exact ⟨ret_b hno.out.symm, hB0'.out.trans ((below_drewN hB'.out _).mono hWl)⟩
          subst h3
          have hst := Lib.hid (hgood.out rfl)
          go_wp2
          go_quiet (fail)
          go_wp2
          go_roundw
          case rel => exact ⟨k + 1, by go_num, by omega, hst.out, below_drewN hB'.out _⟩
          case measure => simp [intOf]; omega
        · obtain rfl : k = a.es.length := by omega
          have eqE := Lib.hid (show a.es = b.es from by
            have h := htk'.out
            rw [List.take_length, les.out, List.take_length] at h
            exact h)
          have ca' := (hCa'.out.below hB'.out).at_ 3 _ rfl
          have cb' := (hCb'.out.below hB'.out).at_ 3 _ rfl
          clear htk'
          go_wp2_with fail
          go_loopw [95] (fun i w' => ∃ k : Nat, i = .int .i64 (k : Int) ∧ k ≤ a.us.length ∧ a.us.take k = b.us.take k ∧ Below W.heap.size W w') (fun i _ => a.us.length - (intOf i).toNat)
          case atStart => exact ⟨0, rfl, by omega, rfl, hB'.out⟩
          case round =>
            obtain ⟨k, rfl, hk, htk, hB⟩ := hrel
            have htk' := Lib.hid htk
            have hB' := Lib.hid hB
            have ca := (hCa'.out.below hB).at_ 3 _ rfl
            have cb := (hCb'.out.below hB).at_ 3 _ rfl
            clear htk hB
            by_cases hlt : k < a.us.length
            · obtain ⟨x, hx⟩ : ∃ x, a.us[k]? = some x := ⟨_, List.getElem?_eq_getElem hlt⟩
              obtain ⟨y, hy⟩ : ∃ x, b.us[k]? = some x := ⟨_, List.getElem?_eq_getElem (by have := lus.out; omega)⟩
              have hlb := lus.out
              obtain ⟨ada, rfl, xa⟩ := (hua.out.below hB'.out).at_ hx
              obtain ⟨adb, rfl, xb⟩ := (hub.out.below hB'.out).at_ hy
              have e1 : (k : Int) < (a.us.length : Int) := by omega
              have e2 : (0 : Int) ≤ (k : Int) := by omega
              have e3 : (k : Int) < (b.us.length : Int) := by omega
              have hbad := Lib.hid (show x ≠ y → decide (a = b) = false from fun hne => decide_eq_false fun e => by subst e; rw [hx] at hy; injection hy with hy; exact hne hy)
              have hgood := Lib.hid (show x = y → a.us.take (k + 1) = b.us.take (k + 1) from fun e => by rw [List.take_add_one, List.take_add_one, hx, hy, htk'.out, e])
              clear hx hy hlb
              obtain ⟨x1, x2, x3⟩ := x
              obtain ⟨y1, y2, y3⟩ := y
              obtain ⟨a1, a2, a3⟩ := xa
              obtain ⟨b1, b2, b3⟩ := xb
              have a2 : wr.cell? ⟨(ada.add (k * 3)).block, (ada.add (k * 3)).off + 1, none⟩ = some (.int .i64 x2) := a2
              have a3 : wr.cell? ⟨(ada.add (k * 3)).block, (ada.add (k * 3)).off + 2, none⟩ = some (.int .i64 x3) := a3
              have b2 : wr.cell? ⟨(adb.add (k * 3)).block, (adb.add (k * 3)).off + 1, none⟩ = some (.int .i64 y2) := b2
              have b3 : wr.cell? ⟨(adb.add (k * 3)).block, (adb.add (k * 3)).off + 2, none⟩ = some (.int .i64 y3) := b3
              simp only at a1 b1
              by_cases h1 : x1 = y1
              rotate_left
              · have hno := Lib.hid (hbad.out (fun e => h1 (by injection e)))
                go_wp2
                go_quiet (fail)
                go_wp2
                go_ret
                exact ⟨ret_b hno.out.symm, hB0'.out.trans ((below_drewN hB'.out _).mono hWl)⟩
              subst h1
              by_cases h2 : x2 = y2
              rotate_left
              · have hno := Lib.hid (hbad.out (fun e => h2 (by injection e with _ e; injection e)))
                go_wp2
                go_quiet (fail)
                go_wp2
                go_ret
                exact ⟨ret_b hno.out.symm, hB0'.out.trans ((below_drewN hB'.out _).mono hWl)⟩
              subst h2
              by_cases h3 : x3 = y3
              rotate_left
              · have hno := Lib.hid (hbad.out (fun e => h3 (by injection e with _ e; injection e)))
                go_wp2
                go_quiet (fail)
                go_wp2
                go_ret
                exact ⟨ret_b hno.out.symm, hB0'.out.trans ((below_drewN hB'.out _).mono hWl)⟩
              subst h3
              have hst := Lib.hid (hgood.out rfl)
              go_wp2
              go_quiet (fail)
              go_wp2
              go_roundw
              case rel => exact ⟨k + 1, by go_num, by omega, hst.out, below_drewN hB'.out _⟩
              case measure => simp [intOf]; omega
            · obtain rfl : k = a.us.length := by omega
              have eqU := Lib.hid (show a.us = b.us from by
                have h := htk'.out
                rw [List.take_length, lus.out, List.take_length] at h
                exact h)
              have ca' := (hCa'.out.below hB'.out).at_ 4 _ rfl
              have cb' := (hCb'.out.below hB'.out).at_ 4 _ rfl
              clear htk'
              go_wp2_with fail
              go_loopw [113] (fun i w' => ∃ k : Nat, i = .int .i64 (k : Int) ∧ k ≤ a.ps.length ∧ a.ps.take k = b.ps.take k ∧ Below W.heap.size W w') (fun i _ => a.ps.length - (intOf i).toNat)
              case atStart => exact ⟨0, rfl, by omega, rfl, hB'.out⟩
              case round =>
                clear hB'
                obtain ⟨k, rfl, hk, htk, hB⟩ := hrel
                have htk' := Lib.hid htk
                have hB' := Lib.hid hB
                have ca := (hCa'.out.below hB).at_ 4 _ rfl
                have cb := (hCb'.out.below hB).at_ 4 _ rfl
                clear htk hB
                by_cases hlt : k < a.ps.length
                · obtain ⟨p, hp0⟩ : ∃ x, a.ps[k]? = some x := ⟨_, List.getElem?_eq_getElem hlt⟩
                  obtain ⟨q, hq0⟩ : ∃ x, b.ps[k]? = some x := ⟨_, List.getElem?_eq_getElem (by have := lps.out; omega)⟩
                  have hlb := lps.out
                  obtain ⟨ada, up, rfl, xa, ra⟩ := (hpa.out.below hB'.out).at_ hp0
                  obtain ⟨adb, uq, rfl, xb, rb⟩ := (hpb.out.below hB'.out).at_ hq0
                  obtain ⟨Ak, akc, rfl⟩ := ra.form
                  obtain ⟨Bk, bkc, rfl⟩ := rb.form
                  have e1 : (k : Int) < (a.ps.length : Int) := by omega
                  have e2 : (0 : Int) ≤ (k : Int) := by omega
                  have e3 : (k : Int) < (b.ps.length : Int) := by omega
                  have hbad := Lib.hid (show p ≠ q → decide (a = b) = false from fun hne => decide_eq_false fun e => by subst e; rw [hp0] at hq0; injection hq0 with hq0; exact hne hq0)
                  have hgood := Lib.hid (show p = q → a.ps.take (k + 1) = b.ps.take (k + 1) from fun e => by rw [List.take_add_one, List.take_add_one, hp0, hq0, htk'.out, e])
                  obtain ⟨a1, a2, a3⟩ := xa
                  obtain ⟨b1, b2, b3⟩ := xb
                  have a2 : wr.cell? ⟨(ada.add (k * 3)).block, (ada.add (k * 3)).off + 1, none⟩ = some (.int .i64 p.urg) := a2
                  have a3 : wr.cell? ⟨(ada.add (k * 3)).block, (ada.add (k * 3)).off + 2, none⟩ = some (.slice Ak p.kinds.length akc) := a3
                  have b2 : wr.cell? ⟨(adb.add (k * 3)).block, (adb.add (k * 3)).off + 1, none⟩ = some (.int .i64 q.urg) := b2
                  have b3 : wr.cell? ⟨(adb.add (k * 3)).block, (adb.add (k * 3)).off + 2, none⟩ = some (.slice Bk q.kinds.length bkc) := b3
                  have ra' := Lib.hid ra
                  have rb' := Lib.hid rb
                  have pk : p.kinds.length ≤ 4000 := by have := planCost_mem hp0; have := ma.cost; omega
                  clear hp0 hq0 hlb ra rb
                  have hZ : Below wr.heap.size wr (wr.alloc (.cells #[.string ⟨#[]⟩, .int .i64 0, .slice none 0 0] 43)) := (Below.refl _ _).alloc (Nat.le_refl _) _
                  have caZ := cell_keep ca hZ
                  have a1Z := cell_keep a1 hZ
                  have a2Z := cell_keep a2 hZ
                  have a3Z := cell_keep a3 hZ
                  have cbZ := cell_keep cb hZ
                  have b1Z := cell_keep b1 hZ
                  have b2Z := cell_keep b2 hZ
                  have b3Z := cell_keep b3 hZ
                  have hP : Below wr.heap.size wr (wr.alloc (.cells #[.string ⟨p.code.toArray⟩, .int .i64 p.urg, .slice Ak p.kinds.length akc] 43)) := (Below.refl _ _).alloc (Nat.le_refl _) _
                  have cbP := cell_keep cb hP
                  have b1P := cell_keep b1 hP
                  have b2P := cell_keep b2 hP
                  have b3P := cell_keep b3 hP
                  have hQ : Below wr.heap.size wr (wr.alloc (.cells #[.string ⟨q.code.toArray⟩, .int .i64 q.urg, .slice Bk q.kinds.length bkc] 43)) := (Below.refl _ _).alloc (Nat.le_refl _) _
                  have caQ := cell_keep ca hQ
                  have a1Q := cell_keep a1 hQ
                  have a2Q := cell_keep a2 hQ
                  have a3Q := cell_keep a3 hQ
                  have hZZ : Below wr.heap.size wr ((wr.alloc (.cells #[.string ⟨#[]⟩, .int .i64 0, .slice none 0 0] 43)).alloc (.cells #[.string ⟨#[]⟩, .int .i64 0, .slice none 0 0] 43)) := then_ hZ ((Below.refl _ _).alloc (Nat.le_refl _) _)
                  have caZZ := cell_keep ca hZZ
                  have a1ZZ := cell_keep a1 hZZ
                  have a2ZZ := cell_keep a2 hZZ
                  have a3ZZ := cell_keep a3 hZZ
                  have cbZZ := cell_keep cb hZZ
                  have b1ZZ := cell_keep b1 hZZ
                  have b2ZZ := cell_keep b2 hZZ
                  have b3ZZ := cell_keep b3 hZZ
                  have hPZ : Below wr.heap.size wr ((wr.alloc (.cells #[.string ⟨p.code.toArray⟩, .int .i64 p.urg, .slice Ak p.kinds.length akc] 43)).alloc (.cells #[.string ⟨#[]⟩, .int .i64 0, .slice none 0 0] 43)) := then_ hP ((Below.refl _ _).alloc (Nat.le_refl _) _)
                  have cbPZ := cell_keep cb hPZ
                  have b1PZ := cell_keep b1 hPZ
                  have b2PZ := cell_keep b2 hPZ
                  have b3PZ := cell_keep b3 hPZ
                  have hZP : Below wr.heap.size wr ((wr.alloc (.cells #[.string ⟨#[]⟩, .int .i64 0, .slice none 0 0] 43)).alloc (.cells #[.string ⟨p.code.toArray⟩, .int .i64 p.urg, .slice Ak p.kinds.length akc] 43)) := then_ hZ ((Below.refl _ _).alloc (Nat.le_refl _) _)
                  have cbZP := cell_keep cb hZP
                  have b1ZP := cell_keep b1 hZP
                  have b2ZP := cell_keep b2 hZP
                  have b3ZP := cell_keep b3 hZP
                  have hQZ : Below wr.heap.size wr ((wr.alloc (.cells #[.string ⟨q.code.toArray⟩, .int .i64 q.urg, .slice Bk q.kinds.length bkc] 43)).alloc (.cells #[.string ⟨#[]⟩, .int .i64 0, .slice none 0 0] 43)) := then_ hQ ((Below.refl _ _).alloc (Nat.le_refl _) _)
                  have caQZ := cell_keep ca hQZ
                  have a1QZ := cell_keep a1 hQZ
                  have a2QZ := cell_keep a2 hQZ
                  have a3QZ := cell_keep a3 hQZ
                  have hZQ : Below wr.heap.size wr ((wr.alloc (.cells #[.string ⟨#[]⟩, .int .i64 0, .slice none 0 0] 43)).alloc (.cells #[.string ⟨q.code.toArray⟩, .int .i64 q.urg, .slice Bk q.kinds.length bkc] 43)) := then_ hZ ((Below.refl _ _).alloc (Nat.le_refl _) _)
                  have caZQ := cell_keep ca hZQ
                  have a1ZQ := cell_keep a1 hZQ
                  have a2ZQ := cell_keep a2 hZQ
                  have a3ZQ := cell_keep a3 hZQ
                  go_upto_region 24 with fail
                  go_cut [9, 10, 113] from 113 to 165 (fun s9 s10 s113 wx => ∃ g h : Nat, s9 = .pointer (some ⟨g, 0, none⟩) ∧ s10 = .pointer (some ⟨h, 0, none⟩) ∧ s113 = .int .i64 (k : Int)
                      ∧ (wx.cell? ⟨g, 0, none⟩ = some (.string ⟨p.code.toArray⟩) ∧ wx.cell? ⟨g, 1, none⟩ = some (.int .i64 p.urg) ∧ wx.cell? ⟨g, 2, none⟩ = some (.slice Ak p.kinds.length akc))
                      ∧ (wx.cell? ⟨h, 0, none⟩ = some (.string ⟨q.code.toArray⟩) ∧ wx.cell? ⟨h, 1, none⟩ = some (.int .i64 q.urg) ∧ wx.cell? ⟨h, 2, none⟩ = some (.slice Bk q.kinds.length bkc))
                      ∧ Below wr.heap.size wr wx)
                  case first =>
                    go_region
                    · obtain ⟨hb2, f0, f1, f2, s0, s1, s2⟩ := two_new wr 43 (.string ⟨p.code.toArray⟩) (.int .i64 p.urg) (.slice Ak p.kinds.length akc) (.string ⟨q.code.toArray⟩) (.int .i64 q.urg) (.slice Bk q.kinds.length bkc) _ rfl
                      have hb3 := hb2.drew
                      clear hb2
                      go_wp2_with fail
                      go_meet
                      exact ⟨_, _, rfl, rfl, rfl, ⟨f0, f1, f2⟩, ⟨s0, s1, s2⟩, hb3⟩
                    · obtain ⟨hb2, f0, f1, f2, s0, s1, s2⟩ := two_new wr 43 (.string ⟨q.code.toArray⟩) (.int .i64 q.urg) (.slice Bk q.kinds.length bkc) (.string ⟨p.code.toArray⟩) (.int .i64 p.urg) (.slice Ak p.kinds.length akc) _ rfl
                      have hb3 := hb2.drew
                      clear hb2
                      go_wp2_with fail
                      go_meet
                      exact ⟨_, _, rfl, rfl, rfl, ⟨s0, s1, s2⟩, ⟨f0, f1, f2⟩, hb3⟩
                  case rest =>
                    obtain ⟨g, h, rfl, rfl, rfl, ⟨f0, f1, f2⟩, ⟨s0, s1, s2⟩, hb2⟩ := hcut
                    obtain ⟨W2, hW2⟩ : ∃ W2, wc = W2 := ⟨_, rfl⟩
                    subst hW2
                    have B2 := Lib.hid (then_ hB'.out hb2)
                    have rAk := Lib.hid (ra'.out.below hb2)
                    have rBk := Lib.hid (rb'.out.below hb2)
                    clear hZ caZ a1Z a2Z a3Z cbZ b1Z b2Z b3Z hP cbP b1P b2P b3P hQ caQ a1Q a2Q a3Q hZZ caZZ a1ZZ a2ZZ a3ZZ cbZZ b1ZZ b2ZZ b3ZZ hPZ cbPZ b1PZ b2PZ b3PZ hZP cbZP b1ZP b2ZP b3ZP hQZ caQZ a1QZ a2QZ a3QZ hZQ caZQ a1ZQ a2ZQ a3ZQ ca cb a1 a2 a3 b1 b2 b3 hb2
                    by_cases c0 : p.code = q.code
                    rotate_left
                    · have hno := Lib.hid (hbad.out (fun e => c0 (by rw [e])))
                      have t0 : (p.code != q.code) = true := by simp [c0]
                      have t0b : (p.code == q.code) = false := by simp [c0]
                      clear c0
                      go_wp2
                      go_ret
                      first | exact ⟨ret_b hno.out.symm, hB0'.out.trans (B2.out.mono hWl)⟩ | exact ⟨ret_b hno.out.symm, hB0'.out.trans ((below_drewN B2.out _).mono hWl)⟩
                    have t0 : (p.code != q.code) = false := by simp [c0]
                    have t0b : (p.code == q.code) = true := by simp [c0]
                    have q0 := Lib.hid c0
                    clear c0
                    by_cases c1 : p.urg = q.urg
                    rotate_left
                    · have hno := Lib.hid (hbad.out (fun e => c1 (by rw [e])))
                      have t1 : (p.urg != q.urg) = true := by simp [c1]
                      clear c1
                      go_wp2
                      go_ret
                      first | exact ⟨ret_b hno.out.symm, hB0'.out.trans (B2.out.mono hWl)⟩ | exact ⟨ret_b hno.out.symm, hB0'.out.trans ((below_drewN B2.out _).mono hWl)⟩
                    have t1 : (p.urg != q.urg) = false := by simp [c1]
                    have q1 := Lib.hid c1
                    clear c1
                    by_cases c2 : p.kinds.length = q.kinds.length
                    rotate_left
                    · have hno := Lib.hid (hbad.out (fun e => c2 (by rw [e])))
                      have t2 : ((p.kinds.length : Int) != (q.kinds.length : Int)) = true := by simp; omega
                      clear c2
                      go_wp2
                      go_ret
                      first | exact ⟨ret_b hno.out.symm, hB0'.out.trans (B2.out.mono hWl)⟩ | exact ⟨ret_b hno.out.symm, hB0'.out.trans ((below_drewN B2.out _).mono hWl)⟩
                    have t2 : ((p.kinds.length : Int) != (q.kinds.length : Int)) = false := by simp; omega
                    have q2 := Lib.hid c2
                    clear c2
                    go_wp2_with fail
                    clear t0 t1 t2
                    go_loopw [150] (fun i w' => ∃ j : Nat, i = .int .i64 (j : Int) ∧ j ≤ p.kinds.length ∧ p.kinds.take j = q.kinds.take j ∧ Below wc.heap.size wc w') (fun i _ => p.kinds.length - (intOf i).toNat)
                    case atStart => exact ⟨0, rfl, by omega, rfl, by first | exact Below.refl _ _ | exact below_drewN (Below.refl _ _) _⟩
                    case round =>
                      obtain ⟨j, rfl, hj, htj, hBj⟩ := hrel
                      have htj' := Lib.hid htj
                      have B3 := Lib.hid (then_ B2.out hBj)
                      have cg := cell_keep f2 hBj
                      have ch := cell_keep s2 hBj
                      have rA3 := Lib.hid (rAk.out.below hBj)
                      have rB3 := Lib.hid (rBk.out.below hBj)
                      have hBj' := Lib.hid hBj
                      clear htj hBj f0 f1 f2 s0 s1 s2
                      by_cases hlj : j < p.kinds.length
                      · obtain ⟨x, hx⟩ : ∃ x, p.kinds[j]? = some x := ⟨_, List.getElem?_eq_getElem hlj⟩
                        obtain ⟨y, hy⟩ : ∃ x, q.kinds[j]? = some x := ⟨_, List.getElem?_eq_getElem (by have := q2.out; omega)⟩
                        have hlq := q2.out
                        obtain ⟨adk, rfl, xk⟩ := rA3.out.at_ hx
                        obtain ⟨adl, rfl, yk⟩ := rB3.out.at_ hy
                        have i1 : (j : Int) < (p.kinds.length : Int) := by omega
                        have i2 : (0 : Int) ≤ (j : Int) := by omega
                        have i3 : (j : Int) < (q.kinds.length : Int) := by omega
                        have kbad := Lib.hid (show x ≠ y → decide (a = b) = false from fun hne => hbad.out fun e => by rw [e, hy] at hx; injection hx with hx; exact hne hx.symm)
                        have kgood := Lib.hid (show x = y → p.kinds.take (j + 1) = q.kinds.take (j + 1) from fun e => by rw [List.take_add_one, List.take_add_one, hx, hy, htj'.out, e])
                        clear hx hy hlq
                        by_cases hxy : x = y
                        · have hst := Lib.hid (kgood.out hxy)
                          have t1 : (x != y) = false := by simp [hxy]
                          clear hxy
                          go_wp2
                          go_quiet (fail)
                          go_wp2
                          go_roundw
                          case rel => exact ⟨j + 1, by go_num, by omega, hst.out, below_drewN hBj'.out _⟩
                          case measure => simp [intOf]; omega
                        · have hno := Lib.hid (kbad.out hxy)
                          have t1 : (x != y) = true := by simp [hxy]
                          clear hxy
                          go_wp2
                          go_quiet (fail)
                          go_wp2
                          go_ret
                          exact ⟨ret_b hno.out.symm, hB0'.out.trans ((below_drewN B3.out _).mono hWl)⟩
                      · obtain rfl : j = p.kinds.length := by omega
                        have hst := Lib.hid (hgood.out (plan_eq q0.out q1.out (by
                          have h := htj'.out
                          rw [List.take_length, q2.out, List.take_length] at h
                          exact h)))
                        clear htj'
                        go_wp2
                        go_roundw
                        case rel => first | exact ⟨k + 1, by go_num, by omega, hst.out, B3.out⟩ | exact ⟨_, _, _, _, _, _, _, _, _, _, _, _, _, _, _, _, _, _, _, _, _, _, _, _, _, _, _, _, _, _, _, _, _, _, _, _, _, _, _, _, _, _, _, _, _, _, _, _, _, _, _, ⟨k + 1, by go_num, by omega, hst.out, B3.out⟩, rfl⟩
                        case measure => simp [intOf]; omega
                · obtain rfl : k = a.ps.length := by omega
                  have eqP := Lib.hid (show a.ps = b.ps from by
                    have h := htk'.out
                    rw [List.take_length, lps.out, List.take_length] at h
                    exact h)
                  have hCaw := hCa'.out.below hB'.out
                  have hCbw := hCb'.out.below hB'.out
                  have hVa := Lib.hid (show CfgV wr (.agg (cfgCells a (.slice Aad a.ds.length acd) (.slice Aae a.es.length ace) (.slice Aau a.us.length acu) (.slice Aap a.ps.length acp)).toArray) a from ⟨_, _, _, _, rfl, hda.out.below hB'.out, hea.out.below hB'.out, hua.out.below hB'.out, hpa.out.below hB'.out⟩)
                  have hVb := Lib.hid (show CfgV wr (.agg (cfgCells b (.slice Abd b.ds.length bcd) (.slice Abe b.es.length bce) (.slice Abu b.us.length bcu) (.slice Abp b.ps.length bcp)).toArray) b from ⟨_, _, _, _, rfl, hdb.out.below hB'.out, heb.out.below hB'.out, hub.out.below hB'.out, hpb.out.below hB'.out⟩)
                  clear htk' ca cb
                  go_upto_region 34 with fail
                  go_cut [12, 13] from 166 (fun s12 s13 wx => ∃ (A B : Option Addr) (ca cb : Nat), s12 = .slice A 10 ca ∧ s13 = .slice B 10 cb ∧ RN wx (.slice A 10 ca) a.nums ∧ RN wx (.slice B 10 cb) b.nums ∧ Below W.heap.size W wx)
                  case first =>
                    have la0 := hCaw.at_ 0 _ rfl
                    have la1 := hCaw.at_ 1 _ rfl
                    have la2 := hCaw.at_ 2 _ rfl
                    have la3 := hCaw.at_ 3 _ rfl
                    have la4 := hCaw.at_ 4 _ rfl
                    have la5 := hCaw.at_ 5 _ rfl
                    have la6 := hCaw.at_ 6 _ rfl
                    have la7 := hCaw.at_ 7 _ rfl
                    have la8 := hCaw.at_ 8 _ rfl
                    have la9 := hCaw.at_ 9 _ rfl
                    have la10 := hCaw.at_ 10 _ rfl
                    have la11 := hCaw.at_ 11 _ rfl
                    have la12 := hCaw.at_ 12 _ rfl
                    have la13 := hCaw.at_ 13 _ rfl
                    have la14 := hCaw.at_ 14 _ rfl
                    have lb0 := hCbw.at_ 0 _ rfl
                    have lb1 := hCbw.at_ 1 _ rfl
                    have lb2 := hCbw.at_ 2 _ rfl
                    have lb3 := hCbw.at_ 3 _ rfl
                    have lb4 := hCbw.at_ 4 _ rfl
                    have lb5 := hCbw.at_ 5 _ rfl
                    have lb6 := hCbw.at_ 6 _ rfl
                    have lb7 := hCbw.at_ 7 _ rfl
                    have lb8 := hCbw.at_ 8 _ rfl
                    have lb9 := hCbw.at_ 9 _ rfl
                    have lb10 := hCbw.at_ 10 _ rfl
                    have lb11 := hCbw.at_ 11 _ rfl
                    have lb12 := hCbw.at_ 12 _ rfl
                    have lb13 := hCbw.at_ 13 _ rfl
                    have lb14 := hCbw.at_ 14 _ rfl
                    have hcw := Lib.hid hCaw
                    have hcx := Lib.hid hCbw
                    clear hCaw hCbw
                    have hb0 : Below wr.heap.size wr wr.drew := (Below.refl _ _).drew
                    unfold cfgCells at hVa hVb
                    go_region_law (first
                        | (go_simp; go_at_call 29; refine (numbers_any b _ _ (hVb.out.below hb6)).mono ?_; rintro r w7 ⟨u7, rfl, hn7, hbw⟩; have hb7 : Below wr.heap.size wr w7 := then_ hb6 hbw; have hn67 := hn6.below hbw)
                        | (go_simp; go_at_call 29; refine (numbers_any a _ _ (hVa.out.below hb0)).mono ?_; rintro r w6 ⟨u6, rfl, hn6, hbw⟩; have hb6 : Below wr.heap.size wr w6 := then_ hb0 hbw; have hcw6 := hcx.out.below hb6; have mb0 := hcw6.at_ 0 _ rfl; have mb1 := hcw6.at_ 1 _ rfl; have mb2 := hcw6.at_ 2 _ rfl; have mb3 := hcw6.at_ 3 _ rfl; have mb4 := hcw6.at_ 4 _ rfl; have mb5 := hcw6.at_ 5 _ rfl; have mb6 := hcw6.at_ 6 _ rfl; have mb7 := hcw6.at_ 7 _ rfl; have mb8 := hcw6.at_ 8 _ rfl; have mb9 := hcw6.at_ 9 _ rfl; have mb10 := hcw6.at_ 10 _ rfl; have mb11 := hcw6.at_ 11 _ rfl; have mb12 := hcw6.at_ 12 _ rfl; have mb13 := hcw6.at_ 13 _ rfl; have mb14 := hcw6.at_ 14 _ rfl; clear hbw hcw6))
                    all_goals (
                      obtain ⟨A6, c6, rfl⟩ := hn6.form
                      obtain ⟨A7, c7, rfl⟩ := hn7.form
                      rw [show a.nums.length = 10 from rfl] at hn67
                      rw [show b.nums.length = 10 from rfl] at hn7
                      have hbe := Lib.hid (then_ hB'.out hb7)
                      have n6' := Lib.hid hn67
                      have n7' := Lib.hid hn7
                      clear hn6 hn67 hn7
                      go_wp2_with fail
                      go_meet
                      exact ⟨A6, A7, c6, c7, rfl, rfl, n6'.out, n7'.out, hbe.out⟩)
                  case rest =>
                    obtain ⟨A6, A7, c6, c7, rfl, rfl, hn6, hn7, hbc⟩ := hcut
                    have n6' := Lib.hid hn6
                    have n7' := Lib.hid hn7
                    have hBc := Lib.hid hbc
                    clear hn6 hn7 hbc
                    go_wp2_with fail
                    go_loopw [172] (fun i w' => ∃ k : Nat, i = .int .i64 (k : Int) ∧ k ≤ 10 ∧ a.nums.take k = b.nums.take k ∧ Below wc.heap.size wc w') (fun i _ => 10 - (intOf i).toNat)
                    case atStart => exact ⟨0, rfl, by omega, rfl, by first | exact Below.refl _ _ | exact below_drewN (Below.refl _ _) _⟩
                    case round =>
                      obtain ⟨j, rfl, hj, htj, hBj⟩ := hrel
                      have htj' := Lib.hid htj
                      have B3 := Lib.hid (then_ hBc.out hBj)
                      have rA3 := Lib.hid (n6'.out.below hBj)
                      have rB3 := Lib.hid (n7'.out.below hBj)
                      have hBj' := Lib.hid hBj
                      clear htj hBj
                      by_cases hlj : j < 10
                      · obtain ⟨x, hx⟩ : ∃ x, a.nums[j]? = some x := ⟨_, List.getElem?_eq_getElem (show j < a.nums.length from hlj)⟩
                        obtain ⟨y, hy⟩ : ∃ x, b.nums[j]? = some x := ⟨_, List.getElem?_eq_getElem (show j < b.nums.length from hlj)⟩
                        obtain ⟨adk, rfl, xk⟩ := RN.at_ (l := a.nums) rA3.out hx
                        obtain ⟨adl, rfl, yk⟩ := RN.at_ (l := b.nums) rB3.out hy
                        have i1 : (j : Int) < 10 := by omega
                        have i2 : (0 : Int) ≤ (j : Int) := by omega
                        have kbad := Lib.hid (show x ≠ y → decide (a = b) = false from fun hne => decide_eq_false fun e => by rw [e, hy] at hx; injection hx with hx; exact hne hx.symm)
                        have kgood := Lib.hid (show x = y → a.nums.take (j + 1) = b.nums.take (j + 1) from fun e => by rw [List.take_add_one, List.take_add_one, hx, hy, htj'.out, e])
                        clear hx hy
                        by_cases hxy : x = y
                        · have hst := Lib.hid (kgood.out hxy)
                          have t1 : (x != y) = false := by simp [hxy]
                          clear hxy
                          go_wp2
                          go_quiet (fail)
                          go_wp2
                          go_roundw
                          case rel => exact ⟨j + 1, by go_num, by omega, hst.out, below_drewN hBj'.out _⟩
                          case measure => simp [intOf]; omega
                        · have hno := Lib.hid (kbad.out hxy)
                          have t1 : (x != y) = true := by simp [hxy]
                          clear hxy
                          go_wp2
                          go_quiet (fail)
                          go_wp2
                          go_ret
                          exact ⟨ret_b hno.out.symm, hB0'.out.trans ((below_drewN B3.out _).mono hWl)⟩
                      · obtain rfl : j = 10 := by omega
                        have hyes := Lib.hid (show decide (a = b) = true from decide_eq_true (cfg_eq eqC.out eqD.out eqE.out eqU.out eqP.out (by
                          have h := htj'.out
                          rw [show (10 : Nat) = a.nums.length from rfl, List.take_length, show a.nums.length = b.nums.length from rfl, List.take_length] at h
                          exact h)))
                        clear htj'
                        go_wp2
                        go_ret
                        exact ⟨ret_b hyes.out.symm, hB0'.out.trans (B3.out.mono hWl)⟩
end Go.Proofs.YtjklpikopgihgaaGreatDoor
