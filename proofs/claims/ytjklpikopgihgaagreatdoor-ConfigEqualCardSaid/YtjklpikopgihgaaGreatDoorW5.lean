/- The reference: Right. -/
import Derived.Test.YtjklpikopgihgaaGreatDoorW4
set_option linter.unusedVariables false
set_option maxRecDepth 100000
set_option linter.unusedSimpArgs false
namespace Go.Proofs.YtjklpikopgihgaaGreatDoor
open Go.RowKit Go.Lib Cf

/-- What an argument's numbers may be. -/
structure CfgIn (c : Cfg) : Prop where
  ce : I64 c.ce
  ds : ∀ d ∈ c.ds, I64 d
  es : ∀ e ∈ c.es, I64 e.1 ∧ I64 e.2.1 ∧ I64 e.2.2
  us : ∀ e ∈ c.us, I64 e.1 ∧ I64 e.2.1 ∧ I64 e.2.2
  ps : ∀ p ∈ c.ps, I64 p.urg ∧ ∀ k ∈ p.kinds, I64 k
  ns : ∀ n ∈ c.nums, I64 n
/-- A configuration that is not great. -/
structure Small (c : Cfg) : Prop where
  ds : c.ds.length ≤ 60
  es : c.es.length ≤ 60
  us : c.us.length ≤ 60
  ps : c.ps.length ≤ 70
  cost : planCost c.ps ≤ 4000
theorem small_of {c : Cfg} (h : great c = false) : Small c := by
  obtain ⟨h1, h2, h3, h4, h5⟩ := great_few h
  exact ⟨h2, h3, h4, h5, h1⟩
section
variable {c : Cfg}
theorem right1 (h : ¬ (1 ≤ c.ce ∧ c.ce ≤ 9)) : right c = 1 := by unfold right; rw [if_pos h]
theorem right2 (h1 : 1 ≤ c.ce ∧ c.ce ≤ 9) (h : ¬ (1 ≤ c.ds.length ∧ c.ds.length ≤ 4096)) : right c = 2 := by unfold right; rw [if_neg (fun e => e h1), if_pos h]
theorem right3 (h1 : 1 ≤ c.ce ∧ c.ce ≤ 9) (h2 : 1 ≤ c.ds.length ∧ c.ds.length ≤ 4096) (h : c.ds.all (fun d => inR d 0 (c.ce - 1)) = false) : right c = 3 := by
  unfold right; rw [if_neg (fun e => e h1), if_neg (fun e => e h2), if_pos h]
theorem right4 (h1 : 1 ≤ c.ce ∧ c.ce ≤ 9) (h2 : 1 ≤ c.ds.length ∧ c.ds.length ≤ 4096) (h3 : c.ds.all (fun d => inR d 0 (c.ce - 1)) = true) (h : c.es.all (edgeOk c.ds.length) = false ∨ 16384 < c.es.length) : right c = 4 := by
  unfold right; rw [if_neg (fun e => e h1), if_neg (fun e => e h2), if_neg (by rw [h3]; decide), if_pos h]
theorem right5 (h1 : 1 ≤ c.ce ∧ c.ce ≤ 9) (h2 : 1 ≤ c.ds.length ∧ c.ds.length ≤ 4096) (h3 : c.ds.all (fun d => inR d 0 (c.ce - 1)) = true) (h4 : ¬ (c.es.all (edgeOk c.ds.length) = false ∨ 16384 < c.es.length)) (h : c.us.all (unitOk c.ce c.ds.length) = false ∨ 256 < c.us.length) : right c = 5 := by
  unfold right; rw [if_neg (fun e => e h1), if_neg (fun e => e h2), if_neg (by rw [h3]; decide), if_neg h4, if_pos h]
theorem right6 (h1 : 1 ≤ c.ce ∧ c.ce ≤ 9) (h2 : 1 ≤ c.ds.length ∧ c.ds.length ≤ 4096) (h3 : c.ds.all (fun d => inR d 0 (c.ce - 1)) = true) (h4 : ¬ (c.es.all (edgeOk c.ds.length) = false ∨ 16384 < c.es.length)) (h5 : ¬ (c.us.all (unitOk c.ce c.ds.length) = false ∨ 256 < c.us.length)) (h : plansOk [] c.ps = false) : right c = 6 := by
  unfold right; rw [if_neg (fun e => e h1), if_neg (fun e => e h2), if_neg (by rw [h3]; decide), if_neg h4, if_neg h5, if_pos h]
theorem right7 (h1 : 1 ≤ c.ce ∧ c.ce ≤ 9) (h2 : 1 ≤ c.ds.length ∧ c.ds.length ≤ 4096) (h3 : c.ds.all (fun d => inR d 0 (c.ce - 1)) = true) (h4 : ¬ (c.es.all (edgeOk c.ds.length) = false ∨ 16384 < c.es.length)) (h5 : ¬ (c.us.all (unitOk c.ce c.ds.length) = false ∨ 256 < c.us.length)) (h6 : plansOk [] c.ps = true) (h : numsOk c = false) : right c = 7 := by
  unfold right; rw [if_neg (fun e => e h1), if_neg (fun e => e h2), if_neg (by rw [h3]; decide), if_neg h4, if_neg h5, if_neg (by rw [h6]; decide), if_pos h]
theorem right0 (h1 : 1 ≤ c.ce ∧ c.ce ≤ 9) (h2 : 1 ≤ c.ds.length ∧ c.ds.length ≤ 4096) (h3 : c.ds.all (fun d => inR d 0 (c.ce - 1)) = true) (h4 : ¬ (c.es.all (edgeOk c.ds.length) = false ∨ 16384 < c.es.length)) (h5 : ¬ (c.us.all (unitOk c.ce c.ds.length) = false ∨ 256 < c.us.length)) (h6 : plansOk [] c.ps = true) (h7 : numsOk c = true) : right c = 0 := by
  unfold right; rw [if_neg (fun e => e h1), if_neg (fun e => e h2), if_neg (by rw [h3]; decide), if_neg h4, if_neg h5, if_neg (by rw [h6]; decide), if_neg (by rw [h7]; decide)]
end

theorem any_take_succ {α : Type} (f : α → Bool) {l : List α} {k : Nat} {a : α} (h : l[k]? = some a) : (l.take (k + 1)).any f = ((l.take k).any f || f a) := by
  rw [List.take_add_one, h]; simp
/-- The first k numbers are right. -/
def NumsTo (c : Cfg) (k : Nat) : Prop := ∀ i, i < k → inR (c.nums.getD i 0) (bounds i).1 (bounds i).2 = true
theorem getD_of {l : List Int} {k : Nat} {z : Int} (h : l[k]? = some z) : l.getD k 0 = z := by rw [List.getD_eq_getElem?_getD, h]; rfl
theorem nums_bad {c : Cfg} {k : Nat} {z : Int} (h : c.nums[k]? = some z) (hb : inR z (bounds k).1 (bounds k).2 = false) : numsOk c = false := by
  have hk : k < 10 := (List.getElem?_eq_some_iff.1 h).1
  unfold numsOk
  rw [List.all_eq_false]
  exact ⟨k, by simpa using hk, by rw [getD_of h, hb]; simp⟩
theorem nums_step {c : Cfg} {k : Nat} {z : Int} (hn : NumsTo c k) (h : c.nums[k]? = some z) (hb : inR z (bounds k).1 (bounds k).2 = true) : NumsTo c (k + 1) := fun i hi => by
  by_cases e : i < k
  · exact hn i e
  · obtain rfl : i = k := by omega
    rw [getD_of h]; exact hb
theorem nums_all {c : Cfg} (hn : NumsTo c 10) : numsOk c = true := by
  unfold numsOk
  rw [List.all_eq_true]
  intro i hi
  exact hn i (by simpa using hi)

set_option maxRecDepth 100000 in
set_option maxHeartbeats 8000000 in
theorem right_any (c : Cfg) (v : Value) (w : World) (h : CfgV w v c) (hin : CfgIn c) (hsm : Small c) : Calls Tryz.prog 11 #[v] w fun r w' => r = .returned (.int .i64 (right c)) ∧ Below w.heap.size w w' := by
  obtain ⟨vd, ve, vu, vp, rfl, hd, hh, hu, hq⟩ := h
  obtain ⟨Ad, cd, rfl⟩ := hd.form
  obtain ⟨Ae, ce, rfl⟩ := hh.form
  obtain ⟨Au, cu, rfl⟩ := hu.form
  obtain ⟨Ap, cp, rfl⟩ := hq.form
  obtain ⟨W, hWe, hC, hB0, hWs⟩ := box_cfg w c (.slice Ad c.ds.length cd) (.slice Ae c.es.length ce) (.slice Au c.us.length cu) (.slice Ap c.ps.length cp)
  have hWe' := hWe.symm
  have hd' := Lib.hid (hd.below hB0)
  have hh' := Lib.hid (hh.below hB0)
  have hu' := Lib.hid (hu.below hB0)
  have hq' := Lib.hid (hq.below hB0)
  have hC' := Lib.hid hC
  have hB0' := Lib.hid hB0
  have hsm' := Lib.hid hsm
  have c0 := hC.at_ 0 _ rfl
  have c1 := hC.at_ 1 _ rfl
  have l1 := hsm.ds
  have l2 := hsm.es
  have l3 := hsm.us
  have l4 := hsm.ps
  clear hWe hd hh hu hq hC hB0 hsm
  unfold cfgCells
  by_cases q1 : 1 ≤ c.ce
  rotate_left
  · have hr := Lib.hid (right1 (c := c) (fun e => q1 e.1))
    go_enter Tryz.func11, Tryz.ntmps11
    go_wp2
    go_ret
    exact ⟨ret_i hr.out.symm, hB0'.out⟩
  by_cases q2 : c.ce ≤ 9
  rotate_left
  · have hr := Lib.hid (right1 (c := c) (fun e => q2 e.2))
    go_enter Tryz.func11, Tryz.ntmps11
    go_wp2
    go_ret
    exact ⟨ret_i hr.out.symm, hB0'.out⟩
  have f1 := Lib.hid (And.intro q1 q2)
  by_cases q3 : 1 ≤ c.ds.length
  rotate_left
  · have hr := Lib.hid (right2 f1.out (fun e => q3 e.1))
    have t3 : ¬ (1 : Int) ≤ (c.ds.length : Int) := by omega
    go_enter Tryz.func11, Tryz.ntmps11
    go_wp2
    go_ret
    exact ⟨ret_i hr.out.symm, hB0'.out⟩
  have f2 := Lib.hid (show 1 ≤ c.ds.length ∧ c.ds.length ≤ 4096 from ⟨q3, by omega⟩)
  have t3 : (1 : Int) ≤ (c.ds.length : Int) := by omega
  have t3b : (c.ds.length : Int) ≤ 4096 := by omega
  clear q3
  go_enter Tryz.func11, Tryz.ntmps11
  go_wp2_with fail
  clear hWe'
  have hWl : w.heap.size ≤ W.heap.size := by omega
  go_loop [38] (fun i => ∃ k : Nat, i = .int .i64 (k : Int) ∧ k ≤ c.ds.length ∧ (c.ds.take k).all (fun d => inR d 0 (c.ce - 1)) = true) (fun i => c.ds.length - (intOf i).toNat)
  case atStart => exact ⟨0, rfl, by omega, by simp⟩
  case round =>
    obtain ⟨k, rfl, hk, hal⟩ := hrel
    have hal' := Lib.hid hal
    clear hal
    by_cases hlt : k < c.ds.length
    · obtain ⟨d, hd0⟩ : ∃ d, c.ds[k]? = some d := ⟨_, List.getElem?_eq_getElem hlt⟩
      obtain ⟨ad, rfl, d0⟩ := hd'.out.at_ hd0
      have e1 : (k : Int) < (c.ds.length : Int) := by omega
      have e2 : (0 : Int) ≤ (k : Int) := by omega
      have hd1 := Lib.hid hd0
      clear hd0
      by_cases t1 : d < 0
      · have hr := Lib.hid (right3 f1.out f2.out (all_of_bad _ hd1.out (by unfold inR; simp; omega)))
        go_wp2
        go_ret
        exact ⟨ret_i hr.out.symm, hB0'.out⟩
      by_cases t2 : c.ce ≤ d
      · have hr := Lib.hid (right3 f1.out f2.out (all_of_bad _ hd1.out (by unfold inR; simp; omega)))
        go_wp2
        go_ret
        exact ⟨ret_i hr.out.symm, hB0'.out⟩
      have hst := Lib.hid (show (c.ds.take (k + 1)).all (fun d => inR d 0 (c.ce - 1)) = true from by rw [all_take_succ _ hd1.out, hal'.out]; unfold inR; simp; omega)
      go_wp2
      go_round
      case rel => exact ⟨k + 1, by go_num, by omega, hst.out⟩
      case measure => simp [intOf]; omega
    · obtain rfl : k = c.ds.length := by omega
      have f3 := Lib.hid (show c.ds.all (fun d => inR d 0 (c.ce - 1)) = true from by have h := hal'.out; rw [List.take_length] at h; exact h)
      have c2 := hC'.out.at_ 2 _ rfl
      clear hal'
      go_wp2_with fail
      go_loopw [54] (fun i w' => ∃ k : Nat, i = .int .i64 (k : Int) ∧ k ≤ c.es.length ∧ (c.es.take k).all (edgeOk c.ds.length) = true ∧ Below W.heap.size W w') (fun i _ => c.es.length - (intOf i).toNat)
      case atStart => exact ⟨0, rfl, by omega, by simp, Below.refl _ _⟩
      case round =>
        obtain ⟨k, rfl, hk, hal, hB⟩ := hrel
        have hal' := Lib.hid hal
        have hB' := Lib.hid hB
        have hCr := hC'.out.below hB
        clear hal hB
        by_cases hlt : k < c.es.length
        · obtain ⟨e, he0⟩ : ∃ e, c.es[k]? = some e := ⟨_, List.getElem?_eq_getElem hlt⟩
          obtain ⟨ad, rfl, hat⟩ := (hh'.out.below hB'.out).at_ he0
          have hI := hin.es e (List.mem_of_getElem? he0)
          have e1 : (k : Int) < (c.es.length : Int) := by omega
          have e2 : (0 : Int) ≤ (k : Int) := by omega
          have hle := load_edge hat
          have hBa : Below wr.heap.size wr (wr.alloc (.cells #[.int .i64 e.1, .int .i64 e.2.1, .int .i64 e.2.2] 47)) := (Below.refl _ _).alloc (Nat.le_refl _) _
          have hB2 := Lib.hid (then_ hB'.out hBa)
          have hlc := (hCr.below hBa).load
          have hV' := Lib.hid (show CfgV (wr.alloc (.cells #[.int .i64 e.1, .int .i64 e.2.1, .int .i64 e.2.2] 47)) (.agg (cfgCells c (.slice Ad c.ds.length cd) (.slice (some ad) c.es.length ce) (.slice Au c.us.length cu) (.slice Ap c.ps.length cp)).toArray) c from ⟨_, _, _, _, rfl, hd'.out.below hB2.out, hh'.out.below hB2.out, hu'.out.below hB2.out, hq'.out.below hB2.out⟩)
          have he1 := Lib.hid he0
          clear he0 hat hBa hCr
          go_wp2_with (first
            | (refine wpList_load_list rfl 47 _ rfl (ad.add (k * 3)) rfl [.int .i64 e.1, .int .i64 e.2.1, .int .i64 e.2.2] hle ?_)
            | (refine wpList_load_list rfl 27 _ rfl ⟨w.heap.size, 0, none⟩ rfl (cfgCells c (.slice Ad c.ds.length cd) (.slice (some ad) c.es.length ce) (.slice Au c.us.length cu) (.slice Ap c.ps.length cp)) hlc ?_))
          refine (edge_any c _ e _ hV'.out hI (by omega)).mono ?_
          rintro r w2 ⟨rfl, b2⟩
          have B2 := Lib.hid (then_ hB2.out b2)
          clear hlc hle b2
          cases hok : edgeOk c.ds.length e with
          | false =>
            have hr := Lib.hid (right4 f1.out f2.out f3.out (.inl (all_of_bad _ he1.out hok)))
            go_wp2
            go_ret
            exact ⟨ret_i hr.out.symm, hB0'.out.trans (B2.out.mono hWl)⟩
          | true =>
            have hst := Lib.hid (show (c.es.take (k + 1)).all (edgeOk c.ds.length) = true from by rw [all_take_succ _ he1.out, hal'.out, hok]; rfl)
            go_wp2
            go_roundw
            case rel => exact ⟨k + 1, by go_num, by omega, hst.out, B2.out⟩
            case measure => simp [intOf]; omega
        · obtain rfl : k = c.es.length := by omega
          have f4 := Lib.hid (show ¬ (c.es.all (edgeOk c.ds.length) = false ∨ 16384 < c.es.length) from by
            have h := hal'.out
            rw [List.take_length] at h
            rw [h]
            intro e
            rcases e with e | e
            · cases e
            · omega)
          have m1 : ¬ (16384 : Int) < (c.es.length : Int) := by omega
          have c2 := hCr.at_ 2 _ rfl
          have c3 := hCr.at_ 3 _ rfl
          clear hal' hCr
          go_wp2_with fail
          go_loopw [70] (fun i w' => ∃ k : Nat, i = .int .i64 (k : Int) ∧ k ≤ c.us.length ∧ (c.us.take k).all (unitOk c.ce c.ds.length) = true ∧ Below W.heap.size W w') (fun i _ => c.us.length - (intOf i).toNat)
          case atStart => exact ⟨0, rfl, by omega, by simp, hB'.out⟩
          case round =>
            obtain ⟨k, rfl, hk, hal, hB⟩ := hrel
            have hal' := Lib.hid hal
            have hB' := Lib.hid hB
            have hCr := hC'.out.below hB
            clear hal hB
            by_cases hlt : k < c.us.length
            · obtain ⟨e, he0⟩ : ∃ e, c.us[k]? = some e := ⟨_, List.getElem?_eq_getElem hlt⟩
              obtain ⟨ad, rfl, hat⟩ := (hu'.out.below hB'.out).at_ he0
              have hI := hin.us e (List.mem_of_getElem? he0)
              have e1 : (k : Int) < (c.us.length : Int) := by omega
              have e2 : (0 : Int) ≤ (k : Int) := by omega
              have hle := load_unit hat
              have hBa : Below wr.heap.size wr (wr.alloc (.cells #[.int .i64 e.1, .int .i64 e.2.1, .int .i64 e.2.2] 50)) := (Below.refl _ _).alloc (Nat.le_refl _) _
              have hB2 := Lib.hid (then_ hB'.out hBa)
              have hlc := (hCr.below hBa).load
              have hV' := Lib.hid (show CfgV (wr.alloc (.cells #[.int .i64 e.1, .int .i64 e.2.1, .int .i64 e.2.2] 50)) (.agg (cfgCells c (.slice Ad c.ds.length cd) (.slice Ae c.es.length ce) (.slice (some ad) c.us.length cu) (.slice Ap c.ps.length cp)).toArray) c from ⟨_, _, _, _, rfl, hd'.out.below hB2.out, hh'.out.below hB2.out, hu'.out.below hB2.out, hq'.out.below hB2.out⟩)
              have he1 := Lib.hid he0
              clear he0 hat hBa hCr
              go_wp2_with (first
                | (refine wpList_load_list rfl 50 _ rfl (ad.add (k * 3)) rfl [.int .i64 e.1, .int .i64 e.2.1, .int .i64 e.2.2] hle ?_)
                | (refine wpList_load_list rfl 27 _ rfl ⟨w.heap.size, 0, none⟩ rfl (cfgCells c (.slice Ad c.ds.length cd) (.slice Ae c.es.length ce) (.slice (some ad) c.us.length cu) (.slice Ap c.ps.length cp)) hlc ?_))
              refine (unit_any c _ e _ hV'.out hI (by omega)).mono ?_
              rintro r w2 ⟨rfl, b2⟩
              have B2 := Lib.hid (then_ hB2.out b2)
              clear hlc hle b2
              cases hok : unitOk c.ce c.ds.length e with
              | false =>
                have hr := Lib.hid (right5 f1.out f2.out f3.out f4.out (.inl (all_of_bad _ he1.out hok)))
                go_wp2
                go_ret
                exact ⟨ret_i hr.out.symm, hB0'.out.trans (B2.out.mono hWl)⟩
              | true =>
                have hst := Lib.hid (show (c.us.take (k + 1)).all (unitOk c.ce c.ds.length) = true from by rw [all_take_succ _ he1.out, hal'.out, hok]; rfl)
                go_wp2
                go_roundw
                case rel => exact ⟨k + 1, by go_num, by omega, hst.out, B2.out⟩
                case measure => simp [intOf]; omega
            · obtain rfl : k = c.us.length := by omega
              have f5 := Lib.hid (show ¬ (c.us.all (unitOk c.ce c.ds.length) = false ∨ 256 < c.us.length) from by
                have h := hal'.out
                rw [List.take_length] at h
                rw [h]
                intro e
                rcases e with e | e
                · cases e
                · omega)
              have m1 : ¬ (256 : Int) < (c.us.length : Int) := by omega
              have c3b := hCr.at_ 3 _ rfl
              have c4 := hCr.at_ 4 _ rfl
              clear hal' hCr
              go_wp2_with fail
              go_loopw [86] (fun i w' => ∃ k : Nat, i = .int .i64 (k : Int) ∧ k ≤ c.ps.length ∧ plansOk [] c.ps = plansOk (c.ps.take k) (c.ps.drop k) ∧ Below W.heap.size W w') (fun i _ => c.ps.length - (intOf i).toNat)
              case atStart => exact ⟨0, rfl, by omega, by rw [List.take_zero, List.drop_zero], hB'.out⟩
              case round =>
                clear hB'
                obtain ⟨k, rfl, hk, hpl, hB⟩ := hrel
                have hpl' := Lib.hid hpl
                have hB' := Lib.hid hB
                have hCr := hC'.out.below hB
                clear hpl hB
                by_cases hlt : k < c.ps.length
                · obtain ⟨p, hp0⟩ : ∃ p, c.ps[k]? = some p := ⟨_, List.getElem?_eq_getElem hlt⟩
                  obtain ⟨ad, u, rfl, hat, hru⟩ := (hq'.out.below hB'.out).at_ hp0
                  obtain ⟨Ak, ck, rfl⟩ := hru.form
                  have hcap := hq'.out.cap
                  have hI := (hin.ps p (List.mem_of_getElem? hp0)).2
                  have hcost := planCost_mem hp0
                  have hcmax := hsm'.out.cost
                  have e1 : (k : Int) < (c.ps.length : Int) := by omega
                  have e2 : (0 : Int) ≤ (k : Int) := by omega
                  have e3 : (k : Int) ≤ (cp : Int) := by omega
                  have hle := load_plan hat
                  have hstep := Lib.hid (plansOk_at hp0)
                  have hBa : Below wr.heap.size wr (wr.alloc (.cells #[.string ⟨p.code.toArray⟩, .int .i64 p.urg, .slice Ak p.kinds.length ck] 43)) := (Below.refl _ _).alloc (Nat.le_refl _) _
                  have hB2 := Lib.hid (then_ hB'.out hBa)
                  have hru2 := Lib.hid (hru.below hBa)
                  have hnew := heap_alloc_new wr (.cells #[.string ⟨p.code.toArray⟩, .int .i64 p.urg, .slice Ak p.kinds.length ck] 43)
                  clear hp0 hat hru hBa hCr
                  by_cases h64 : 64 ≤ k
                  · have t1 : (64 : Int) ≤ (k : Int) := by omega
                    have hr := Lib.hid (right6 f1.out f2.out f3.out f4.out f5.out (by rw [hpl'.out, hstep.out, decide_eq_false (show ¬ k < 64 from by omega)]; rfl))
                    clear hnew
                    go_wp2_with (refine wpList_load_list rfl 43 _ rfl (ad.add (k * 3)) rfl [.string ⟨p.code.toArray⟩, .int .i64 p.urg, .slice Ak p.kinds.length ck] hle ?_)
                    go_ret
                    exact ⟨ret_i hr.out.symm, hB0'.out.trans (hB2.out.mono hWl)⟩
                  have t1 : ¬ (64 : Int) ≤ (k : Int) := by omega
                  go_wp2_with (refine wpList_load_list rfl 43 _ rfl (ad.add (k * 3)) rfl [.string ⟨p.code.toArray⟩, .int .i64 p.urg, .slice Ak p.kinds.length ck] hle ?_)
                  refine (plan_any p (.slice Ak p.kinds.length ck) _ hru2.out hI (by omega) (by omega)).mono ?_
                  rintro r w2 ⟨rfl, b2⟩
                  have hnew2 := (b2.block _ (Array.getElem?_eq_some_iff.1 hnew).1).trans hnew
                  have B2 := Lib.hid (then_ hB2.out b2)
                  clear hnew b2
                  cases hok : planOk p with
                  | false =>
                    have hr := Lib.hid (right6 f1.out f2.out f3.out f4.out f5.out (by rw [hpl'.out, hstep.out, hok]; simp))
                    clear hnew2
                    go_wp2
                    go_ret
                    exact ⟨ret_i hr.out.symm, hB0'.out.trans (B2.out.mono hWl)⟩
                  | true =>
                    have hnw := Lib.hid hnew2
                    have c4 := (hC'.out.below B2.out).at_ 4 _ rfl
                    generalize wr.heap.size = gp at hnw hnew2
                    clear hnew2
                    go_wp2_with fail
                    go_loopw [103] (fun i w' => ∃ j : Nat, i = .int .i64 (j : Int) ∧ j ≤ k ∧ ((c.ps.take k).take j).any (twin p) = false ∧ Below w2.heap.size w2 w') (fun i _ => k - (intOf i).toNat)
                    case atStart => exact ⟨0, rfl, by omega, by simp, Below.refl _ _⟩
                    case round =>
                      obtain ⟨j, rfl, hj, han, hBj⟩ := hrel
                      have han' := Lib.hid han
                      have hBj' := Lib.hid hBj
                      have B3 := Lib.hid (then_ B2.out hBj)
                      have hw3 := (hBj.block _ (Array.getElem?_eq_some_iff.1 hnw.out).1).trans hnw.out
                      clear han hBj c4
                      by_cases hlj : j < k
                      · obtain ⟨q, hq0⟩ : ∃ q, c.ps[j]? = some q := ⟨_, List.getElem?_eq_getElem (by omega)⟩
                        obtain ⟨ad2, u2, hade, hat2, hru3⟩ := (hq'.out.below B3.out).at_ hq0
                        injection hade with hade
                        subst hade
                        obtain ⟨Aq, cq, rfl⟩ := hru3.form
                        have hqk := Lib.hid (show (c.ps.take k)[j]? = some q from by rw [List.getElem?_take, if_pos hlj]; exact hq0)
                        have i1 : (j : Int) < (k : Int) := by omega
                        have i2 : (0 : Int) ≤ (j : Int) := by omega
                        have hle2 := load_plan hat2
                        have hBb : Below wr.heap.size wr (wr.alloc (.cells #[.string ⟨q.code.toArray⟩, .int .i64 q.urg, .slice Aq q.kinds.length cq] 43)) := (Below.refl _ _).alloc (Nat.le_refl _) _
                        have hw4 := (hBb.block _ (Array.getElem?_eq_some_iff.1 hw3).1).trans hw3
                        have B4 := Lib.hid (then_ hBj'.out hBb)
                        have B5 := Lib.hid (then_ B3.out hBb)
                        have d0 : (wr.alloc (.cells #[.string ⟨q.code.toArray⟩, .int .i64 q.urg, .slice Aq q.kinds.length cq] 43)).cell? ⟨gp, 0, none⟩ = some (.string ⟨p.code.toArray⟩) := by rw [cell_of_row _ _ 0 _ _ _ hw4]; rfl
                        have d1 : (wr.alloc (.cells #[.string ⟨q.code.toArray⟩, .int .i64 q.urg, .slice Aq q.kinds.length cq] 43)).cell? ⟨gp, 1, none⟩ = some (.int .i64 p.urg) := by rw [cell_of_row _ _ 1 _ _ _ hw4]; rfl
                        clear hq0 hat2 hru3 hBb hw3 hw4
                        cases s1 : (q.code == p.code) with
                        | false =>
                          have hst := Lib.hid (show ((c.ps.take k).take (j + 1)).any (twin p) = false from by rw [any_take_succ _ hqk.out, han'.out]; unfold twin; rw [s1]; rfl)
                          go_wp2_with (refine wpList_load_list rfl 43 _ rfl (ad.add (j * 3)) rfl [.string ⟨q.code.toArray⟩, .int .i64 q.urg, .slice Aq q.kinds.length cq] hle2 ?_)
                          go_roundw
                          case rel => exact ⟨j + 1, by go_num, by omega, hst.out, B4.out⟩
                          case measure => simp [intOf]; omega
                        | true =>
                          by_cases s2 : q.urg = p.urg
                          · have s3 : (q.urg == p.urg) = true := by simp [s2]
                            have hr := Lib.hid (right6 f1.out f2.out f3.out f4.out f5.out (by
                              rw [hpl'.out, hstep.out, hok]
                              have : (c.ps.take k).any (twin p) = true := List.any_eq_true.2 ⟨q, List.mem_of_getElem? hqk.out, by unfold twin; rw [s1, decide_eq_true s2]; rfl⟩
                              rw [this]; simp))
                            clear s2
                            go_wp2_with (refine wpList_load_list rfl 43 _ rfl (ad.add (j * 3)) rfl [.string ⟨q.code.toArray⟩, .int .i64 q.urg, .slice Aq q.kinds.length cq] hle2 ?_)
                            go_ret
                            exact ⟨ret_i hr.out.symm, hB0'.out.trans (B5.out.mono hWl)⟩
                          · have s3 : (q.urg == p.urg) = false := by simp [s2]
                            have hst := Lib.hid (show ((c.ps.take k).take (j + 1)).any (twin p) = false from by rw [any_take_succ _ hqk.out, han'.out]; unfold twin; rw [decide_eq_false s2]; simp)
                            clear s2
                            go_wp2_with (refine wpList_load_list rfl 43 _ rfl (ad.add (j * 3)) rfl [.string ⟨q.code.toArray⟩, .int .i64 q.urg, .slice Aq q.kinds.length cq] hle2 ?_)
                            go_roundw
                            case rel => exact ⟨j + 1, by go_num, by omega, hst.out, B4.out⟩
                            case measure => simp [intOf]; omega
                      · obtain rfl : j = k := by omega
                        have hst := Lib.hid (show plansOk [] c.ps = plansOk (c.ps.take (j + 1)) (c.ps.drop (j + 1)) from by
                          have h := han'.out
                          rw [List.take_of_length_le (by rw [List.length_take]; omega)] at h
                          rw [hpl'.out, hstep.out, hok, h, decide_eq_true (show j < 64 from by omega)]; simp)
                        clear hw3
                        go_wp2
                        go_roundw
                        case rel => exact ⟨j + 1, by go_num, by omega, hst.out, B3.out⟩
                        case measure => simp [intOf]; omega
                · obtain rfl : k = c.ps.length := by omega
                  have f6 := Lib.hid (show plansOk [] c.ps = true from by rw [hpl'.out, List.drop_length]; rfl)
                  have hlc := hCr.load
                  have hV' := Lib.hid (show CfgV wr (.agg (cfgCells c (.slice Ad c.ds.length cd) (.slice Ae c.es.length ce) (.slice Au c.us.length cu) (.slice Ap c.ps.length cp)).toArray) c from ⟨_, _, _, _, rfl, hd'.out.below hB'.out, hh'.out.below hB'.out, hu'.out.below hB'.out, hq'.out.below hB'.out⟩)
                  clear hpl' hCr
                  go_wp2_with (refine wpList_load_list rfl 27 _ rfl ⟨w.heap.size, 0, none⟩ rfl (cfgCells c (.slice Ad c.ds.length cd) (.slice Ae c.es.length ce) (.slice Au c.us.length cu) (.slice Ap c.ps.length cp)) hlc ?_)
                  refine (numbers_any c _ wr hV'.out).mono ?_
                  rintro r w2 ⟨u, rfl, hun, b2⟩
                  have B6 := Lib.hid (then_ hB'.out b2)
                  obtain ⟨An, cn, rfl⟩ := hun.form
                  have hnl : c.nums.length = 10 := rfl
                  rw [hnl] at hun
                  have hun' := Lib.hid hun
                  clear hun b2 hlc hnl
                  go_wp2_with fail
                  go_loop [124] (fun i => ∃ k : Nat, i = .int .i64 (k : Int) ∧ k ≤ 10 ∧ NumsTo c k) (fun i => 10 - (intOf i).toNat)
                  case atStart => exact ⟨0, rfl, by omega, fun i hi => absurd hi (by omega)⟩
                  case round =>
                    obtain ⟨k, rfl, hk, hal⟩ := hrel
                    have hal' := Lib.hid hal
                    clear hal
                    by_cases hlt : k < 10
                    · obtain ⟨z, hz0⟩ : ∃ z, c.nums[k]? = some z := ⟨_, List.getElem?_eq_getElem (show k < c.nums.length from hlt)⟩
                      obtain ⟨ad, rfl, d0⟩ := RN.at_ (l := c.nums) hun'.out hz0
                      have hz := Lib.hid hz0
                      have e1 : (k : Int) < 10 := by omega
                      have e2 : (0 : Int) ≤ (k : Int) := by omega
                      clear hz0
                      by_cases hcase : k = 6
                      · have s6 : ((k : Int) == 6) = true := by simp [hcase]
                        have hbd := Lib.hid (show bounds k = (0, 1099511627776) from by unfold bounds; rw [if_pos (.inl hcase)])
                        clear hcase
                        go_wp2_with fail
                        refine (within_any z 0 1099511627776 _).mono ?_
                        rintro r w3 ⟨rfl, rfl⟩
                        cases hok : inR z 0 1099511627776 with
                        | false =>
                          have hr := Lib.hid (right7 f1.out f2.out f3.out f4.out f5.out f6.out (nums_bad hz.out (by rw [hbd.out]; exact hok)))
                          go_wp2
                          go_ret
                          exact ⟨ret_i hr.out.symm, hB0'.out.trans (B6.out.mono hWl)⟩
                        | true =>
                          have hst := Lib.hid (nums_step hal'.out hz.out (by rw [hbd.out]; exact hok))
                          go_wp2
                          go_round
                          case rel => exact ⟨k + 1, by go_num, by omega, hst.out⟩
                          case measure => simp [intOf]; omega
                      by_cases hcase : k = 7
                      · have s6 : ((k : Int) == 6) = false := by simp; omega
                        have s7 : ((k : Int) == 7) = true := by simp [hcase]
                        have hbd := Lib.hid (show bounds k = (0, 1099511627776) from by unfold bounds; rw [if_pos (.inr hcase)])
                        clear hcase
                        go_wp2_with fail
                        refine (within_any z 0 1099511627776 _).mono ?_
                        rintro r w3 ⟨rfl, rfl⟩
                        cases hok : inR z 0 1099511627776 with
                        | false =>
                          have hr := Lib.hid (right7 f1.out f2.out f3.out f4.out f5.out f6.out (nums_bad hz.out (by rw [hbd.out]; exact hok)))
                          go_wp2
                          go_ret
                          exact ⟨ret_i hr.out.symm, hB0'.out.trans (B6.out.mono hWl)⟩
                        | true =>
                          have hst := Lib.hid (nums_step hal'.out hz.out (by rw [hbd.out]; exact hok))
                          go_wp2
                          go_round
                          case rel => exact ⟨k + 1, by go_num, by omega, hst.out⟩
                          case measure => simp [intOf]; omega
                      by_cases hcase : k = 8
                      · have s6 : ((k : Int) == 6) = false := by simp; omega
                        have s7 : ((k : Int) == 7) = false := by simp; omega
                        have s8 : ((k : Int) == 8) = true := by simp [hcase]
                        have hbd := Lib.hid (show bounds k = (0, 256) from by unfold bounds; rw [if_neg (by omega), if_pos hcase])
                        clear hcase
                        go_wp2_with fail
                        refine (within_any z 0 256 _).mono ?_
                        rintro r w3 ⟨rfl, rfl⟩
                        cases hok : inR z 0 256 with
                        | false =>
                          have hr := Lib.hid (right7 f1.out f2.out f3.out f4.out f5.out f6.out (nums_bad hz.out (by rw [hbd.out]; exact hok)))
                          go_wp2
                          go_ret
                          exact ⟨ret_i hr.out.symm, hB0'.out.trans (B6.out.mono hWl)⟩
                        | true =>
                          have hst := Lib.hid (nums_step hal'.out hz.out (by rw [hbd.out]; exact hok))
                          go_wp2
                          go_round
                          case rel => exact ⟨k + 1, by go_num, by omega, hst.out⟩
                          case measure => simp [intOf]; omega
                      by_cases hcase : k = 9
                      · have s6 : ((k : Int) == 6) = false := by simp; omega
                        have s7 : ((k : Int) == 7) = false := by simp; omega
                        have s8 : ((k : Int) == 8) = false := by simp; omega
                        have s9 : ((k : Int) == 9) = true := by simp [hcase]
                        have hbd := Lib.hid (show bounds k = (1, 4096) from by unfold bounds; rw [if_neg (by omega), if_neg (by omega), if_pos hcase])
                        clear hcase
                        go_wp2_with fail
                        refine (within_any z 1 4096 _).mono ?_
                        rintro r w3 ⟨rfl, rfl⟩
                        cases hok : inR z 1 4096 with
                        | false =>
                          have hr := Lib.hid (right7 f1.out f2.out f3.out f4.out f5.out f6.out (nums_bad hz.out (by rw [hbd.out]; exact hok)))
                          go_wp2
                          go_ret
                          exact ⟨ret_i hr.out.symm, hB0'.out.trans (B6.out.mono hWl)⟩
                        | true =>
                          have hst := Lib.hid (nums_step hal'.out hz.out (by rw [hbd.out]; exact hok))
                          go_wp2
                          go_round
                          case rel => exact ⟨k + 1, by go_num, by omega, hst.out⟩
                          case measure => simp [intOf]; omega
                      have s6 : ((k : Int) == 6) = false := by simp; omega
                      have s7 : ((k : Int) == 7) = false := by simp; omega
                      have s8 : ((k : Int) == 8) = false := by simp; omega
                      have s9 : ((k : Int) == 9) = false := by simp; omega
                      have hbd := Lib.hid (show bounds k = (1, 1048576) from by unfold bounds; rw [if_neg (by omega), if_neg (by omega), if_neg (by omega)])
                      clear hcase
                      go_wp2_with fail
                      refine (within_any z 1 1048576 _).mono ?_
                      rintro r w3 ⟨rfl, rfl⟩
                      cases hok : inR z 1 1048576 with
                      | false =>
                        have hr := Lib.hid (right7 f1.out f2.out f3.out f4.out f5.out f6.out (nums_bad hz.out (by rw [hbd.out]; exact hok)))
                        go_wp2
                        go_ret
                        exact ⟨ret_i hr.out.symm, hB0'.out.trans (B6.out.mono hWl)⟩
                      | true =>
                        have hst := Lib.hid (nums_step hal'.out hz.out (by rw [hbd.out]; exact hok))
                        go_wp2
                        go_round
                        case rel => exact ⟨k + 1, by go_num, by omega, hst.out⟩
                        case measure => simp [intOf]; omega
                    · obtain rfl : k = 10 := by omega
                      have hr := Lib.hid (right0 f1.out f2.out f3.out f4.out f5.out f6.out (nums_all hal'.out))
                      go_wp2
                      go_ret
                      exact ⟨ret_i hr.out.symm, hB0'.out.trans (B6.out.mono hWl)⟩
end Go.Proofs.YtjklpikopgihgaaGreatDoor
