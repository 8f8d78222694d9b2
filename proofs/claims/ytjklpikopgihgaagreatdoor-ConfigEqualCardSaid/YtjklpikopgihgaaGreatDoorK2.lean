/- The code: validPlan, hasRival, validPlans; the parameters. -/
import Derived.Test.YtjklpikopgihgaaGreatDoorK1
import Derived.Test.YtjklpikopgihgaaGreatDoorQ
import Derived.Deep.QuietTactic
import Derived.Lib.QuietBelow
import Derived.BigQuiet
set_option linter.unusedVariables false
set_option maxRecDepth 100000
set_option linter.unusedSimpArgs false
namespace Go.Proofs.YtjklpikopgihgaaGreatDoor
open Go.RowKit Go.Lib Cf

/-! ### Regions that draw their order, between calls that make memory -/
theorem wp_region_G {G : Regrown → World} {id : Nat} {Q : Exit → Act → World → Prop} {a : Act} {w : World} {l : List Oper} (hm : Tryz.prog.follows .mixedOrders = true) (hB : Region.lexB .any l.toArray = true)
    (hC : ∃ p, w.drew = G p) (h : wpQuiet Tryz.prog l.toArray (fun w' => ∃ p : Regrown, w' = G p) (fun a' => ∀ w', (∃ p : Regrown, w' = G p) → Q .normal a' w') l a) : (Code.region id l.toArray true).wp Tryz.prog Q a w :=
  wp_region_quiet (C := fun w' => ∃ p : Regrown, w' = G p) hm hB hC (by simpa using h)
theorem q_load_list {G : Regrown → World} {a : Act} {o : Oper} {K : Act → Prop} (T : TypeId) (x : Operand) (p : Addr) (cs : List Value) (ho : o.op = .load T x) (hx : a.eval x = .pointer (some p))
    (hs : ∀ r, (loadVar T p).run Tryz.prog (G r) = .ok (.agg cs.toArray) (G r)) (h : K (a.put o.dst (.agg cs.toArray))) : o.quiet Tryz.prog a (fun w' => ∃ p : Regrown, w' = G p) K := by
  refine ⟨_, ?_, h⟩
  rintro w ⟨r, rfl⟩
  unfold Oper.quietAt
  unfold execOp
  simp only [ho, hx, Instr.loadAt, Instr.sureAddr, Sem.run_bind, Sem.run_pure, Result.andThen_ok, hs r]
  exact ⟨rfl, rfl⟩
/-- The worlds above V, by a letter. -/
theorem gworlds (V : World) : ∃ G : Regrown → World, (∀ r, Below V.heap.size V (G r)) ∧ (∀ w', Below V.heap.size V w' → ∃ r, w' = G r) := ⟨fun p => Sort.grow (redrawn V p.d) p.os, fun r => below_regrown V r.d r.os, fun w' h => regrown_of_below h⟩

set_option maxHeartbeats 1000000 in
theorem validPlan_any (p : Plan) (u : Value) (w : World) (hu : RN w u p.kinds) (h1 : p.code.length ≤ 9223372036854775807) (h2 : p.kinds.length ≤ 9223372036854775807) :
    Calls Tryz.prog 52 #[.agg #[.string ⟨p.code.toArray⟩, .int .i64 p.urg, u]] w fun r w' => r = .returned (.bool (planOk p)) ∧ Below w.heap.size w w' := by
  obtain ⟨A, c, rfl⟩ := hu.form
  have hB : Below w.heap.size w (w.alloc (.cells #[.string ⟨p.code.toArray⟩, .int .i64 p.urg, .slice A p.kinds.length c] 43)) := (Below.refl _ _).alloc (Nat.le_refl _) _
  have hu' := Lib.hid (hu.below hB)
  obtain ⟨code, urg, kinds⟩ := p
  simp only at hu' hB h1 h2 ⊢
  have hB' := Lib.hid hB
  have hc := heap_alloc_new w (.cells #[.string ⟨code.toArray⟩, .int .i64 urg, .slice A kinds.length c] 43)
  clear hu hB
  go_enter Tryz.func52, Tryz.ntmps52
  go_wp2_with fail
  generalize w.alloc (.cells #[.string ⟨code.toArray⟩, .int .i64 urg, .slice A kinds.length c] 43) = W at hu' hB' hc ⊢
  have c0 : W.cell? ⟨w.heap.size, 0, none⟩ = some (.string ⟨code.toArray⟩) := by rw [cell_of_row _ _ 0 _ _ _ hc]; rfl
  have c1 : W.cell? ⟨w.heap.size, 1, none⟩ = some (.int .i64 urg) := by rw [cell_of_row _ _ 1 _ _ _ hc]; rfl
  have c2 : W.cell? ⟨w.heap.size, 2, none⟩ = some (.slice A kinds.length c) := by rw [cell_of_row _ _ 2 _ _ _ hc]; rfl
  clear hc
  go_loop [8] (fun i => ∃ k : Nat, i = .int .i64 (k : Int) ∧ k ≤ kinds.length ∧ (kinds.take k).all kndOk = true) (fun i => kinds.length - (intOf i).toNat)
  case atStart => exact ⟨0, rfl, by omega, by simp⟩
  case round =>
    obtain ⟨k, rfl, hkk, hal⟩ := hrel
    have hal' := Lib.hid hal
    clear hal
    by_cases hlt : k < kinds.length
    · obtain ⟨z, hz⟩ : ∃ z, kinds[k]? = some z := ⟨_, List.getElem?_eq_getElem hlt⟩
      obtain ⟨ad, rfl, d0⟩ := hu'.out.at_ hz
      have e1 : (k : Int) < (kinds.length : Int) := by omega
      have e2 : (0 : Int) ≤ (k : Int) := by omega
      have hz' := Lib.hid hz
      clear hz
      go_wp2_with fail
      refine (isKind_any z W).mono ?_
      rintro r w1 ⟨rfl, rfl⟩
      cases ok : kndOk z with
      | false =>
        have hr := Lib.hid (show planOk ⟨code, urg, kinds⟩ = false from by unfold planOk; rw [all_of_bad kndOk hz'.out ok]; rfl)
        clear ok
        go_wp2
        go_ret
        exact ⟨ret_b hr.out.symm, hB'.out⟩
      | true =>
        have hst := Lib.hid (show (kinds.take (k + 1)).all kndOk = true from by rw [all_take_succ kndOk hz'.out, hal'.out, ok]; rfl)
        clear ok
        go_wp2
        go_round
        case rel => exact ⟨k + 1, by go_num, by omega, hst.out⟩
        case measure => simp [intOf]; omega
    · obtain rfl : k = kinds.length := by omega
      have hal := hal'.out
      rw [List.take_length] at hal
      have hgen : planOk ⟨code, urg, kinds⟩ = (codeOk code && inR urg 1 5 && inR (kinds.length : Int) 1 8) := by
        unfold planOk; rw [hal, Bool.true_and]
        simp only [Bool.and_assoc]
        congr 2
        unfold inR
        congr 1 <;> (rw [decide_eq_decide]; omega)
      have hgen' := Lib.hid hgen
      clear hal hgen
      go_wp2_with fail
      refine (isCode_any code W h1).mono ?_
      rintro r w1 ⟨rfl, rfl⟩
      cases hco : codeOk code with
      | false =>
        have hr := Lib.hid (show planOk ⟨code, urg, kinds⟩ = false from by rw [hgen'.out, hco]; rfl)
        clear hco
        go_wp2
        go_ret
        exact ⟨ret_b hr.out.symm, hB'.out⟩
      | true =>
        go_wp2_with fail
        refine (cwi_any urg 1 5 W).mono ?_
        rintro r w1 ⟨rfl, rfl⟩
        cases hur : inR urg 1 5 with
        | false =>
          have hr := Lib.hid (show planOk ⟨code, urg, kinds⟩ = false from by rw [hgen'.out, hco, hur]; rfl)
          clear hco hur
          go_wp2
          go_ret
          exact ⟨ret_b hr.out.symm, hB'.out⟩
        | true =>
          have hr := Lib.hid (show planOk ⟨code, urg, kinds⟩ = inR (kinds.length : Int) 1 8 from by rw [hgen'.out, hco, hur]; rfl)
          clear hco hur
          go_wp2_with fail
          refine (cwi_any (kinds.length : Int) 1 8 W).mono ?_
          rintro r w1 ⟨rfl, rfl⟩
          go_wp2
          go_ret
          exact ⟨ret_b hr.out.symm, hB'.out⟩

set_option maxHeartbeats 2000000 in
theorem hasRival_any (l : List Plan) (v : Value) (p : Plan) (u : Value) (w : World) (hl : RP w v l) (hlen : l.length ≤ 9223372036854775807) :
    Calls Tryz.prog 53 #[v, .agg #[.string ⟨p.code.toArray⟩, .int .i64 p.urg, u]] w fun r w' => r = .returned (.bool (l.any (twin p))) ∧ Below w.heap.size w w' := by
  obtain ⟨Ap, cp, rfl⟩ := hl.form
  have hB : Below w.heap.size w (w.alloc (.cells #[.string ⟨p.code.toArray⟩, .int .i64 p.urg, u] 43)) := (Below.refl _ _).alloc (Nat.le_refl _) _
  have hq' := Lib.hid (hl.below hB)
  obtain ⟨pc, pu, pk⟩ := p
  simp only at hq' hB ⊢
  have hB' := Lib.hid hB
  have hnw := Lib.hid (heap_alloc_new w (.cells #[.string ⟨pc.toArray⟩, .int .i64 pu, u] 43))
  have hWl : w.heap.size ≤ (w.alloc (.cells #[.string ⟨pc.toArray⟩, .int .i64 pu, u] 43)).heap.size := hB.size
  have htw := Lib.hid (show ∀ q : Plan, twin ⟨pc, pu, pk⟩ q = (q.code == pc && decide (q.urg = pu)) from fun q => rfl)
  generalize hp : (⟨pc, pu, pk⟩ : Plan) = p at htw ⊢
  clear hl hB hp
  go_enter Tryz.func53, Tryz.ntmps53
  go_wp2_with fail
  generalize w.alloc (.cells #[.string ⟨pc.toArray⟩, .int .i64 pu, u] 43) = W at hq' hB' hnw hWl ⊢
  go_loopw [9] (fun i w' => ∃ j : Nat, i = .int .i64 (j : Int) ∧ j ≤ l.length ∧ (l.take j).any (twin p) = false ∧ Below W.heap.size W w') (fun i _ => l.length - (intOf i).toNat)
  case atStart => exact ⟨0, rfl, by omega, by simp, Below.refl _ _⟩
  case round =>
    obtain ⟨j, rfl, hj, han, hBj⟩ := hrel
    have han' := Lib.hid han
    have hBj' := Lib.hid hBj
    have hw3 := (hBj.block _ (Array.getElem?_eq_some_iff.1 hnw.out).1).trans hnw.out
    clear han hBj
    by_cases hlj : j < l.length
    · obtain ⟨q, hq0⟩ : ∃ q, l[j]? = some q := ⟨_, List.getElem?_eq_getElem (by omega)⟩
      obtain ⟨ad, u2, rfl, hat2, hru3⟩ := (hq'.out.below hBj'.out).at_ hq0
      obtain ⟨Aq, cq, rfl⟩ := hru3.form
      have hqk := Lib.hid hq0
      have i1 : (j : Int) < (l.length : Int) := by omega
      have i2 : (0 : Int) ≤ (j : Int) := by omega
      have hle2 := load_plan hat2
      have hBb : Below wr.heap.size wr (wr.alloc (.cells #[.string ⟨q.code.toArray⟩, .int .i64 q.urg, .slice Aq q.kinds.length cq] 43)) := (Below.refl _ _).alloc (Nat.le_refl _) _
      have hw4 := (hBb.block _ (Array.getElem?_eq_some_iff.1 hw3).1).trans hw3
      have B4 := Lib.hid (then_ hBj'.out hBb)
      have d0 : (wr.alloc (.cells #[.string ⟨q.code.toArray⟩, .int .i64 q.urg, .slice Aq q.kinds.length cq] 43)).cell? ⟨w.heap.size, 0, none⟩ = some (.string ⟨pc.toArray⟩) := by rw [cell_of_row _ _ 0 _ _ _ hw4]; rfl
      have d1 : (wr.alloc (.cells #[.string ⟨q.code.toArray⟩, .int .i64 q.urg, .slice Aq q.kinds.length cq] 43)).cell? ⟨w.heap.size, 1, none⟩ = some (.int .i64 pu) := by rw [cell_of_row _ _ 1 _ _ _ hw4]; rfl
      clear hq0 hat2 hru3 hBb hw3 hw4
      cases s1 : (q.code == pc) with
      | false =>
        have hst := Lib.hid (show (l.take (j + 1)).any (twin p) = false from by rw [any_take_succ _ hqk.out, han'.out, htw.out, s1]; rfl)
        go_wp2_with (refine wpList_load_list rfl 43 _ rfl (ad.add (j * 3)) rfl [.string ⟨q.code.toArray⟩, .int .i64 q.urg, .slice Aq q.kinds.length cq] hle2 ?_)
        go_roundw
        case rel => exact ⟨j + 1, by go_num, by omega, hst.out, B4.out⟩
        case measure => simp [intOf]; omega
      | true =>
        by_cases s2 : q.urg = pu
        · have s3 : (q.urg == pu) = true := by simp [s2]
          have hr := Lib.hid (show l.any (twin p) = true from List.any_eq_true.2 ⟨q, List.mem_of_getElem? hqk.out, by rw [htw.out, s1, decide_eq_true s2]; rfl⟩)
          clear s2
          go_wp2_with (refine wpList_load_list rfl 43 _ rfl (ad.add (j * 3)) rfl [.string ⟨q.code.toArray⟩, .int .i64 q.urg, .slice Aq q.kinds.length cq] hle2 ?_)
          go_ret
          exact ⟨ret_b hr.out.symm, hB'.out.trans (B4.out.mono hWl)⟩
        · have s3 : (q.urg == pu) = false := by simp [s2]
          have hst := Lib.hid (show (l.take (j + 1)).any (twin p) = false from by rw [any_take_succ _ hqk.out, han'.out, htw.out, decide_eq_false s2]; simp)
          clear s2
          go_wp2_with (refine wpList_load_list rfl 43 _ rfl (ad.add (j * 3)) rfl [.string ⟨q.code.toArray⟩, .int .i64 q.urg, .slice Aq q.kinds.length cq] hle2 ?_)
          go_roundw
          case rel => exact ⟨j + 1, by go_num, by omega, hst.out, B4.out⟩
          case measure => simp [intOf]; omega
    · obtain rfl : j = l.length := by omega
      have hr := Lib.hid (show l.any (twin p) = false from by have h := han'.out; rw [List.take_length] at h; exact h)
      clear hw3
      go_wp2
      go_ret
      exact ⟨ret_b hr.out.symm, hB'.out.trans (hBj'.out.mono hWl)⟩

theorem RP.take {w : World} {A : Option Addr} {c : Nat} {l : List Plan} (h : RP w (.slice A l.length c) l) (k : Nat) (hk : k ≤ l.length) : RP w (.slice A k c) (l.take k) := by
  have hl : (l.take k).length = k := by simp; omega
  rcases h with ⟨e, hn⟩ | ⟨ad, c', e, hcap, hc⟩
  · subst hn
    simp only [Value.slice.injEq] at e
    obtain ⟨rfl, _, rfl⟩ := e
    obtain rfl : k = 0 := by simpa using hk
    exact .inl ⟨rfl, rfl⟩
  · simp only [Value.slice.injEq, true_and] at e
    obtain ⟨rfl, rfl⟩ := e
    refine .inr ⟨ad, c, by rw [hl], by omega, fun j q hj => ?_⟩
    rw [List.getElem?_take] at hj
    split at hj
    · exact hc j q hj
    · cases hj

set_option maxHeartbeats 4000000 in
theorem validPlans_any (l : List Plan) (v : Value) (w : World) (hl : RP w v l) (hin : ∀ p ∈ l, p.code.length ≤ 9223372036854775807 ∧ p.kinds.length ≤ 9223372036854775807) (hlen : l.length ≤ 9223372036854775807) :
    Calls Tryz.prog 24 #[v] w fun r w' => r = .returned (.bool (plansOk [] l)) ∧ Below w.heap.size w w' := by
  obtain ⟨Ap, cp, rfl⟩ := hl.form
  by_cases hbig : 64 < l.length
  · have hr := Lib.hid (show plansOk [] l = false from by
      cases e : plansOk [] l with
      | false => rfl
      | true => have := plansOk_len l [] e (by simp); simp at this; omega)
    have t1 : (64 : Int) < (l.length : Int) := by omega
    go_enter Tryz.func24, Tryz.ntmps24
    go_wp2
    go_ret
    exact ⟨ret_b hr.out.symm, Below.refl _ _⟩
  have t1 : ¬ (64 : Int) < (l.length : Int) := by omega
  have hq' := Lib.hid hl
  have hin' := Lib.hid hin
  clear hl hin
  go_enter Tryz.func24, Tryz.ntmps24
  go_wp2_with fail
  go_loopw [10] (fun i w' => ∃ k : Nat, i = .int .i64 (k : Int) ∧ k ≤ l.length ∧ plansOk [] l = plansOk (l.take k) (l.drop k) ∧ Below w.heap.size w w') (fun i _ => l.length - (intOf i).toNat)
  case atStart => exact ⟨0, rfl, by omega, by rw [List.take_zero, List.drop_zero], Below.refl _ _⟩
  case round =>
    obtain ⟨k, rfl, hk, hpl, hB⟩ := hrel
    have hpl' := Lib.hid hpl
    have hB' := Lib.hid hB
    clear hpl hB
    by_cases hlt : k < l.length
    · obtain ⟨p, hp0⟩ : ∃ p, l[k]? = some p := ⟨_, List.getElem?_eq_getElem hlt⟩
      obtain ⟨ad, u, rfl, hat, hru⟩ := (hq'.out.below hB'.out).at_ hp0
      obtain ⟨Ak, ck, rfl⟩ := hru.form
      have hcap := hq'.out.cap
      have hpin := Lib.hid (hin'.out p (List.mem_of_getElem? hp0))
      have e1 : (k : Int) < (l.length : Int) := by omega
      have e2 : (0 : Int) ≤ (k : Int) := by omega
      have e3 : (k : Int) ≤ (cp : Int) := by omega
      have hle := load_plan hat
      have hstep := Lib.hid (plansOk_at hp0)
      have hBa : Below wr.heap.size wr (wr.alloc (.cells #[.string ⟨p.code.toArray⟩, .int .i64 p.urg, .slice Ak p.kinds.length ck] 43)) := (Below.refl _ _).alloc (Nat.le_refl _) _
      have hru2 := hru.below hBa
      have B2 := then_ hB'.out hBa
      have hnew := heap_alloc_new wr (.cells #[.string ⟨p.code.toArray⟩, .int .i64 p.urg, .slice Ak p.kinds.length ck] 43)
      have hat2 : PAt (wr.alloc (.cells #[.string ⟨p.code.toArray⟩, .int .i64 p.urg, .slice Ak p.kinds.length ck] 43)) ⟨wr.heap.size, 0, none⟩ p (.slice Ak p.kinds.length ck) := ⟨by rw [cell_of_row _ _ 0 _ _ _ hnew]; rfl, by show World.cell? _ ⟨wr.heap.size, 0 + 1, none⟩ = _; rw [cell_of_row _ _ 1 _ _ _ hnew]; rfl, by show World.cell? _ ⟨wr.heap.size, 0 + 2, none⟩ = _; rw [cell_of_row _ _ 2 _ _ _ hnew]; rfl⟩
      have hqs := ((hq'.out.below B2).take k hk)
      clear hp0 hat hru hBa hnew
      go_wp2_with (refine wpList_load_list rfl 43 _ rfl (ad.add (k * 3)) rfl [.string ⟨p.code.toArray⟩, .int .i64 p.urg, .slice Ak p.kinds.length ck] hle ?_)
      clear hle
      generalize wr.alloc (.cells #[.string ⟨p.code.toArray⟩, .int .i64 p.urg, .slice Ak p.kinds.length ck] 43) = V at hru2 B2 hat2 hqs ⊢
      generalize wr.heap.size = gV at hat2 ⊢
      obtain ⟨G, hG1, hG2⟩ := gworlds V
      have hW0 : ∃ q, V.drew = G q := hG2 _ (Below.refl _ _).drew
      have HL := Lib.hid (fun r => load_plan (hat2.below (hG1 r)))
      have HV := Lib.hid (fun r => show Calls Tryz.prog 52 #[.agg #[.string ⟨p.code.toArray⟩, .int .i64 p.urg, .slice Ak p.kinds.length ck]] (G r) (fun e w'' => e = .returned (.bool (planOk p)) ∧ ∃ q : Regrown, w'' = G q) from (validPlan_any p _ (G r) (hru2.below (hG1 r)) hpin.out.1 hpin.out.2).mono fun e w'' ⟨he, hb⟩ => ⟨he, hG2 _ (then_ (hG1 r) hb)⟩)
      have HR := Lib.hid (fun r => show Calls Tryz.prog 53 #[.slice (some ad) k cp, .agg #[.string ⟨p.code.toArray⟩, .int .i64 p.urg, .slice Ak p.kinds.length ck]] (G r) (fun e w'' => e = .returned (.bool ((l.take k).any (twin p))) ∧ ∃ q : Regrown, w'' = G q) from (by
        have h := hasRival_any (l.take k) _ p (.slice Ak p.kinds.length ck) (G r) (hqs.below (hG1 r)) (by rw [List.length_take]; omega)
        exact h.mono fun e w'' ⟨he, hb⟩ => ⟨he, hG2 _ (then_ (hG1 r) hb)⟩))
      have HB := Lib.hid (fun r => then_ B2 (hG1 r))
      clear hG1 hG2 hqs hru2 hat2 B2
      cases hok : planOk p with
      | false =>
        rw [hok] at HV
        have hr := Lib.hid (show plansOk [] l = false from by rw [hpl'.out, hstep.out, hok]; simp)
        clear hok
        refine wp_region_G (G := G) (by kernel_rfl) (by kernel_rfl) hW0 ?_
        repeat (first | go_big_quiet_skip | (go_big_quiet_want; first
          | (refine q_load_list 43 _ ⟨gV, 0, none⟩ [.string ⟨p.code.toArray⟩, .int .i64 p.urg, .slice Ak p.kinds.length ck] rfl rfl HL.out ?_; simp only [Act.put, List.setIfInBounds_toArray, List.set_cons_zero, List.set_cons_succ]; go_big_quiet_on)
          | (go_big_quiet_op; first | go_big_quiet_on | go_big_quiet_call (first | (go_at_call 52; exact HV.out _) | (go_at_call 53; exact HR.out _)))))
        refine wpQuiet_nil ?_
        rintro _ ⟨r, rfl⟩
        go_wp2
        go_ret
        exact ⟨ret_b hr.out.symm, HB.out r⟩
      | true =>
        rw [hok] at HV
        cases hri : (l.take k).any (twin p) with
        | true =>
          rw [hri] at HR
          have hr := Lib.hid (show plansOk [] l = false from by rw [hpl'.out, hstep.out, hok, hri]; simp)
          clear hok hri
          refine wp_region_G (G := G) (by kernel_rfl) (by kernel_rfl) hW0 ?_
          repeat (first | go_big_quiet_skip | (go_big_quiet_want; first
            | (refine q_load_list 43 _ ⟨gV, 0, none⟩ [.string ⟨p.code.toArray⟩, .int .i64 p.urg, .slice Ak p.kinds.length ck] rfl rfl HL.out ?_; simp only [Act.put, List.setIfInBounds_toArray, List.set_cons_zero, List.set_cons_succ]; go_big_quiet_on)
            | (go_big_quiet_op; first | go_big_quiet_on | go_big_quiet_call (first | (go_at_call 52; exact HV.out _) | (go_at_call 53; exact HR.out _)))))
          refine wpQuiet_nil ?_
          rintro _ ⟨r, rfl⟩
          go_wp2
          go_ret
          exact ⟨ret_b hr.out.symm, HB.out r⟩
        | false =>
          rw [hri] at HR
          have hst := Lib.hid (show plansOk [] l = plansOk (l.take (k + 1)) (l.drop (k + 1)) from by rw [hpl'.out, hstep.out, hok, hri, decide_eq_true (show k < 64 from by omega)]; simp)
          clear hok hri
          refine wp_region_G (G := G) (by kernel_rfl) (by kernel_rfl) hW0 ?_
          repeat (first | go_big_quiet_skip | (go_big_quiet_want; first
            | (refine q_load_list 43 _ ⟨gV, 0, none⟩ [.string ⟨p.code.toArray⟩, .int .i64 p.urg, .slice Ak p.kinds.length ck] rfl rfl HL.out ?_; simp only [Act.put, List.setIfInBounds_toArray, List.set_cons_zero, List.set_cons_succ]; go_big_quiet_on)
            | (go_big_quiet_op; first | go_big_quiet_on | go_big_quiet_call (first | (go_at_call 52; exact HV.out _) | (go_at_call 53; exact HR.out _)))))
          refine wpQuiet_nil ?_
          rintro _ ⟨r, rfl⟩
          go_wp2
          go_roundw
          case rel => exact ⟨k + 1, by go_num, by omega, hst.out, HB.out r⟩
          case measure => simp [intOf]; omega
    · obtain rfl : k = l.length := by omega
      have hr := Lib.hid (show plansOk [] l = true from by rw [hpl'.out, List.drop_length]; rfl)
      clear hpl'
      go_wp2
      go_ret
      exact ⟨ret_b hr.out.symm, hB'.out⟩
end Go.Proofs.YtjklpikopgihgaaGreatDoor
