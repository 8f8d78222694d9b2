/- The reference: Parts, the walk. -/
import Derived.Test.YtabciepnbmliiaaDoorW5
set_option linter.unusedVariables false
set_option maxRecDepth 100000
set_option linter.unusedSimpArgs false
namespace Go.Proofs.YtabciepnbmliiaaDoor
open Go.RowKit Go.Lib Rg

set_option maxHeartbeats 4000000 in
theorem rparts_any (A : Option Addr) (c n N : Nat) (l : List Ed3) (w : World) (hr : Re w A n l) (hF : FairR N l) :
    Calls Tryd.prog 31 #[.int .i64 N, .slice A n c] w fun e w' => ∃ v us, e = .returned v ∧ OutU w' w.heap.size v us (parts N l) [] ∧ Below w.heap.size w w' := by
  have hN : N ≤ 4096 := by have := hF.hi; omega
  have hre := Lib.hid hr
  have hFF := Lib.hid hF
  clear hr hF
  go_enter Tryd.func31, Tryd.ntmps31
  go_wp2
  go_loopw [5, 6] (fun v i w' => ∃ k : Nat, i = .int .i64 k ∧ k ≤ N ∧ (∃ us, OutU w' w.heap.size v us ((List.range k).map (fun (n : Nat) => aheadR N l [(n : Int)])) []) ∧ Below w.heap.size w w') (fun _ i _ => N - (RowKit.intOf i).toNat)
  case atStart => exact ⟨0, rfl, by omega, ⟨[], OutU.nil _ _ _⟩, Below.refl _ _⟩
  case round =>
    obtain ⟨k, rfl, hk, ⟨us, hrows⟩, hb⟩ := hrel
    by_cases hlt : k < N
    · obtain ⟨wo, rfl⟩ : ∃ x, x = wr := ⟨_, rfl⟩
      have hul : us.length ≤ 1000000 := by rw [hrows.len, List.length_map, List.length_range]; omega
      have hR := Lib.hid hrows
      have hz := hb.size
      have hb1 := Lib.hid (hb.alloc hb.size (.cells #[.int .i64 k] 3))
      have hC := Lib.hid (rahead_any A (some ⟨wo.heap.size, 0, none⟩) c 1 n 1 N l [(k : Int)] (wo.alloc (.cells #[.int .i64 k] 3)) (hre.out.below hb1.out) (rd_one wo k) hFF.out (by omega))
      have hsucc := Lib.hid (aheads_to N l k)
      have hz1 := hb1.out.size
      generalize aheadR N l [(k : Int)] = P at hC hsucc
      clear hrows hb
      go_wp2_with (first
        | (go_at_call 28; refine hC.out.mono ?_; rintro e w2 ⟨u, rfl, hu, b2⟩; obtain ⟨uA, uc, rfl⟩ := hu.slice; have R2 := Lib.hid (hR.out.to ((Below.refl _ _).alloc (Nat.le_refl _) (.cells #[.int .i64 k] 3) |>.trans (b2.mono (by simp)))); have hu2 := Lib.hid (own_mono hu hz1); have B2 := Lib.hid (hb1.out.trans (b2.mono hz1)); clear hu b2)
        | (at_builtin; refine wpList_pushL _ _ w.heap.size _ us (.slice uA P.length uc) P rfl rfl rfl rfl R2.out.own hu2.out hul B2.out.size ?_; intro v3 w3 hO3 hg3 hn3 hb3; have R3 := Lib.hid ((R2.out.to ((Below.refl _ _).alloc (Nat.le_refl _) (.cells #[.slice uA P.length uc] 42))).push (OwnI.to hu2.out ((Below.refl _ _).alloc (Nat.le_refl _) (.cells #[.slice uA P.length uc] 42))) (by simp) hO3 hg3 hn3); have B3 := Lib.hid (B2.out.trans hb3); clear hO3 hg3 hn3 hb3))
      go_roundw
      case rel => exact ⟨k + 1, by go_num, by omega, ⟨_, by rw [hsucc.out]; exact R3.out⟩, B3.out⟩
      case measure => simp [RowKit.intOf]; omega
    · obtain rfl : k = N := by omega
      obtain ⟨wo, rfl⟩ : ∃ x, x = wr := ⟨_, rfl⟩
      have hA := Lib.hid (show OutU wo w.heap.size u5 us (aheads k l) [] from hrows)
      have hbo := Lib.hid hb
      obtain ⟨VA, vc, hV⟩ := hrows.slice
      simp only [List.length_map, List.length_range] at hV
      subst hV
      clear hrows hb
      go_wp2
      go_loopw [7, 8, 9] (fun vo vd i w' => ∃ m : Nat, i = .int .i64 m ∧ m ≤ k ∧ (∃ us ls ds, pstate k l m = (ls, ds) ∧ OwnI w' wo.heap.size vd ds ∧ OutU w' wo.heap.size vo us ls [vd]) ∧ Below wo.heap.size wo w') (fun _ _ i _ => k - (RowKit.intOf i).toNat)
      case atStart => exact ⟨0, rfl, by omega, ⟨[], [], [], rfl, OwnI.nil _ _, OutU.nil _ _ _⟩, Below.refl _ _⟩
      case round =>
        obtain ⟨m, rfl, hm, ⟨us2, ls, ds, hps, hd, ho⟩, hb⟩ := hrel
        have hz := hb.size
        by_cases hmk : m < k
        · have hfew := pstate_few hFF.out hm
          rw [hps] at hfew
          obtain ⟨hfd, hfl⟩ := hfew
          simp only at hfd hfl
          have hul2 : us2.length ≤ 1000000 := by rw [ho.len]; omega
          obtain ⟨vA, vc2, rfl⟩ := hd.slice
          have hdr := Lib.hid hd.rd
          have hDd := Lib.hid hd
          have hOo := Lib.hid ho
          have hBb := Lib.hid hb
          by_cases hin : (m : Int) ∈ ds
          · have d1 : decide ((m : Int) ∈ ds) = true := decide_eq_true hin
            have hps2 := Lib.hid (pstep_yes hps hin)
            clear hin hps hd ho hb
            go_wp2_with (go_at_call 47; refine (rhas_any _ _ _ _ _ _ hdr.out (by omega)).mono ?_; rintro e w' ⟨rfl, rfl⟩)
            go_roundw
            case rel => exact ⟨m + 1, by go_num, by omega, ⟨us2, ls, ds, hps2.out, hDd.out, hOo.out⟩, hBb.out⟩
            case measure => simp [RowKit.intOf]; omega
          · have d1 : decide ((m : Int) ∈ ds) = false := decide_eq_false hin
            have hps2 := Lib.hid (pstep_no hps hin)
            have hS0 := Lib.hid (show Prt wr wo.heap.size (.slice none 0 0) (.slice vA ds.length vc2) u7 [] ds us2 ls from ⟨OwnI.nil _ _, hd, (apart_nil _).symm, ho.sub (by simp)⟩)
            clear hin hps hd ho hb hDd hOo
            go_wp2_with (go_at_call 47; refine (rhas_any _ _ _ _ _ _ hdr.out (by omega)).mono ?_; rintro e w' ⟨rfl, rfl⟩)
            go_loopw [8, 10, 11] (fun vd vp i w' => ∃ t : Nat, i = .int .i64 t ∧ m ≤ t ∧ t ≤ k ∧ Prt w' wo.heap.size vp vd u7 (clsTo k l m t) (ds ++ clsTo k l m t) us2 ls ∧ Below wo.heap.size wo w') (fun _ _ i _ => k - (RowKit.intOf i).toNat)
            case atStart => exact ⟨m, rfl, by omega, by omega, by rw [clsTo_zero, List.append_nil]; exact hS0.out, hBb.out⟩
            case round =>
              clear hS0 hBb hdr
              obtain ⟨t, rfl, hmt, htk, hS, hb3⟩ := hrel
              have hz3 := hb3.size
              by_cases htN : t < k
              · obtain ⟨ad, B1, q1, hVA, hc1, hr1'⟩ := (hA.out.to hb3).at_ (aheads_at hmk)
                subst hVA
                obtain ⟨ad2, B2, q2, hVA2, hc2, hr2'⟩ := (hA.out.to hb3).at_ (aheads_at htN)
                obtain rfl : ad = ad2 := by injection hVA2
                have hsucc := clsTo_succ k l m t hmt
                have hcl := clsTo_length k l m t
                have hf1 := ahead_few (N := k) (l := l) [(m : Int)]
                have hf2 := ahead_few (N := k) (l := l) [(t : Int)]
                have hbt : both k l m t = (decide ((t : Int) ∈ aheadR k l [(m : Int)]) && decide ((m : Int) ∈ aheadR k l [(t : Int)])) := rfl
                rw [hbt] at hsucc
                have hr1 := Lib.hid hr1'
                have hr2 := Lib.hid hr2'
                have hSS := Lib.hid hS
                have hBB := Lib.hid hb3
                clear hbt hr1' hr2' hS hb3 hVA2
                generalize aheadR k l [(m : Int)] = P1 at hc1 hr1 hsucc hf1
                generalize aheadR k l [(t : Int)] = P2 at hc2 hr2 hsucc hf2
                generalize clsTo k l m t = PS at hSS hsucc hcl
                have hl1 : PS.length ≤ 1000000 := by omega
                have hl2 : (ds ++ PS).length ≤ 1000000 := by rw [List.length_append]; omega
                have happ := Lib.hid (List.append_assoc ds PS [(t : Int)])
                generalize hDS : ds ++ PS = DS at hSS hl2 happ
                have hDSh := Lib.hid hDS
                clear hDS
                by_cases u1 : (t : Int) ∈ P1
                · have e1 : decide ((t : Int) ∈ P1) = true := decide_eq_true u1
                  by_cases u2 : (m : Int) ∈ P2
                  · have e2 : decide ((m : Int) ∈ P2) = true := decide_eq_true u2
                    rw [e1, e2] at hsucc
                    have hsc : Hid (clsTo k l m (t + 1) = PS ++ [(t : Int)]) := Lib.hid (by simpa using hsucc)
                    clear hsucc u1 u2
                    obtain ⟨pA, pc, rfl⟩ := hSS.out.p.slice
                    obtain ⟨dA, dc, rfl⟩ := hSS.out.d.slice
                    go_wp2_with (first
                      | (go_at_call_of 47 (Value.int IntKind.i64 (t : Int)); refine (rhas_any _ _ _ _ _ _ hr1.out (by omega)).mono ?_; rintro e w' ⟨rfl, rfl⟩)
                      | (go_at_call_of 47 (Value.int IntKind.i64 (m : Int)); refine (rhas_any _ _ _ _ _ _ hr2.out (by omega)).mono ?_; rintro e w' ⟨rfl, rfl⟩)
                      | (at_builtin; first
                        | (refine wpList_push2 _ _ wo.heap.size _ DS t rfl rfl rfl rfl S2.out.d hl2 B2'.out.size ?_; intro v3 w3 hO3 hg3 hn3 hb4; have S3 := Lib.hid ((S2.out.to ((Below.refl _ _).alloc (Nat.le_refl _) (.cells #[.int .i64 t] 3))).grow_d hO3 hg3 hn3); have B3' := Lib.hid (B2'.out.trans hb4); clear hO3 hg3 hn3 hb4)
                        | (refine wpList_push2 _ _ wo.heap.size _ PS t rfl rfl rfl rfl hSS.out.p hl1 hz3 ?_; intro v2 w2 hO2 hg2 hn2 hb2; have S2 := Lib.hid ((hSS.out.to ((Below.refl _ _).alloc (Nat.le_refl _) (.cells #[.int .i64 t] 3))).grow_p hO2 hg2 hn2); have B2' := Lib.hid (hBB.out.trans hb2); clear hO2 hg2 hn2 hb2)))
                    go_roundw
                    case rel => exact ⟨t + 1, by go_num, by omega, by omega, by rw [hsc.out, ← happ.out]; exact S3.out, B3'.out⟩
                    case measure => simp [RowKit.intOf]; omega
                  · have e2 : decide ((m : Int) ∈ P2) = false := decide_eq_false u2
                    rw [e1, e2] at hsucc
                    have hsc : Hid (clsTo k l m (t + 1) = PS) := Lib.hid (by simpa using hsucc)
                    clear hsucc u1 u2
                    go_wp2_with (first
                      | (go_at_call_of 47 (Value.int IntKind.i64 (t : Int)); refine (rhas_any _ _ _ _ _ _ hr1.out (by omega)).mono ?_; rintro e w' ⟨rfl, rfl⟩)
                      | (go_at_call_of 47 (Value.int IntKind.i64 (m : Int)); refine (rhas_any _ _ _ _ _ _ hr2.out (by omega)).mono ?_; rintro e w' ⟨rfl, rfl⟩))
                    go_roundw
                    case rel => exact ⟨t + 1, by go_num, by omega, by omega, by rw [hsc.out, hDSh.out]; exact hSS.out, hBB.out⟩
                    case measure => simp [RowKit.intOf]; omega
                · have e1 : decide ((t : Int) ∈ P1) = false := decide_eq_false u1
                  rw [e1] at hsucc
                  have hsc : Hid (clsTo k l m (t + 1) = PS) := Lib.hid (by simpa using hsucc)
                  clear hsucc u1
                  go_wp2_with (go_at_call_of 47 (Value.int IntKind.i64 (t : Int)); refine (rhas_any _ _ _ _ _ _ hr1.out (by omega)).mono ?_; rintro e w' ⟨rfl, rfl⟩)
                  go_roundw
                  case rel => exact ⟨t + 1, by go_num, by omega, by omega, by rw [hsc.out, hDSh.out]; exact hSS.out, hBB.out⟩
                  case measure => simp [RowKit.intOf]; omega
              · obtain rfl : t = k := by omega
                rw [clsTo_all] at hS
                have hSS := Lib.hid hS
                have hBB := Lib.hid hb3
                generalize cls t l m = P at hSS hps2
                clear hS hb3
                obtain ⟨pA, pc, rfl⟩ := hSS.out.p.slice
                go_wp2_with (at_builtin; refine wpList_pushL _ _ wo.heap.size _ us2 (.slice pA P.length pc) P rfl rfl rfl rfl hSS.out.o.own hSS.out.p hul2 hz3 ?_; intro v3 w3 hO3 hg3 hn3 hb4; have S2 := hSS.out.to ((Below.refl _ _).alloc (Nat.le_refl _) (.cells #[.slice pA P.length pc] 42)); have D3 := Lib.hid (apart_grown S2.d (apart_type S2.d S2.o.own (by decide)) hg3 hn3).1; have R3 := Lib.hid ((S2.o.sub (Y := [_]) (by intro y hy; left; rw [List.mem_singleton] at hy; subst hy; exact List.mem_cons_of_mem _ (List.mem_singleton.2 rfl))).push S2.p (by intro x hx; rw [List.mem_singleton] at hx; subst hx; exact S2.a) hO3 hg3 hn3); have B3 := Lib.hid (hBB.out.trans hb4); clear S2 hO3 hg3 hn3 hb4)
                go_roundw
                case rel => exact ⟨m + 1, by go_num, by omega, ⟨_, _, _, hps2.out, D3.out, R3.out⟩, B3.out⟩
                case measure => simp [RowKit.intOf]; omega
        · obtain rfl : m = k := by omega
          have hfin : parts m l = ls := by unfold parts; rw [hps]
          have hF2 := Lib.hid hfin
          have hOo := Lib.hid ho
          have hBb := Lib.hid hb
          clear hfin ho hb hd hps
          go_wp2
          go_ret
          exact ⟨_, us2, rfl, by rw [hF2.out]; exact hOo.out.mono hbo.out.size, hbo.out.trans (hBb.out.mono hbo.out.size)⟩
end Go.Proofs.YtabciepnbmliiaaDoor
