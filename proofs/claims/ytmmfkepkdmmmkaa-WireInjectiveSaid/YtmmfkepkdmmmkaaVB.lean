/- The law WireInjective. -/
import Derived.Test.YtmmfkepkdmmmkaaV9
set_option linter.unusedVariables false
set_option linter.unusedSimpArgs false
namespace Go.Proofs.Ytmmfkepkdmmmkaa
open Go.RowKit Go.Lib Wr

def aK (l m : List Th) (k : Nat) : Bool := decide (l.length = m.length) && decide ((l.take k).map only = (m.take k).map only)
def kK (l m : List Th) (k : Nat) : Bool := decide (l.length = m.length) && decide ((l.take k).map (·.k) = (m.take k).map (·.k))
theorem snoc_iff {α : Type} (a b : List α) (x y : α) : a ++ [x] = b ++ [y] ↔ a = b ∧ x = y := by
  constructor
  · intro h
    obtain ⟨h1, h2⟩ := List.append_inj' h rfl
    exact ⟨h1, by simpa using h2⟩
  · rintro ⟨rfl, rfl⟩; rfl
theorem map_take_snoc {α β : Type} (f : α → β) {l : List α} {k : Nat} {t : α} (h : l[k]? = some t) : (l.take (k + 1)).map f = (l.take k).map f ++ [f t] := by
  rw [List.take_add_one, h]; simp
theorem aK_succ {l m : List Th} {k : Nat} {t t' : Th} (h : l[k]? = some t) (h' : m[k]? = some t') : aK l m (k + 1) = (aK l m k && decide (only t = only t')) := by
  unfold aK
  rw [map_take_snoc only h, map_take_snoc only h', Bool.and_assoc]
  congr 1
  rw [Bool.eq_iff_iff]
  simp only [Bool.and_eq_true, decide_eq_true_eq]
  exact snoc_iff _ _ _ _
theorem kK_succ {l m : List Th} {k : Nat} {t t' : Th} (h : l[k]? = some t) (h' : m[k]? = some t') : kK l m (k + 1) = (kK l m k && (t.k == t'.k)) := by
  unfold kK
  rw [map_take_snoc (·.k) h, map_take_snoc (·.k) h', Bool.and_assoc]
  congr 1
  rw [Bool.eq_iff_iff]
  simp only [Bool.and_eq_true, decide_eq_true_eq, beq_iff_eq]
  exact snoc_iff _ _ _ _
theorem aK_zero (l m : List Th) : aK l m 0 = decide (l.length = m.length) := by simp [aK]
theorem kK_zero (l m : List Th) : kK l m 0 = decide (l.length = m.length) := by simp [kK]
theorem inj_key {l m : List Th} (hl : ∀ t ∈ l, WfT t) (hm : ∀ t ∈ m, WfT t) {k : Nat} (hk : ¬ (k < l.length ∧ k < m.length)) (h1 : k ≤ l.length) (h2 : k ≤ m.length) (hq : kK l m k = true) : (Wr.all l == Wr.all m) = aK l m k := by
  unfold kK at hq
  simp only [Bool.and_eq_true, decide_eq_true_eq] at hq
  obtain ⟨e1, e2⟩ := hq
  have hkl : k = l.length := by omega
  have el : l.take k = l := List.take_of_length_le (by omega)
  have em : m.take k = m := List.take_of_length_le (by omega)
  rw [el, em] at e2
  unfold aK
  rw [el, em, decide_eq_true e1, Bool.true_and, Bool.eq_iff_iff]
  simp only [beq_iff_eq, decide_eq_true_eq]
  exact ⟨fun h => all_inj hl hm e2 h, fun h => all_only h⟩

/-- A slice of bytes of one's own that may be written to. -/
def Told (w : World) (base : Nat) (A : Option Addr) (n : Nat) : Prop := ∀ j, j < n → ∃ g : Nat, A = some ⟨g, 0, none⟩ ∧ base ≤ g ∧ ∃ z : Nat, z < 256 ∧ w.cell? ⟨g, j, none⟩ = some (.int .u8 (z : Int)) ∧ w.frozen? ⟨g, j, none⟩ = false
theorem told_of {w : World} {base : Nat} {A : Option Addr} {c : Nat} {l : Bs} (h : OwnB w base (.slice A l.length c) l) : Told w base A l.length := fun j hj => by
  have h0 := h
  rcases h.2 with ⟨h1, h2⟩ | ⟨g, cap, cur, e, hb, _⟩
  · omega
  · injection e with e1 e2 e3
    subst e1
    refine ⟨g, rfl, hb, l[j].toNat, l[j].toNat_lt, ?_, World.ownsRow.frozenAt h0 j⟩
    rw [World.ownsRow.cellAt h0 j (by omega)]
    simp [bcs, hj]
theorem Told.store {w : World} {base g j n z' : Nat} (h : Told w base (some ⟨g, 0, none⟩) n) (hj : j < n) (hz : z' < 256) : Told (w.setCell ⟨g, j, none⟩ (.int .u8 (z' : Int))) base (some ⟨g, 0, none⟩) n := fun i hi => by
  obtain ⟨g', e, hb, z, hz1, hc, hf⟩ := h i hi
  injection e with e; injection e with e; subst e
  refine ⟨g, rfl, hb, ?_⟩
  by_cases hij : i = j
  · subst hij
    exact ⟨z', hz, World.cell?_setCell_same _ _ _ hc, by rw [World.frozen?_setCell]; exact hf⟩
  · exact ⟨z, hz1, (World.cell?_setCell_other _ _ _ _ (by intro e; injection e with _ e _; omega)).trans hc, by rw [World.frozen?_setCell]; exact hf⟩

set_option maxRecDepth 100000 in
set_option maxHeartbeats 8000000 in
theorem lawInj' (A B : Option Addr) (c d : Nat) (l m : List Th) (nl nm : Nat) (W : World) (hrl : Hid (RT W A l)) (hrm : Hid (RT W B m)) (hwl : Hid (∀ t ∈ l, WfT t)) (hwm : Hid (∀ t ∈ m, WfT t)) (hcostl : Hid (cost l ≤ 400)) (hcostm : Hid (cost m ≤ 400)) (hnl : Hid (l.length = nl)) (hnm : Hid (m.length = nm))
    (hnl4 : nl ≤ 400) (hnm4 : nm ≤ 400) (bl bm : Bs) (hbl : Hid (Wr.all l = bl)) (hbm : Hid (Wr.all m = bm)) (hall : Hid ((Wr.all l).length ≤ 4000)) (hbl5 : Hid (bl.length ≤ 100000))
    (HFl : Hid (∀ w', Below W.heap.size W w' → Calls Try.prog 16 #[.slice A nl c] w' fun r w'' => r = .returned (.bool true) ∧ Below w'.heap.size w' w''))
    (HFm : Hid (∀ w', Below W.heap.size W w' → Calls Try.prog 16 #[.slice B nm d] w' fun r w'' => r = .returned (.bool true) ∧ Below w'.heap.size w' w''))
    (HAl : Hid (∀ w', Below W.heap.size W w' → Calls Try.prog 17 #[.slice A nl c] w' fun r w'' => ∃ v, r = .returned v ∧ OwnB w'' w'.heap.size v bl ∧ Below w'.heap.size w' w''))
    (HAm : Hid (∀ w', Below W.heap.size W w' → Calls Try.prog 17 #[.slice B nm d] w' fun r w'' => ∃ v, r = .returned v ∧ OwnB w'' w'.heap.size v bm ∧ Below w'.heap.size w' w''))
    (HRl : Hid (∀ w', Below W.heap.size W w' → Calls Try.prog 22 #[.slice A nl c] w' fun r w'' => ∃ v, r = .returned v ∧ OwnB w'' w'.heap.size v bl ∧ Below w'.heap.size w' w''))
    (e0 : Bool) (he0 : Hid (decide (l.length = m.length) = e0)) (h1 : ((nl : Int) == (nm : Int)) = e0) (h2 : (nl == nm) = e0) (h3 : decide (nl = nm) = e0) (h4 : decide ((nl : Int) = (nm : Int)) = e0) :
    Calls Try.prog 8 #[.slice A nl c, .slice B nm d] W fun r w' => r = .returned (.bool true) ∧ Below W.heap.size W w' := by
  go_enter Try.func8, Try.ntmps8
  go_wp2_with fail
  refine (awake_any _).mono ?_
  rintro r w1 ⟨rfl, b1⟩
  go_wp2_with fail
  refine (HFl.out w1 b1).mono ?_
  rintro r w2 ⟨rfl, b2⟩
  have B2 := then_ b1 b2
  go_wp2_with fail
  refine (HFm.out w2 B2).mono ?_
  rintro r w3 ⟨rfl, b3⟩
  have B3 := Lib.hid (then_ B2 b3)
  clear b1 b2 b3 B2
  go_wp2_with fail
  go_loopw [5, 6, 7] (fun al ki i w' => ∃ k : Nat, i = .int .i64 (k : Int) ∧ k ≤ nl ∧ k ≤ nm ∧ al = .bool (aK l m k) ∧ ki = .bool (kK l m k) ∧ Below W.heap.size W w') (fun _ _ i _ => nl - (intOf i).toNat)
  case atStart => exact ⟨0, rfl, by omega, by omega, by rw [aK_zero, he0.out], by rw [kK_zero, he0.out], B3.out⟩
  case round =>
    obtain ⟨k, rfl, hk, hkm, rfl, rfl, B4⟩ := hrel
    clear B3 h1 h2 h3 h4
    have HBx := Lib.hid B4
    by_cases hlt : k < nl ∧ k < nm
    · obtain ⟨hlt1, hlt2⟩ := hlt
      obtain ⟨t, ht⟩ : ∃ t, l[k]? = some t := ⟨_, List.getElem?_eq_getElem (by have := hnl.out; omega)⟩
      obtain ⟨t', ht'⟩ : ∃ t, m[k]? = some t := ⟨_, List.getElem?_eq_getElem (by have := hnm.out; omega)⟩
      obtain ⟨ad, u, rfl, hat, hru⟩ := hrl.out.at_ ht
      obtain ⟨ua, uc, rfl⟩ := hru.form
      obtain ⟨ad', u', rfl, hat', hru'⟩ := hrm.out.at_ ht'
      obtain ⟨ua', uc', rfl⟩ := hru'.form
      have e1 : (k : Int) < (nl : Int) := by omega
      have e2 : (k : Int) < (nm : Int) := by omega
      have e3 : (0 : Int) ≤ (k : Int) := by omega
      have ha' := aK_succ ht ht'
      have hk' := kK_succ ht ht'
      have hol : (only t).l.length ≤ 1000000 := by have := only_l t; have := cost_mem ht; have := hcostl.out; omega
      obtain ⟨G, hG1, hG2⟩ : ∃ G : Regrown → World, (∀ r, Below wr.heap.size wr (G r)) ∧ (∀ w', Below wr.heap.size wr w' → ∃ r, w' = G r) := ⟨fun p => Sort.grow (redrawn wr p.d) p.os, fun r => below_regrown wr r.d r.os, fun w' h => regrown_of_below h⟩
      have hW0 : ∃ q, wr.drew = G q := hG2 _ (Below.refl _ _).drew
      have HDR := Lib.hid (show ∀ r, ∃ q, (G r).drew = G q from fun r => hG2 _ (hG1 r).drew)
      have HB := Lib.hid (fun r => then_ B4 (hG1 r))
      have H1 := Lib.hid (fun r => hat.below (HB.out r))
      have H2 := Lib.hid (fun r => hat'.below (HB.out r))
      have hc1 : ∀ r, (G r).cell? (ad.add (k * 5)) = some (.int .i64 t.k) := fun r => (hat.below (HB.out r)).1
      have hc2 : ∀ r, (G r).cell? (ad'.add (k * 5)) = some (.int .i64 t'.k) := fun r => (hat'.below (HB.out r)).1
      obtain ⟨ov, hov⟩ : ∃ ov, onV t (.slice ua t.l.length uc) = ov := ⟨_, rfl⟩
      obtain ⟨ov', hov'⟩ : ∃ ov, onV t' (.slice ua' t'.l.length uc') = ov := ⟨_, rfl⟩
      have HO1 := Lib.hid (fun r => show Calls Try.prog 18 #[.agg #[.int .i64 t.k, .int .i64 t.n, .bool t.b, .string ⟨t.d.toArray⟩, .slice ua t.l.length uc]] (G r) (fun e w'' => e = .returned ov ∧ ∃ q : Regrown, w'' = G q) from (ronly_is t (.slice ua t.l.length uc) (G r) (hru.below (HB.out r))).mono fun e w'' ⟨he, hb⟩ => ⟨hov ▸ he, hG2 _ (then_ (hG1 r) hb)⟩)
      have HO2 := Lib.hid (fun r => show Calls Try.prog 18 #[.agg #[.int .i64 t'.k, .int .i64 t'.n, .bool t'.b, .string ⟨t'.d.toArray⟩, .slice ua' t'.l.length uc']] (G r) (fun e w'' => e = .returned ov' ∧ ∃ q : Regrown, w'' = G q) from (ronly_is t' (.slice ua' t'.l.length uc') (G r) (hru'.below (HB.out r))).mono fun e w'' ⟨he, hb⟩ => ⟨hov' ▸ he, hG2 _ (then_ (hG1 r) hb)⟩)
      obtain ⟨sm, hsm⟩ : ∃ sm, decide (only t = only t') = sm := ⟨_, rfl⟩
      have HS := Lib.hid (fun r => show Calls Try.prog 11 #[ov, ov'] (G r) (fun e w'' => e = .returned (.bool sm) ∧ ∃ q : Regrown, w'' = G q) from (rsame_any (only t) (only t') ov ov' (G r) (hov ▸ onV_th (hru.below (HB.out r))) (hov' ▸ onV_th (hru'.below (HB.out r))) hol).mono fun e w'' ⟨he, hb⟩ => ⟨by rw [he, hsm], hG2 _ (then_ (hG1 r) hb)⟩)
      rw [hsm] at ha'
      obtain ⟨ek, hek⟩ : ∃ ek, (t.k == t'.k) = ek := ⟨_, rfl⟩
      rw [hek] at hk'
      have hek2 : decide (t.k = t'.k) = ek := by rw [← hek]; rfl
      clear hG1 hG2 B4 ht ht' hat hat' hru hru' hov hov' hsm hol
      cases haa : aK l m k with
      | true =>
        go_wp2_with fail
        rw [haa] at ha'
        have ha' := Lib.hid ha'
        refine wp_region_G (G := G) (by kernel_rfl) (by kernel_rfl) hW0 ?_
        repeat (first | go_big_quiet_skip | (go_big_quiet_want; first
          | (refine q_load_thing _ (ad.add (k * 5)) t (.slice ua t.l.length uc) rfl rfl H1.out ?_; simp only [Act.put, List.setIfInBounds_toArray, List.set_cons_zero, List.set_cons_succ]; go_big_quiet_on)
          | (go_big_quiet_op; go_big_quiet_on)))
        go_big_quiet_want
        go_big_quiet_op
        go_big_quiet_call ((go_at_call 18; exact HO1.out _))
        repeat (first | go_big_quiet_skip | (go_big_quiet_want; first
          | (refine q_load_thing _ (ad'.add (k * 5)) t' (.slice ua' t'.l.length uc') rfl rfl H2.out ?_; simp only [Act.put, List.setIfInBounds_toArray, List.set_cons_zero, List.set_cons_succ]; go_big_quiet_on)
          | (go_big_quiet_op; go_big_quiet_on)))
        go_big_quiet_want
        go_big_quiet_op
        go_big_quiet_call ((go_at_call 18; exact HO2.out _))
        repeat (first | go_big_quiet_skip | (go_big_quiet_want; first
          | (go_big_quiet_op; go_big_quiet_on)))
        go_big_quiet_want
        go_big_quiet_op
        go_big_quiet_call ((go_at_call 11; exact HS.out _))
        repeat (first | go_big_quiet_skip | (go_big_quiet_want; first
          | (go_big_quiet_op; go_big_quiet_on)))
        refine wpQuiet_nil ?_
        rintro _ ⟨r, rfl⟩
        go_wp2_with fail
        cases hqq : kK l m k with
        | true =>
          rw [hqq] at hk'
          have hk' := Lib.hid hk'
          refine wp_region_G (G := G) (by kernel_rfl) (by kernel_rfl) (HDR.out r) ?_
          repeat (first | go_big_quiet_skip | (go_big_quiet_want; first
            | (go_big_quiet_op; go_big_quiet_on)))
          refine wpQuiet_nil ?_
          rintro _ ⟨r2, rfl⟩
          have Bend := Lib.hid (HB.out r2)
          clear hc1 hc2
          go_wp2
          go_roundw
          case rel => exact ⟨k + 1, by go_num, by omega, by omega, by rw [ha'.out]; rfl, by rw [hk'.out]; rfl, Bend.out⟩
          case measure => simp [intOf]; omega
        | false =>
          rw [hqq] at hk'
          have hk' := Lib.hid hk'
          refine wp_region_G (G := G) (by kernel_rfl) (by kernel_rfl) (HDR.out r) ?_
          repeat (first | go_big_quiet_skip | (go_big_quiet_want; first
            | (go_big_quiet_op; go_big_quiet_on)))
          refine wpQuiet_nil ?_
          rintro _ ⟨r2, rfl⟩
          have Bend := Lib.hid (HB.out r2)
          clear hc1 hc2
          go_wp2
          go_roundw
          case rel => exact ⟨k + 1, by go_num, by omega, by omega, by rw [ha'.out]; rfl, by rw [hk'.out]; rfl, Bend.out⟩
          case measure => simp [intOf]; omega
      | false =>
        go_wp2_with fail
        rw [haa] at ha'
        have ha' := Lib.hid ha'
        refine wp_region_G (G := G) (by kernel_rfl) (by kernel_rfl) hW0 ?_
        repeat (first | go_big_quiet_skip | (go_big_quiet_want; first
          | (go_big_quiet_op; go_big_quiet_on)))
        refine wpQuiet_nil ?_
        rintro _ ⟨r, rfl⟩
        go_wp2_with fail
        cases hqq : kK l m k with
        | true =>
          rw [hqq] at hk'
          have hk' := Lib.hid hk'
          refine wp_region_G (G := G) (by kernel_rfl) (by kernel_rfl) (HDR.out r) ?_
          repeat (first | go_big_quiet_skip | (go_big_quiet_want; first
            | (go_big_quiet_op; go_big_quiet_on)))
          refine wpQuiet_nil ?_
          rintro _ ⟨r2, rfl⟩
          have Bend := Lib.hid (HB.out r2)
          clear hc1 hc2
          go_wp2
          go_roundw
          case rel => exact ⟨k + 1, by go_num, by omega, by omega, by rw [ha'.out]; rfl, by rw [hk'.out]; rfl, Bend.out⟩
          case measure => simp [intOf]; omega
        | false =>
          rw [hqq] at hk'
          have hk' := Lib.hid hk'
          refine wp_region_G (G := G) (by kernel_rfl) (by kernel_rfl) (HDR.out r) ?_
          repeat (first | go_big_quiet_skip | (go_big_quiet_want; first
            | (go_big_quiet_op; go_big_quiet_on)))
          refine wpQuiet_nil ?_
          rintro _ ⟨r2, rfl⟩
          have Bend := Lib.hid (HB.out r2)
          clear hc1 hc2
          go_wp2
          go_roundw
          case rel => exact ⟨k + 1, by go_num, by omega, by omega, by rw [ha'.out]; rfl, by rw [hk'.out]; rfl, Bend.out⟩
          case measure => simp [intOf]; omega
    · have hkey := Lib.hid (show kK l m k = true → (bl == bm) = aK l m k from fun hq => by
        rw [← hbl.out, ← hbm.out]
        have a1 := hnl.out
        have a2 := hnm.out
        exact inj_key hwl.out hwm.out (by omega) (by omega) (by omega) hq)
      clear B4
      by_cases hlt1 : k < nl
      rotate_left
      · have e1 : ¬ (k : Int) < (nl : Int) := by omega
        cases hqq : kK l m k with
        | false =>
          have ha9 := HBx.out
          obtain ⟨G, hG1, hG2⟩ : ∃ G : Regrown → World, (∀ r, Below wr.heap.size wr (G r)) ∧ (∀ w', Below wr.heap.size wr w' → ∃ r, w' = G r) := ⟨fun p => Sort.grow (redrawn wr p.d) p.os, fun r => below_regrown wr r.d r.os, fun w' h => regrown_of_below h⟩
          have hW0 : ∃ q, wr.drew = G q := hG2 _ (Below.refl _ _).drew
          have HB := Lib.hid (fun r => then_ ha9 (hG1 r))
          clear hG1 hG2 ha9
          go_wp2_with fail
          refine wp_region_G (G := G) (by kernel_rfl) (by kernel_rfl) hW0 ?_
          repeat (first | go_big_quiet_skip | (go_big_quiet_want; first
            | (go_big_quiet_op; go_big_quiet_on)))
          refine wpQuiet_nil ?_
          rintro _ ⟨r, rfl⟩
          have Bz := HB.out r
          have hWg : W.heap.size ≤ (G r).heap.size := Bz.size
          generalize G r = wz at Bz hWg ⊢

          have hP0 := WrP.zero wz (Nat.le_refl _)
          have hB0 : Below wz.heap.size wz (wz.alloc (.cells wrZero 46)) := (Below.refl _ _).alloc (Nat.le_refl _) _
          unfold wrZero at hP0 hB0
          have hP0' := Lib.hid hP0
          have B0 := Lib.hid (then_ Bz hB0)
          have hsz0 := hB0.size
          clear hP0 hB0 Bz
          go_wp2_with fail
          generalize wz.heap.size = gw at hP0' hsz0 hWg ⊢
          go_loopw [90] (fun i w' => ∃ k : Nat, i = .int .i64 (k : Int) ∧ k ≤ nl ∧ WrP w' gw gw (Wr.all (l.take k)) ∧ Below W.heap.size W w' ∧ gw ≤ w'.heap.size) (fun i _ => nl - (intOf i).toNat)
          case atStart => exact ⟨0, rfl, by omega, hP0'.out, B0.out, hsz0⟩
          case round =>
            obtain ⟨k, rfl, hk, hP, hB, hgw⟩ := hrel
            clear hP0' B0 hsz0
            have hkl : (Wr.all (l.take k)).length ≤ 10000 := by
              have h1 := congrArg List.length (all_split l k)
              rw [List.length_append] at h1
              have h2 := hall.out
              omega
            have hP' := Lib.hid hP
            have hB' := Lib.hid hB
            clear hP hB
            by_cases hlt : k < nl
            · obtain ⟨t, ht⟩ : ∃ t, l[k]? = some t := ⟨_, List.getElem?_eq_getElem (by have := hnl.out; omega)⟩
              obtain ⟨ad, u, rfl, hatW, hruW⟩ := hrl.out.at_ ht
              obtain ⟨ua, uc, rfl⟩ := hruW.form
              have hat := hatW.below hB'.out
              have hwt := hwl.out t (List.mem_of_getElem? ht)
              have hct := cost_mem ht
              have hcl := hcostl.out
              have e1 : (k : Int) < (nl : Int) := by omega
              have e2 : (0 : Int) ≤ (k : Int) := by omega
              have hst := Lib.hid (all_take ht)
              have hBa : Below wr.heap.size wr (wr.alloc (.cells #[.int .i64 t.k, .int .i64 t.n, .bool t.b, .string ⟨t.d.toArray⟩, .slice ua t.l.length uc] 33)) := (Below.refl _ _).alloc (Nat.le_refl _) _
              have hB2 := Lib.hid (then_ hB'.out hBa)
              have hru2 := Lib.hid (hruW.below hB2.out)
              have hP2 := Lib.hid (hP'.out.below hBa)
              have hgw2 : gw ≤ (wr.alloc (.cells #[.int .i64 t.k, .int .i64 t.n, .bool t.b, .string ⟨t.d.toArray⟩, .slice ua t.l.length uc] 33)).heap.size := Nat.le_trans hgw hBa.size
              clear ht hruW hatW hBa
              go_wp2_with (refine wpList_load_thing rfl _ rfl (ad.add (k * 5)) rfl t (.slice ua t.l.length uc) hat ?_)
              refine (write_any gw gw (Wr.all (l.take k)) t (.slice ua t.l.length uc) _ hP2.out hgw2 hwt hru2.out (by omega) (by omega) (by omega)).mono ?_
              rintro r w3 ⟨⟨u3, rfl⟩, H3, b3⟩
              rw [← hst.out] at H3
              have hkl2 : (Wr.all (l.take (k + 1))).length ≤ 20000 := by
                have h1 := congrArg List.length (all_split l (k + 1))
                rw [List.length_append] at h1
                have h2 := hall.out
                omega
              have H3' := Lib.hid H3
              have B3 := Lib.hid (hB2.out.trans (b3.mono (show W.heap.size ≤ gw from hWg)))
              have hs3 : gw ≤ w3.heap.size := Nat.le_trans hgw2 b3.size
              clear H3 b3 hP2 hB2 hP' hB' hgw2
              go_wp2_with fail
              refine (pencoded_any gw gw (Wr.all (l.take (k + 1))) w3 H3'.out (by omega)).mono ?_
              rintro r w4 ⟨v4, rfl, O4, b4⟩
              obtain ⟨A4, c4, rfl⟩ := O4.form
              have T4 := Lib.hid (told_of O4)
              have b4' := Lib.hid b4
              have hkl3 := Lib.hid hkl2
              generalize (Wr.all (l.take (k + 1))).length = n4 at T4 hkl2
              clear O4 b4
              go_wp2_with fail
              go_loopw [99] (fun i w' => ∃ j : Nat, i = .int .i64 (j : Int) ∧ j ≤ n4 ∧ Told w' w3.heap.size A4 n4 ∧ Below w3.heap.size w3 w') (fun i _ => n4 - (intOf i).toNat)
              case atStart => exact ⟨0, rfl, by omega, T4.out, b4'.out⟩
              case round =>
                obtain ⟨j, rfl, hj, T5, b5⟩ := hrel
                clear T4 b4'
                by_cases hlj : j < n4
                · obtain ⟨g, rfl, hgb, z, hz, hc, hf⟩ := T5 j hlj
                  have T5' := Lib.hid T5
                  have b5' := Lib.hid b5
                  have j1 : (j : Int) < (n4 : Int) := by omega
                  have j2 : (0 : Int) ≤ (j : Int) := by omega
                  obtain ⟨z', hzz⟩ : ∃ z' : Nat, (z + 1) % 256 = z' := ⟨_, rfl⟩
                  have hz1 : ((z : Int) + 1) % 256 = (z' : Int) := by omega
                  have hz2 : z' < 256 := by omega
                  clear T5 b5 hzz
                  go_wp2
                  go_roundw
                  case rel => exact ⟨j + 1, by go_num, by omega, T5'.out.store hlj hz2, b5'.out.setCell (p := ⟨g, j, none⟩) hgb _⟩
                  case measure => simp [intOf]; omega
                · obtain rfl : j = n4 := by omega
                  have hend := Lib.hid (And.intro (H3'.out.below b5) (And.intro (then_ B3.out b5) (Nat.le_trans hs3 b5.size)))
                  clear T5 b5
                  go_wp2
                  go_roundw
                  case rel => exact ⟨k + 1, by go_num, by omega, hend.out⟩
                  case measure => simp [intOf]; omega
            · obtain rfl : k = nl := by omega
              have hPl : WrP wr gw gw bl := by
                have h := hP'.out
                rw [← hnl.out, List.take_length, hbl.out] at h
                exact h
              have hPl' := Lib.hid hPl
              have hb0 : Below wr.heap.size wr wr.drew := (Below.refl _ _).drew
              have hWr : W.heap.size ≤ wr.heap.size := hB'.out.size
              clear hPl hP'
              go_wp2_with fail
              go_region_law (first
                | (go_simp; go_at_call 22; refine (HRl.out _ (hB'.out.trans (hb6.mono hWr))).mono ?_; rintro r w7 ⟨v7, rfl, O7, hbw⟩; have hb7 : Below wr.heap.size wr w7 := then_ hb6 hbw; have hcv := (O6'.out.below hbw).rb.conv; have hcv2 := O7.rb.conv; clear O7 hbw)
                | (go_simp; go_at_call 21; refine (pencoded_any gw gw bl _ (hPl'.out.below hb0) hbl5.out).mono ?_; rintro r w6 ⟨v6, rfl, O6, hbw⟩; have hb6 : Below wr.heap.size wr w6 := then_ hb0 hbw; have hcv := O6.rb.conv; have O6' := Lib.hid O6; clear O6 hbw))
              all_goals (
                go_wp2
                go_ret
                exact ⟨by simp [Act.put], hB'.out.trans (hb7.mono hWr)⟩)
        | true =>
          obtain ⟨bb, haa⟩ : ∃ bb, aK l m k = bb := ⟨_, rfl⟩
          rw [haa]
          have hb0 : Below wr.heap.size wr wr.drew := (Below.refl _ _).drew
          have hWr : W.heap.size ≤ wr.heap.size := HBx.out.size
          have hsame : (bl == bm) = aK l m k := hkey.out hqq
          rw [haa] at hsame
          have hsame2 : (bl != bm) = !bb := by rw [bne, hsame]
          go_wp2_with fail
          go_region_law (first
            | (go_simp; go_at_call 17; refine (HAm.out _ (HBx.out.trans (hb6.mono hWr))).mono ?_; rintro r wz ⟨v7, rfl, O7, hbw⟩; have hb7 : Below wr.heap.size wr wz := then_ hb6 hbw; have hcv := (O6'.out.below hbw).rb.conv; have hcv2 := O7.rb.conv; clear O7 hbw)
            | (go_simp; go_at_call 17; refine (HAl.out _ (HBx.out.trans (hb0.mono hWr))).mono ?_; rintro r w6 ⟨v6, rfl, O6, hbw⟩; have hb6 : Below wr.heap.size wr w6 := then_ hb0 hbw; have hcv := O6.rb.conv; have O6' := Lib.hid O6; clear O6 hbw))
          all_goals (
            have Bz := HBx.out.trans (hb7.mono hWr)
            have hWg : W.heap.size ≤ wz.heap.size := Bz.size
            clear hcv hcv2 hb7 hb6 O6' hb0 hWr hsame hsame2
            have hP0 := WrP.zero wz (Nat.le_refl _)
            have hB0 : Below wz.heap.size wz (wz.alloc (.cells wrZero 46)) := (Below.refl _ _).alloc (Nat.le_refl _) _
            unfold wrZero at hP0 hB0
            have hP0' := Lib.hid hP0
            have B0 := Lib.hid (then_ Bz hB0)
            have hsz0 := hB0.size
            clear hP0 hB0 Bz
            go_wp2_with fail
            generalize wz.heap.size = gw at hP0' hsz0 hWg ⊢
            go_loopw [90] (fun i w' => ∃ k : Nat, i = .int .i64 (k : Int) ∧ k ≤ nl ∧ WrP w' gw gw (Wr.all (l.take k)) ∧ Below W.heap.size W w' ∧ gw ≤ w'.heap.size) (fun i _ => nl - (intOf i).toNat)
            case atStart => exact ⟨0, rfl, by omega, hP0'.out, B0.out, hsz0⟩
            case round =>
              obtain ⟨k, rfl, hk, hP, hB, hgw⟩ := hrel
              clear hP0' B0 hsz0
              have hkl : (Wr.all (l.take k)).length ≤ 10000 := by
                have h1 := congrArg List.length (all_split l k)
                rw [List.length_append] at h1
                have h2 := hall.out
                omega
              have hP' := Lib.hid hP
              have hB' := Lib.hid hB
              clear hP hB
              by_cases hlt : k < nl
              · obtain ⟨t, ht⟩ : ∃ t, l[k]? = some t := ⟨_, List.getElem?_eq_getElem (by have := hnl.out; omega)⟩
                obtain ⟨ad, u, rfl, hatW, hruW⟩ := hrl.out.at_ ht
                obtain ⟨ua, uc, rfl⟩ := hruW.form
                have hat := hatW.below hB'.out
                have hwt := hwl.out t (List.mem_of_getElem? ht)
                have hct := cost_mem ht
                have hcl := hcostl.out
                have e1 : (k : Int) < (nl : Int) := by omega
                have e2 : (0 : Int) ≤ (k : Int) := by omega
                have hst := Lib.hid (all_take ht)
                have hBa : Below wr.heap.size wr (wr.alloc (.cells #[.int .i64 t.k, .int .i64 t.n, .bool t.b, .string ⟨t.d.toArray⟩, .slice ua t.l.length uc] 33)) := (Below.refl _ _).alloc (Nat.le_refl _) _
                have hB2 := Lib.hid (then_ hB'.out hBa)
                have hru2 := Lib.hid (hruW.below hB2.out)
                have hP2 := Lib.hid (hP'.out.below hBa)
                have hgw2 : gw ≤ (wr.alloc (.cells #[.int .i64 t.k, .int .i64 t.n, .bool t.b, .string ⟨t.d.toArray⟩, .slice ua t.l.length uc] 33)).heap.size := Nat.le_trans hgw hBa.size
                clear ht hruW hatW hBa
                go_wp2_with (refine wpList_load_thing rfl _ rfl (ad.add (k * 5)) rfl t (.slice ua t.l.length uc) hat ?_)
                refine (write_any gw gw (Wr.all (l.take k)) t (.slice ua t.l.length uc) _ hP2.out hgw2 hwt hru2.out (by omega) (by omega) (by omega)).mono ?_
                rintro r w3 ⟨⟨u3, rfl⟩, H3, b3⟩
                rw [← hst.out] at H3
                have hkl2 : (Wr.all (l.take (k + 1))).length ≤ 20000 := by
                  have h1 := congrArg List.length (all_split l (k + 1))
                  rw [List.length_append] at h1
                  have h2 := hall.out
                  omega
                have H3' := Lib.hid H3
                have B3 := Lib.hid (hB2.out.trans (b3.mono (show W.heap.size ≤ gw from hWg)))
                have hs3 : gw ≤ w3.heap.size := Nat.le_trans hgw2 b3.size
                clear H3 b3 hP2 hB2 hP' hB' hgw2
                go_wp2_with fail
                refine (pencoded_any gw gw (Wr.all (l.take (k + 1))) w3 H3'.out (by omega)).mono ?_
                rintro r w4 ⟨v4, rfl, O4, b4⟩
                obtain ⟨A4, c4, rfl⟩ := O4.form
                have T4 := Lib.hid (told_of O4)
                have b4' := Lib.hid b4
                have hkl3 := Lib.hid hkl2
                generalize (Wr.all (l.take (k + 1))).length = n4 at T4 hkl2
                clear O4 b4
                go_wp2_with fail
                go_loopw [99] (fun i w' => ∃ j : Nat, i = .int .i64 (j : Int) ∧ j ≤ n4 ∧ Told w' w3.heap.size A4 n4 ∧ Below w3.heap.size w3 w') (fun i _ => n4 - (intOf i).toNat)
                case atStart => exact ⟨0, rfl, by omega, T4.out, b4'.out⟩
                case round =>
                  obtain ⟨j, rfl, hj, T5, b5⟩ := hrel
                  clear T4 b4'
                  by_cases hlj : j < n4
                  · obtain ⟨g, rfl, hgb, z, hz, hc, hf⟩ := T5 j hlj
                    have T5' := Lib.hid T5
                    have b5' := Lib.hid b5
                    have j1 : (j : Int) < (n4 : Int) := by omega
                    have j2 : (0 : Int) ≤ (j : Int) := by omega
                    obtain ⟨z', hzz⟩ : ∃ z' : Nat, (z + 1) % 256 = z' := ⟨_, rfl⟩
                    have hz1 : ((z : Int) + 1) % 256 = (z' : Int) := by omega
                    have hz2 : z' < 256 := by omega
                    clear T5 b5 hzz
                    go_wp2
                    go_roundw
                    case rel => exact ⟨j + 1, by go_num, by omega, T5'.out.store hlj hz2, b5'.out.setCell (p := ⟨g, j, none⟩) hgb _⟩
                    case measure => simp [intOf]; omega
                  · obtain rfl : j = n4 := by omega
                    have hend := Lib.hid (And.intro (H3'.out.below b5) (And.intro (then_ B3.out b5) (Nat.le_trans hs3 b5.size)))
                    clear T5 b5
                    go_wp2
                    go_roundw
                    case rel => exact ⟨k + 1, by go_num, by omega, hend.out⟩
                    case measure => simp [intOf]; omega
              · obtain rfl : k = nl := by omega
                have hPl : WrP wr gw gw bl := by
                  have h := hP'.out
                  rw [← hnl.out, List.take_length, hbl.out] at h
                  exact h
                have hPl' := Lib.hid hPl
                have hb0 : Below wr.heap.size wr wr.drew := (Below.refl _ _).drew
                have hWr : W.heap.size ≤ wr.heap.size := hB'.out.size
                clear hPl hP'
                go_wp2_with fail
                go_region_law (first
                  | (go_simp; go_at_call 22; refine (HRl.out _ (hB'.out.trans (hb6.mono hWr))).mono ?_; rintro r w7 ⟨v7, rfl, O7, hbw⟩; have hb7 : Below wr.heap.size wr w7 := then_ hb6 hbw; have hcv := (O6'.out.below hbw).rb.conv; have hcv2 := O7.rb.conv; clear O7 hbw)
                  | (go_simp; go_at_call 21; refine (pencoded_any gw gw bl _ (hPl'.out.below hb0) hbl5.out).mono ?_; rintro r w6 ⟨v6, rfl, O6, hbw⟩; have hb6 : Below wr.heap.size wr w6 := then_ hb0 hbw; have hcv := O6.rb.conv; have O6' := Lib.hid O6; clear O6 hbw))
                all_goals (
                  go_wp2
                  go_ret
                  exact ⟨by simp [Act.put], hB'.out.trans (hb7.mono hWr)⟩))
      · have e1 : (k : Int) < (nl : Int) := by omega
        have e2 : ¬ (k : Int) < (nm : Int) := by omega
        cases hqq : kK l m k with
        | false =>
          have ha9 := HBx.out
          obtain ⟨G, hG1, hG2⟩ : ∃ G : Regrown → World, (∀ r, Below wr.heap.size wr (G r)) ∧ (∀ w', Below wr.heap.size wr w' → ∃ r, w' = G r) := ⟨fun p => Sort.grow (redrawn wr p.d) p.os, fun r => below_regrown wr r.d r.os, fun w' h => regrown_of_below h⟩
          have hW0 : ∃ q, wr.drew = G q := hG2 _ (Below.refl _ _).drew
          have HB := Lib.hid (fun r => then_ ha9 (hG1 r))
          clear hG1 hG2 ha9
          go_wp2_with fail
          refine wp_region_G (G := G) (by kernel_rfl) (by kernel_rfl) hW0 ?_
          repeat (first | go_big_quiet_skip | (go_big_quiet_want; first
            | (go_big_quiet_op; go_big_quiet_on)))
          refine wpQuiet_nil ?_
          rintro _ ⟨r, rfl⟩
          have Bz := HB.out r
          have hWg : W.heap.size ≤ (G r).heap.size := Bz.size
          generalize G r = wz at Bz hWg ⊢

          have hP0 := WrP.zero wz (Nat.le_refl _)
          have hB0 : Below wz.heap.size wz (wz.alloc (.cells wrZero 46)) := (Below.refl _ _).alloc (Nat.le_refl _) _
          unfold wrZero at hP0 hB0
          have hP0' := Lib.hid hP0
          have B0 := Lib.hid (then_ Bz hB0)
          have hsz0 := hB0.size
          clear hP0 hB0 Bz
          go_wp2_with fail
          generalize wz.heap.size = gw at hP0' hsz0 hWg ⊢
          go_loopw [90] (fun i w' => ∃ k : Nat, i = .int .i64 (k : Int) ∧ k ≤ nl ∧ WrP w' gw gw (Wr.all (l.take k)) ∧ Below W.heap.size W w' ∧ gw ≤ w'.heap.size) (fun i _ => nl - (intOf i).toNat)
          case atStart => exact ⟨0, rfl, by omega, hP0'.out, B0.out, hsz0⟩
          case round =>
            obtain ⟨k, rfl, hk, hP, hB, hgw⟩ := hrel
            clear hP0' B0 hsz0
            have hkl : (Wr.all (l.take k)).length ≤ 10000 := by
              have h1 := congrArg List.length (all_split l k)
              rw [List.length_append] at h1
              have h2 := hall.out
              omega
            have hP' := Lib.hid hP
            have hB' := Lib.hid hB
            clear hP hB
            by_cases hlt : k < nl
            · obtain ⟨t, ht⟩ : ∃ t, l[k]? = some t := ⟨_, List.getElem?_eq_getElem (by have := hnl.out; omega)⟩
              obtain ⟨ad, u, rfl, hatW, hruW⟩ := hrl.out.at_ ht
              obtain ⟨ua, uc, rfl⟩ := hruW.form
              have hat := hatW.below hB'.out
              have hwt := hwl.out t (List.mem_of_getElem? ht)
              have hct := cost_mem ht
              have hcl := hcostl.out
              have e1 : (k : Int) < (nl : Int) := by omega
              have e2 : (0 : Int) ≤ (k : Int) := by omega
              have hst := Lib.hid (all_take ht)
              have hBa : Below wr.heap.size wr (wr.alloc (.cells #[.int .i64 t.k, .int .i64 t.n, .bool t.b, .string ⟨t.d.toArray⟩, .slice ua t.l.length uc] 33)) := (Below.refl _ _).alloc (Nat.le_refl _) _
              have hB2 := Lib.hid (then_ hB'.out hBa)
              have hru2 := Lib.hid (hruW.below hB2.out)
              have hP2 := Lib.hid (hP'.out.below hBa)
              have hgw2 : gw ≤ (wr.alloc (.cells #[.int .i64 t.k, .int .i64 t.n, .bool t.b, .string ⟨t.d.toArray⟩, .slice ua t.l.length uc] 33)).heap.size := Nat.le_trans hgw hBa.size
              clear ht hruW hatW hBa
              go_wp2_with (refine wpList_load_thing rfl _ rfl (ad.add (k * 5)) rfl t (.slice ua t.l.length uc) hat ?_)
              refine (write_any gw gw (Wr.all (l.take k)) t (.slice ua t.l.length uc) _ hP2.out hgw2 hwt hru2.out (by omega) (by omega) (by omega)).mono ?_
              rintro r w3 ⟨⟨u3, rfl⟩, H3, b3⟩
              rw [← hst.out] at H3
              have hkl2 : (Wr.all (l.take (k + 1))).length ≤ 20000 := by
                have h1 := congrArg List.length (all_split l (k + 1))
                rw [List.length_append] at h1
                have h2 := hall.out
                omega
              have H3' := Lib.hid H3
              have B3 := Lib.hid (hB2.out.trans (b3.mono (show W.heap.size ≤ gw from hWg)))
              have hs3 : gw ≤ w3.heap.size := Nat.le_trans hgw2 b3.size
              clear H3 b3 hP2 hB2 hP' hB' hgw2
              go_wp2_with fail
              refine (pencoded_any gw gw (Wr.all (l.take (k + 1))) w3 H3'.out (by omega)).mono ?_
              rintro r w4 ⟨v4, rfl, O4, b4⟩
              obtain ⟨A4, c4, rfl⟩ := O4.form
              have T4 := Lib.hid (told_of O4)
              have b4' := Lib.hid b4
              have hkl3 := Lib.hid hkl2
              generalize (Wr.all (l.take (k + 1))).length = n4 at T4 hkl2
              clear O4 b4
              go_wp2_with fail
              go_loopw [99] (fun i w' => ∃ j : Nat, i = .int .i64 (j : Int) ∧ j ≤ n4 ∧ Told w' w3.heap.size A4 n4 ∧ Below w3.heap.size w3 w') (fun i _ => n4 - (intOf i).toNat)
              case atStart => exact ⟨0, rfl, by omega, T4.out, b4'.out⟩
              case round =>
                obtain ⟨j, rfl, hj, T5, b5⟩ := hrel
                clear T4 b4'
                by_cases hlj : j < n4
                · obtain ⟨g, rfl, hgb, z, hz, hc, hf⟩ := T5 j hlj
                  have T5' := Lib.hid T5
                  have b5' := Lib.hid b5
                  have j1 : (j : Int) < (n4 : Int) := by omega
                  have j2 : (0 : Int) ≤ (j : Int) := by omega
                  obtain ⟨z', hzz⟩ : ∃ z' : Nat, (z + 1) % 256 = z' := ⟨_, rfl⟩
                  have hz1 : ((z : Int) + 1) % 256 = (z' : Int) := by omega
                  have hz2 : z' < 256 := by omega
                  clear T5 b5 hzz
                  go_wp2
                  go_roundw
                  case rel => exact ⟨j + 1, by go_num, by omega, T5'.out.store hlj hz2, b5'.out.setCell (p := ⟨g, j, none⟩) hgb _⟩
                  case measure => simp [intOf]; omega
                · obtain rfl : j = n4 := by omega
                  have hend := Lib.hid (And.intro (H3'.out.below b5) (And.intro (then_ B3.out b5) (Nat.le_trans hs3 b5.size)))
                  clear T5 b5
                  go_wp2
                  go_roundw
                  case rel => exact ⟨k + 1, by go_num, by omega, hend.out⟩
                  case measure => simp [intOf]; omega
            · obtain rfl : k = nl := by omega
              have hPl : WrP wr gw gw bl := by
                have h := hP'.out
                rw [← hnl.out, List.take_length, hbl.out] at h
                exact h
              have hPl' := Lib.hid hPl
              have hb0 : Below wr.heap.size wr wr.drew := (Below.refl _ _).drew
              have hWr : W.heap.size ≤ wr.heap.size := hB'.out.size
              clear hPl hP'
              go_wp2_with fail
              go_region_law (first
                | (go_simp; go_at_call 22; refine (HRl.out _ (hB'.out.trans (hb6.mono hWr))).mono ?_; rintro r w7 ⟨v7, rfl, O7, hbw⟩; have hb7 : Below wr.heap.size wr w7 := then_ hb6 hbw; have hcv := (O6'.out.below hbw).rb.conv; have hcv2 := O7.rb.conv; clear O7 hbw)
                | (go_simp; go_at_call 21; refine (pencoded_any gw gw bl _ (hPl'.out.below hb0) hbl5.out).mono ?_; rintro r w6 ⟨v6, rfl, O6, hbw⟩; have hb6 : Below wr.heap.size wr w6 := then_ hb0 hbw; have hcv := O6.rb.conv; have O6' := Lib.hid O6; clear O6 hbw))
              all_goals (
                go_wp2
                go_ret
                exact ⟨by simp [Act.put], hB'.out.trans (hb7.mono hWr)⟩)
        | true =>
          obtain ⟨bb, haa⟩ : ∃ bb, aK l m k = bb := ⟨_, rfl⟩
          rw [haa]
          have hb0 : Below wr.heap.size wr wr.drew := (Below.refl _ _).drew
          have hWr : W.heap.size ≤ wr.heap.size := HBx.out.size
          have hsame : (bl == bm) = aK l m k := hkey.out hqq
          rw [haa] at hsame
          have hsame2 : (bl != bm) = !bb := by rw [bne, hsame]
          go_wp2_with fail
          go_region_law (first
            | (go_simp; go_at_call 17; refine (HAm.out _ (HBx.out.trans (hb6.mono hWr))).mono ?_; rintro r wz ⟨v7, rfl, O7, hbw⟩; have hb7 : Below wr.heap.size wr wz := then_ hb6 hbw; have hcv := (O6'.out.below hbw).rb.conv; have hcv2 := O7.rb.conv; clear O7 hbw)
            | (go_simp; go_at_call 17; refine (HAl.out _ (HBx.out.trans (hb0.mono hWr))).mono ?_; rintro r w6 ⟨v6, rfl, O6, hbw⟩; have hb6 : Below wr.heap.size wr w6 := then_ hb0 hbw; have hcv := O6.rb.conv; have O6' := Lib.hid O6; clear O6 hbw))
          all_goals (
            have Bz := HBx.out.trans (hb7.mono hWr)
            have hWg : W.heap.size ≤ wz.heap.size := Bz.size
            clear hcv hcv2 hb7 hb6 O6' hb0 hWr hsame hsame2
            have hP0 := WrP.zero wz (Nat.le_refl _)
            have hB0 : Below wz.heap.size wz (wz.alloc (.cells wrZero 46)) := (Below.refl _ _).alloc (Nat.le_refl _) _
            unfold wrZero at hP0 hB0
            have hP0' := Lib.hid hP0
            have B0 := Lib.hid (then_ Bz hB0)
            have hsz0 := hB0.size
            clear hP0 hB0 Bz
            go_wp2_with fail
            generalize wz.heap.size = gw at hP0' hsz0 hWg ⊢
            go_loopw [90] (fun i w' => ∃ k : Nat, i = .int .i64 (k : Int) ∧ k ≤ nl ∧ WrP w' gw gw (Wr.all (l.take k)) ∧ Below W.heap.size W w' ∧ gw ≤ w'.heap.size) (fun i _ => nl - (intOf i).toNat)
            case atStart => exact ⟨0, rfl, by omega, hP0'.out, B0.out, hsz0⟩
            case round =>
              obtain ⟨k, rfl, hk, hP, hB, hgw⟩ := hrel
              clear hP0' B0 hsz0
              have hkl : (Wr.all (l.take k)).length ≤ 10000 := by
                have h1 := congrArg List.length (all_split l k)
                rw [List.length_append] at h1
                have h2 := hall.out
                omega
              have hP' := Lib.hid hP
              have hB' := Lib.hid hB
              clear hP hB
              by_cases hlt : k < nl
              · obtain ⟨t, ht⟩ : ∃ t, l[k]? = some t := ⟨_, List.getElem?_eq_getElem (by have := hnl.out; omega)⟩
                obtain ⟨ad, u, rfl, hatW, hruW⟩ := hrl.out.at_ ht
                obtain ⟨ua, uc, rfl⟩ := hruW.form
                have hat := hatW.below hB'.out
                have hwt := hwl.out t (List.mem_of_getElem? ht)
                have hct := cost_mem ht
                have hcl := hcostl.out
                have e1 : (k : Int) < (nl : Int) := by omega
                have e2 : (0 : Int) ≤ (k : Int) := by omega
                have hst := Lib.hid (all_take ht)
                have hBa : Below wr.heap.size wr (wr.alloc (.cells #[.int .i64 t.k, .int .i64 t.n, .bool t.b, .string ⟨t.d.toArray⟩, .slice ua t.l.length uc] 33)) := (Below.refl _ _).alloc (Nat.le_refl _) _
                have hB2 := Lib.hid (then_ hB'.out hBa)
                have hru2 := Lib.hid (hruW.below hB2.out)
                have hP2 := Lib.hid (hP'.out.below hBa)
                have hgw2 : gw ≤ (wr.alloc (.cells #[.int .i64 t.k, .int .i64 t.n, .bool t.b, .string ⟨t.d.toArray⟩, .slice ua t.l.length uc] 33)).heap.size := Nat.le_trans hgw hBa.size
                clear ht hruW hatW hBa
                go_wp2_with (refine wpList_load_thing rfl _ rfl (ad.add (k * 5)) rfl t (.slice ua t.l.length uc) hat ?_)
                refine (write_any gw gw (Wr.all (l.take k)) t (.slice ua t.l.length uc) _ hP2.out hgw2 hwt hru2.out (by omega) (by omega) (by omega)).mono ?_
                rintro r w3 ⟨⟨u3, rfl⟩, H3, b3⟩
                rw [← hst.out] at H3
                have hkl2 : (Wr.all (l.take (k + 1))).length ≤ 20000 := by
                  have h1 := congrArg List.length (all_split l (k + 1))
                  rw [List.length_append] at h1
                  have h2 := hall.out
                  omega
                have H3' := Lib.hid H3
                have B3 := Lib.hid (hB2.out.trans (b3.mono (show W.heap.size ≤ gw from hWg)))
                have hs3 : gw ≤ w3.heap.size := Nat.le_trans hgw2 b3.size
                clear H3 b3 hP2 hB2 hP' hB' hgw2
                go_wp2_with fail
                refine (pencoded_any gw gw (Wr.all (l.take (k + 1))) w3 H3'.out (by omega)).mono ?_
                rintro r w4 ⟨v4, rfl, O4, b4⟩
                obtain ⟨A4, c4, rfl⟩ := O4.form
                have T4 := Lib.hid (told_of O4)
                have b4' := Lib.hid b4
                have hkl3 := Lib.hid hkl2
                generalize (Wr.all (l.take (k + 1))).length = n4 at T4 hkl2
                clear O4 b4
                go_wp2_with fail
                go_loopw [99] (fun i w' => ∃ j : Nat, i = .int .i64 (j : Int) ∧ j ≤ n4 ∧ Told w' w3.heap.size A4 n4 ∧ Below w3.heap.size w3 w') (fun i _ => n4 - (intOf i).toNat)
                case atStart => exact ⟨0, rfl, by omega, T4.out, b4'.out⟩
                case round =>
                  obtain ⟨j, rfl, hj, T5, b5⟩ := hrel
                  clear T4 b4'
                  by_cases hlj : j < n4
                  · obtain ⟨g, rfl, hgb, z, hz, hc, hf⟩ := T5 j hlj
                    have T5' := Lib.hid T5
                    have b5' := Lib.hid b5
                    have j1 : (j : Int) < (n4 : Int) := by omega
                    have j2 : (0 : Int) ≤ (j : Int) := by omega
                    obtain ⟨z', hzz⟩ : ∃ z' : Nat, (z + 1) % 256 = z' := ⟨_, rfl⟩
                    have hz1 : ((z : Int) + 1) % 256 = (z' : Int) := by omega
                    have hz2 : z' < 256 := by omega
                    clear T5 b5 hzz
                    go_wp2
                    go_roundw
                    case rel => exact ⟨j + 1, by go_num, by omega, T5'.out.store hlj hz2, b5'.out.setCell (p := ⟨g, j, none⟩) hgb _⟩
                    case measure => simp [intOf]; omega
                  · obtain rfl : j = n4 := by omega
                    have hend := Lib.hid (And.intro (H3'.out.below b5) (And.intro (then_ B3.out b5) (Nat.le_trans hs3 b5.size)))
                    clear T5 b5
                    go_wp2
                    go_roundw
                    case rel => exact ⟨k + 1, by go_num, by omega, hend.out⟩
                    case measure => simp [intOf]; omega
              · obtain rfl : k = nl := by omega
                have hPl : WrP wr gw gw bl := by
                  have h := hP'.out
                  rw [← hnl.out, List.take_length, hbl.out] at h
                  exact h
                have hPl' := Lib.hid hPl
                have hb0 : Below wr.heap.size wr wr.drew := (Below.refl _ _).drew
                have hWr : W.heap.size ≤ wr.heap.size := hB'.out.size
                clear hPl hP'
                go_wp2_with fail
                go_region_law (first
                  | (go_simp; go_at_call 22; refine (HRl.out _ (hB'.out.trans (hb6.mono hWr))).mono ?_; rintro r w7 ⟨v7, rfl, O7, hbw⟩; have hb7 : Below wr.heap.size wr w7 := then_ hb6 hbw; have hcv := (O6'.out.below hbw).rb.conv; have hcv2 := O7.rb.conv; clear O7 hbw)
                  | (go_simp; go_at_call 21; refine (pencoded_any gw gw bl _ (hPl'.out.below hb0) hbl5.out).mono ?_; rintro r w6 ⟨v6, rfl, O6, hbw⟩; have hb6 : Below wr.heap.size wr w6 := then_ hb0 hbw; have hcv := O6.rb.conv; have O6' := Lib.hid O6; clear O6 hbw))
                all_goals (
                  go_wp2
                  go_ret
                  exact ⟨by simp [Act.put], hB'.out.trans (hb7.mono hWr)⟩))

theorem lawInj (A B : Option Addr) (c d : Nat) (l m : List Th) (W : World) (hr : RT W A l) (hr' : RT W B m) (hs : Ths l) (hs' : Ths m) (hl : l.length ≤ 9223372036854775807) (hm : m.length ≤ 9223372036854775807) :
    Calls Try.prog 8 #[.slice A l.length c, .slice B m.length d] W fun r w' => r = .returned (.bool true) ∧ Below W.heap.size W w' := by
  have hrh := Lib.hid hr
  have hrh' := Lib.hid hr'
  clear hr hr'
  cases hfew : few l with
  | false =>
    go_enter Try.func8, Try.ntmps8
    go_wp2_with fail
    refine (awake_any _).mono ?_
    rintro r w1 ⟨rfl, b1⟩
    go_wp2_with fail
    refine (rfew_any A c l w1 (hrh.out.below b1) hs.small hl).mono ?_
    rintro r w2 ⟨rfl, b2⟩
    rw [hfew]
    have B2 := then_ b1 b2
    go_wp2_with fail
    refine (awake_any _).mono ?_
    rintro r w3 ⟨rfl, b3⟩
    go_wp2
    go_ret
    exact ⟨rfl, then_ B2 b3⟩
  | true =>
    cases hfew' : few m with
    | false =>
      go_enter Try.func8, Try.ntmps8
      go_wp2_with fail
      refine (awake_any _).mono ?_
      rintro r w1 ⟨rfl, b1⟩
      go_wp2_with fail
      refine (rfew_any A c l w1 (hrh.out.below b1) hs.small hl).mono ?_
      rintro r w2 ⟨rfl, b2⟩
      rw [hfew]
      have B2 := then_ b1 b2
      go_wp2_with fail
      refine (rfew_any B d m w2 (hrh'.out.below B2) hs'.small hm).mono ?_
      rintro r w3 ⟨rfl, b3⟩
      rw [hfew']
      have B3 := then_ B2 b3
      go_wp2_with fail
      refine (awake_any _).mono ?_
      rintro r w4 ⟨rfl, b4⟩
      go_wp2
      go_ret
      exact ⟨rfl, then_ B3 b4⟩
    | true =>
      obtain ⟨hc1, _⟩ := few_of hfew
      obtain ⟨hc2, _⟩ := few_of hfew'
      have w1 := hs.wf hfew
      have w2 := hs'.wf hfew'
      have l1 := cost_length l
      have l2 := cost_length m
      have al := all_len l w1
      exact lawInj' A B c d l m l.length m.length W hrh hrh' (Lib.hid w1) (Lib.hid w2) (Lib.hid hc1) (Lib.hid hc2) (Lib.hid rfl) (Lib.hid rfl) (by omega) (by omega) (Wr.all l) (Wr.all m) (Lib.hid rfl) (Lib.hid rfl) (Lib.hid (by omega)) (Lib.hid (by omega))
        (Lib.hid fun w' hb => (rfew_any A c l w' (hrh.out.below hb) hs.small hl).mono fun r w'' h => ⟨by rw [h.1, hfew], h.2⟩)
        (Lib.hid fun w' hb => (rfew_any B d m w' (hrh'.out.below hb) hs'.small hm).mono fun r w'' h => ⟨by rw [h.1, hfew'], h.2⟩)
        (Lib.hid fun w' hb => all_any A c l w' (hrh.out.below hb) w1 (by omega))
        (Lib.hid fun w' hb => all_any B d m w' (hrh'.out.below hb) w2 (by omega))
        (Lib.hid fun w' hb => rall_any A c l w' (hrh.out.below hb) w1 (by omega))
        (decide (l.length = m.length)) (Lib.hid rfl) (by rw [Bool.eq_iff_iff]; simp only [beq_iff_eq, decide_eq_true_eq] <;> omega) (by rw [Bool.eq_iff_iff]; simp only [beq_iff_eq, decide_eq_true_eq] <;> omega) rfl (by rw [Bool.eq_iff_iff]; simp only [beq_iff_eq, decide_eq_true_eq] <;> omega)
end Go.Proofs.Ytmmfkepkdmmmkaa
