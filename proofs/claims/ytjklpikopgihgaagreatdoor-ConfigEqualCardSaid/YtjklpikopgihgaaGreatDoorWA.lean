/- The reference: Text. -/
import Derived.Test.YtjklpikopgihgaaGreatDoorW9
import Derived.Deep.DeepCutAuto
import Derived.Deep.CutRange
set_option linter.unusedVariables false
set_option maxRecDepth 100000
set_option linter.unusedSimpArgs false
namespace Go.Proofs.YtjklpikopgihgaaGreatDoor
open Go.RowKit Go.Lib Cf

/-- A number that Digits takes. -/
def Dg (z : Int) : Prop := 0 ≤ z ∧ z ≤ 9223372036854775807
/-- What Text wants of a configuration; a right one has it. -/
structure TextIn (c : Cfg) : Prop where
  ce : Dg c.ce
  ds : ∀ d ∈ c.ds, Dg d
  es : ∀ e ∈ c.es, Dg e.1 ∧ Dg e.2.1 ∧ Dg e.2.2
  us : ∀ e ∈ c.us, (0 ≤ e.1 ∧ e.1 ≤ 4) ∧ Dg e.2.1 ∧ Dg e.2.2
  ps : ∀ p ∈ c.ps, Dg p.urg ∧ ∀ k ∈ p.kinds, 0 ≤ k ∧ k ≤ 4
  nums : ∀ n ∈ c.nums, Dg n
theorem ret_s {a b : Bs} (h : a = b) : Ending.returned (.string ⟨a.toArray⟩) = .returned (.string ⟨b.toArray⟩) := by rw [h]

theorem i64_3 {e : Int × Int × Int} (h : Dg e.1 ∧ Dg e.2.1 ∧ Dg e.2.2) : I64 e.1 ∧ I64 e.2.1 ∧ I64 e.2.2 := by unfold Dg at h; unfold I64; omega
theorem i64_u {e : Int × Int × Int} (h : (0 ≤ e.1 ∧ e.1 ≤ 4) ∧ Dg e.2.1 ∧ Dg e.2.2) : I64 e.1 ∧ I64 e.2.1 ∧ I64 e.2.2 := by unfold Dg at h; unfold I64; omega
theorem cat (a b : Bs) : (⟨a.toArray⟩ : ByteArray) ++ ⟨b.toArray⟩ = ⟨(a ++ b).toArray⟩ := by rw [ByteArray.mk_append_mk]; first | done | simp
theorem digits_q (z : Int) (h : Dg z) (Y : Bs) (hY : dig z = Y) : ∀ w, Calls Tryz.prog 39 #[.int .i64 z] w fun e w' => e = .returned (.string ⟨Y.toArray⟩) ∧ ∃ m, w' = w.drewN m := by
  intro w
  obtain ⟨h0, h1⟩ := h
  obtain ⟨n, rfl⟩ : ∃ n : Nat, z = (n : Int) := ⟨z.toNat, by omega⟩
  rw [← hY]
  exact digits_nat n (by omega) w

set_option maxRecDepth 100000 in
set_option maxHeartbeats 2000000 in
theorem text_any (c : Cfg) (v : Value) (w : World) (h : CfgV w v c) (m : Small c) (hT : TextIn c) :
    Calls Tryz.prog 14 #[v] w fun r w' => r = .returned (.string ⟨(text c).toArray⟩) ∧ Below w.heap.size w w' := by
  obtain ⟨_, _, _, _, rfl, hd1, he1, hu1, hp1⟩ := h
  obtain ⟨Ad, cd, rfl⟩ := hd1.form
  obtain ⟨Ae, ce, rfl⟩ := he1.form
  obtain ⟨Au, cu, rfl⟩ := hu1.form
  obtain ⟨Ap, cp, rfl⟩ := hp1.form
  have hB0 : Below w.heap.size w (w.alloc (.cells (cfgCells c (.slice Ad c.ds.length cd) (.slice Ae c.es.length ce) (.slice Au c.us.length cu) (.slice Ap c.ps.length cp)).toArray 27)) := (Below.refl _ _).alloc (Nat.le_refl _) _
  have hC0 := cb_new w c (.slice Ad c.ds.length cd) (.slice Ae c.es.length ce) (.slice Au c.us.length cu) (.slice Ap c.ps.length cp)
  obtain ⟨W, hW⟩ : ∃ W, w.alloc (.cells (cfgCells c (.slice Ad c.ds.length cd) (.slice Ae c.es.length ce) (.slice Au c.us.length cu) (.slice Ap c.ps.length cp)).toArray 27) = W := ⟨_, rfl⟩
  have hWs : W.heap.size = w.heap.size + 1 := by rw [← hW, World.size_alloc]
  rw [hW] at hC0 hB0
  unfold cfgCells at hW
  have hC' := Lib.hid hC0
  have hB0' := Lib.hid hB0
  have hd := Lib.hid (hd1.below hB0)
  have he := Lib.hid (he1.below hB0)
  have hu := Lib.hid (hu1.below hB0)
  have hp := Lib.hid (hp1.below hB0)
  have z0 := hC0.at_ 0 _ rfl
  have hWl : w.heap.size ≤ W.heap.size := by omega
  have hcst := Lib.hid m.cost
  have k1 := m.ds; have k2 := m.es; have k3 := m.us; have k4 := m.ps
  clear hC0 hB0 hd1 he1 hu1 hp1
  unfold cfgCells
  have hTd := Lib.hid hT.ds; have hTe := Lib.hid hT.es; have hTu := Lib.hid hT.us; have hTp := Lib.hid hT.ps; have hTn := Lib.hid hT.nums
  obtain ⟨hc0, hc1⟩ := hT.ce
  clear hT
  have hcl := dig_len hc1
  obtain ⟨X, hX⟩ : ∃ X, dig c.ce = X := ⟨_, rfl⟩
  rw [hX] at hcl
  have hX' := Lib.hid hX
  clear hX
  go_enter Tryz.func14, Tryz.ntmps14
  go_wp2_with fail
  refine (digits_any c.ce hc0 hc1 _).mono ?_
  rintro r w1 ⟨rfl, b1⟩
  rw [hX'.out]
  clear hW z0
  have hB' := Lib.hid b1
  have z1 := (hC'.out.below b1).at_ 1 _ rfl
  clear b1
  go_wp2_with fail
  go_loopw [3, 26] (fun s i w' => ∃ (k : Nat) (l : Bs), i = .int .i64 (k : Int) ∧ s = .string ⟨l.toArray⟩ ∧ k ≤ c.ds.length ∧ l = lCentres c.ce ++ (c.ds.take k).flatMap lNode ∧ Below W.heap.size W w') (fun _ i _ => c.ds.length - (intOf i).toNat)
  case atStart => exact ⟨0, wCentres ++ X ++ [10], rfl, by simp only [cat]; first | done | rfl, by omega, by unfold lCentres; rw [hX'.out]; simp [wCentres], hB'.out⟩
  case round =>
    clear hB'
    obtain ⟨k, l1, rfl, rfl, hk, hl, hB⟩ := hrel
    have hl' := Lib.hid hl
    have hB' := Lib.hid hB
    have z1 := (hC'.out.below hB).at_ 2 _ rfl
    have hll : l1.length ≤ 1528 := by
      have h1 := flat_len lNode 25 (c.ds.take k) (fun x hx => lNode_len (hTd.out x (List.mem_of_mem_take hx)).2)
      rw [List.length_take] at h1
      rw [hl, List.length_append]
      unfold lCentres wCentres; rw [hX'.out]; simp only [List.length_append, List.length_cons, List.length_nil]; omega
    clear hl hB
    by_cases hlt : k < c.ds.length
    · obtain ⟨x, hx⟩ : ∃ x, c.ds[k]? = some x := ⟨_, List.getElem?_eq_getElem hlt⟩
      have hst := Lib.hid (show l1 ++ lNode x = lCentres c.ce ++ (c.ds.take (k + 1)).flatMap lNode from by rw [hl'.out, flatMap_take _ hx, List.append_assoc])
      have e1 : (k : Int) < (c.ds.length : Int) := by omega
      have e2 : (0 : Int) ≤ (k : Int) := by omega
      obtain ⟨ad, rfl, d0⟩ := (hd.out.below hB'.out).at_ hx
      have hz := hTd.out x (List.mem_of_getElem? hx)
      obtain ⟨Y, hY⟩ : ∃ Y, dig x = Y := ⟨_, rfl⟩
      have hyl := dig_len hz.2
      rw [hY] at hyl
      have hln := Lib.hid (show lNode x = wNode ++ Y ++ [10] from by unfold lNode; rw [hY])
      have HD := Lib.hid (digits_q x hz Y hY)
      clear hx hz hY
      go_wp2_with fail
      refine (HD.out _).mono ?_
      rintro r w2 ⟨rfl, m2, rfl⟩
      go_wp2
      go_roundw
      case rel => exact ⟨k + 1, l1 ++ lNode x, by go_num, by rw [hln.out]; simp only [cat]; first | done | rfl, by omega, hst.out, below_drewN hB'.out _⟩
      case measure => simp [intOf]; omega
    · obtain rfl : k = c.ds.length := by omega
      have hl1 := Lib.hid (show l1 = lCentres c.ce ++ c.ds.flatMap lNode from by rw [hl'.out, List.take_length])
      clear hl'
      go_wp2_with fail
      go_loopw [3, 40] (fun s i w' => ∃ (k : Nat) (l : Bs), i = .int .i64 (k : Int) ∧ s = .string ⟨l.toArray⟩ ∧ k ≤ c.es.length ∧ l = l1 ++ (c.es.take k).flatMap lEdge ∧ Below W.heap.size W w') (fun _ i _ => c.es.length - (intOf i).toNat)
      case atStart => exact ⟨0, _, rfl, rfl, by omega, by simp, hB'.out⟩
      case round =>
        clear hB'
        obtain ⟨k, l2, rfl, rfl, hk, hl, hB⟩ := hrel
        have hl' := Lib.hid hl
        have hB' := Lib.hid hB
        have z1 := (hC'.out.below hB).at_ 3 _ rfl
        have hll : l2.length ≤ 6000 := by
          have h1 := flat_len lEdge 65 (c.es.take k) (fun x hx => lEdge_len (i64_3 (hTe.out x (List.mem_of_mem_take hx))))
          rw [List.length_take] at h1
          rw [hl, List.length_append]
          omega
        clear hl hB
        by_cases hlt : k < c.es.length
        · obtain ⟨x, hx⟩ : ∃ x, c.es[k]? = some x := ⟨_, List.getElem?_eq_getElem hlt⟩
          have hst := Lib.hid (show l2 ++ lEdge x = l1 ++ (c.es.take (k + 1)).flatMap lEdge from by rw [hl'.out, flatMap_take _ hx, List.append_assoc])
          have e1 : (k : Int) < (c.es.length : Int) := by omega
          have e2 : (0 : Int) ≤ (k : Int) := by omega
          obtain ⟨x1, x2, x3⟩ := x
          obtain ⟨ad, rfl, hat⟩ := (he.out.below hB'.out).at_ hx
          obtain ⟨j1, j2, j3⟩ := hTe.out _ (List.mem_of_getElem? hx)
          simp only at j1 j2 j3
          have hle := load_edge hat
          have hle : (loadVar 47 (ad.add (k * 3))).run Tryz.prog wr = .ok (.agg #[.int .i64 x1, .int .i64 x2, .int .i64 x3]) wr := hle
          obtain ⟨Y1, hY1⟩ : ∃ Y, dig x1 = Y := ⟨_, rfl⟩
          obtain ⟨Y2, hY2⟩ : ∃ Y, dig x2 = Y := ⟨_, rfl⟩
          obtain ⟨Y3, hY3⟩ : ∃ Y, dig x3 = Y := ⟨_, rfl⟩
          have y1 := dig_len j1.2
          have y2 := dig_len j2.2
          have y3 := dig_len j3.2
          rw [hY1] at y1
          rw [hY2] at y2
          rw [hY3] at y3
          have H1 := Lib.hid (digits_q x1 j1 Y1 hY1)
          have H2 := Lib.hid (digits_q x2 j2 Y2 hY2)
          have H3 := Lib.hid (digits_q x3 j3 Y3 hY3)
          have hln0 := Lib.hid (show lEdge (x1, x2, x3) = wEdge ++ Y1 ++ [32] ++ Y2 ++ [32] ++ time x3 ++ [10] from by unfold lEdge; rw [hY1, hY2])
          have hY3' := Lib.hid hY3
          have B4 := Lib.hid (then_ hB'.out ((Below.refl wr.heap.size wr).alloc (Nat.le_refl _) (.cells #[.int .i64 x1, .int .i64 x2, .int .i64 x3] 47)))
          clear hx hat j1 j2 j3 hY1 hY2 hY3
          by_cases ht : x3 = 4611686018427387904
          · have hln := Lib.hid (show lEdge (x1, x2, x3) = wEdge ++ Y1 ++ [32] ++ Y2 ++ [32] ++ never ++ [10] from by rw [hln0.out]; unfold time; rw [if_pos ht])
            have t1 : (x3 != 4611686018427387904) = false := by simp [ht]
            clear ht hln0 H3
            go_wp2_with (refine wpList_load_list rfl 47 _ rfl (ad.add (k * 3)) rfl [.int .i64 x1, .int .i64 x2, .int .i64 x3] hle ?_)
            go_wp2
            go_quiet ((first | (go_at_call_of 39 (Value.int IntKind.i64 x1); refine Calls.quiet_of (H1.out _)) | (go_at_call_of 39 (Value.int IntKind.i64 x2); refine Calls.quiet_of (H2.out _))))
            go_wp2
            go_roundw
            case rel => exact ⟨k + 1, l2 ++ lEdge (x1, x2, x3), by go_num, by rw [hln.out]; simp only [cat]; first | done | rfl, by omega, hst.out, below_drewN B4.out _⟩
            case measure => simp [intOf]; omega
          · have hln := Lib.hid (show lEdge (x1, x2, x3) = wEdge ++ Y1 ++ [32] ++ Y2 ++ [32] ++ Y3 ++ [10] from by rw [hln0.out]; unfold time; rw [if_neg ht, hY3'.out])
            have t1 : (x3 != 4611686018427387904) = true := by simp [ht]
            clear ht hln0
            go_wp2_with (refine wpList_load_list rfl 47 _ rfl (ad.add (k * 3)) rfl [.int .i64 x1, .int .i64 x2, .int .i64 x3] hle ?_)
            refine (H3.out _).mono ?_
            rintro r w2 ⟨rfl, m2, hw2⟩
            have b2 : Below (wr.alloc (.cells #[.int .i64 x1, .int .i64 x2, .int .i64 x3] 47)).heap.size (wr.alloc (.cells #[.int .i64 x1, .int .i64 x2, .int .i64 x3] 47)) w2 := by rw [hw2]; exact below_drewN (Below.refl _ _) m2
            have d0 := cell_keep (v := .int .i64 x1) (p := ⟨wr.heap.size, 0, none⟩) (by simp [World.cell?_alloc_new]) b2
            have d1 := cell_keep (v := .int .i64 x2) (p := ⟨wr.heap.size, 1, none⟩) (by simp [World.cell?_alloc_new]) b2
            have B4 := Lib.hid (B4.out.trans (b2.mono (by rw [World.size_alloc]; have := hB'.out.size; omega)))
            clear hw2 b2
            go_wp2
            go_quiet ((first | (go_at_call_of 39 (Value.int IntKind.i64 x1); refine Calls.quiet_of (H1.out _)) | (go_at_call_of 39 (Value.int IntKind.i64 x2); refine Calls.quiet_of (H2.out _))))
            go_wp2
            go_roundw
            case rel => exact ⟨k + 1, l2 ++ lEdge (x1, x2, x3), by go_num, by rw [hln.out]; simp only [cat]; first | done | rfl, by omega, hst.out, below_drewN B4.out _⟩
            case measure => simp [intOf]; omega
        · obtain rfl : k = c.es.length := by omega
          have hl2 := Lib.hid (show l2 = l1 ++ c.es.flatMap lEdge from by rw [hl'.out, List.take_length])
          clear hl'
          go_wp2_with fail
          go_loopw [3, 69] (fun s i w' => ∃ (k : Nat) (l : Bs), i = .int .i64 (k : Int) ∧ s = .string ⟨l.toArray⟩ ∧ k ≤ c.us.length ∧ l = l2 ++ (c.us.take k).flatMap lUnit ∧ Below W.heap.size W w') (fun _ i _ => c.us.length - (intOf i).toNat)
          case atStart => exact ⟨0, _, rfl, rfl, by omega, by simp, hB'.out⟩
          case round =>
            clear hB'
            obtain ⟨k, l3, rfl, rfl, hk, hl, hB⟩ := hrel
            have hl' := Lib.hid hl
            have hB' := Lib.hid hB
            have z1 := (hC'.out.below hB).at_ 4 _ rfl
            have hll : l3.length ≤ 10000 := by
              have h1 := flat_len lUnit 52 (c.us.take k) (fun x hx => lUnit_len (i64_u (hTu.out x (List.mem_of_mem_take hx))))
              rw [List.length_take] at h1
              rw [hl, List.length_append]
              omega
            clear hl hB
            by_cases hlt : k < c.us.length
            · obtain ⟨x, hx⟩ : ∃ x, c.us[k]? = some x := ⟨_, List.getElem?_eq_getElem hlt⟩
              have hst := Lib.hid (show l3 ++ lUnit x = l2 ++ (c.us.take (k + 1)).flatMap lUnit from by rw [hl'.out, flatMap_take _ hx, List.append_assoc])
              have e1 : (k : Int) < (c.us.length : Int) := by omega
              have e2 : (0 : Int) ≤ (k : Int) := by omega
              obtain ⟨x1, x2, x3⟩ := x
              obtain ⟨ad, rfl, hat⟩ := (hu.out.below hB'.out).at_ hx
              obtain ⟨j1, j2, j3⟩ := hTu.out _ (List.mem_of_getElem? hx)
              simp only at j1 j2 j3
              have hle := load_unit hat
              have hle : (loadVar 50 (ad.add (k * 3))).run Tryz.prog wr = .ok (.agg #[.int .i64 x1, .int .i64 x2, .int .i64 x3]) wr := hle
              obtain ⟨Y1, hY1⟩ : ∃ Y, kindName x1 = Y := ⟨_, rfl⟩
              obtain ⟨Y2, hY2⟩ : ∃ Y, dig x2 = Y := ⟨_, rfl⟩
              obtain ⟨Y3, hY3⟩ : ∃ Y, dig x3 = Y := ⟨_, rfl⟩
              have y1 := kind_len x1
              have y2 := dig_len j2.2
              have y3 := dig_len j3.2
              rw [hY1] at y1
              rw [hY2] at y2
              rw [hY3] at y3
              have hln := Lib.hid (show lUnit (x1, x2, x3) = wUnit ++ Y1 ++ [32] ++ Y2 ++ [32] ++ Y3 ++ [10] from by unfold lUnit; rw [hY1, hY2, hY3])
              have hj := Lib.hid (And.intro j1 (And.intro j2 j3))
              have hYs := Lib.hid (And.intro hY1 (And.intro hY2 hY3))
              clear hx hat j1 j2 j3 hY1 hY2 hY3
              go_wp2_with (refine wpList_load_list rfl 50 _ rfl (ad.add (k * 3)) rfl [.int .i64 x1, .int .i64 x2, .int .i64 x3] hle ?_)
              have n0 : (wr.alloc (.cells #[.int .i64 x1, .int .i64 x2, .int .i64 x3] 50)).cell? ⟨wr.heap.size, 0, none⟩ = some (.int .i64 x1) := by simp [World.cell?_alloc_new]
              have n1 : (wr.alloc (.cells #[.int .i64 x1, .int .i64 x2, .int .i64 x3] 50)).cell? ⟨wr.heap.size, 1, none⟩ = some (.int .i64 x2) := by simp [World.cell?_alloc_new]
              have n2 : (wr.alloc (.cells #[.int .i64 x1, .int .i64 x2, .int .i64 x3] 50)).cell? ⟨wr.heap.size, 2, none⟩ = some (.int .i64 x3) := by simp [World.cell?_alloc_new]
              have B4 := Lib.hid (then_ hB'.out ((Below.refl wr.heap.size wr).alloc (Nat.le_refl _) (.cells #[.int .i64 x1, .int .i64 x2, .int .i64 x3] 50)))
              have hsz : W.heap.size ≤ (wr.alloc (.cells #[.int .i64 x1, .int .i64 x2, .int .i64 x3] 50)).heap.size := by rw [World.size_alloc]; have := hB'.out.size; omega
              generalize wr.alloc (.cells #[.int .i64 x1, .int .i64 x2, .int .i64 x3] 50) = V at n0 n1 n2 B4 hsz ⊢
              obtain ⟨G, hG1, hG2⟩ : ∃ G : Regrown → World, (∀ r, Below V.heap.size V (G r)) ∧ (∀ w', Below V.heap.size V w' → ∃ r, w' = G r) := ⟨fun p => Sort.grow (redrawn V p.d) p.os, fun r => below_regrown V r.d r.os, fun w' h => regrown_of_below h⟩
              have hW0 : ∃ q, V.drew = G q := hG2 _ (Below.refl _ _).drew
              have c0 : ∀ r, (G r).cell? ⟨wr.heap.size, 0, none⟩ = some (.int .i64 x1) := fun r => cell_keep n0 (hG1 r)
              have c1 : ∀ r, (G r).cell? ⟨wr.heap.size, 1, none⟩ = some (.int .i64 x2) := fun r => cell_keep n1 (hG1 r)
              have c2 : ∀ r, (G r).cell? ⟨wr.heap.size, 2, none⟩ = some (.int .i64 x3) := fun r => cell_keep n2 (hG1 r)
              have H1 := Lib.hid (fun r => show Calls Tryz.prog 40 #[.int .i64 x1] (G r) (fun e w'' => e = .returned (.string ⟨Y1.toArray⟩) ∧ ∃ q : Regrown, w'' = G q) from (kind_any x1 hj.out.1.1 hj.out.1.2 (G r)).mono fun e w'' ⟨he, hb⟩ => ⟨by rw [he, hYs.out.1], hG2 _ (then_ (hG1 r) hb)⟩)
              have H2 := Lib.hid (fun r => show Calls Tryz.prog 39 #[.int .i64 x2] (G r) (fun e w'' => e = .returned (.string ⟨Y2.toArray⟩) ∧ ∃ q : Regrown, w'' = G q) from (digits_any x2 hj.out.2.1.1 hj.out.2.1.2 (G r)).mono fun e w'' ⟨he, hb⟩ => ⟨by rw [he, hYs.out.2.1], hG2 _ (then_ (hG1 r) hb)⟩)
              have H3 := Lib.hid (fun r => show Calls Tryz.prog 39 #[.int .i64 x3] (G r) (fun e w'' => e = .returned (.string ⟨Y3.toArray⟩) ∧ ∃ q : Regrown, w'' = G q) from (digits_any x3 hj.out.2.2.1 hj.out.2.2.2 (G r)).mono fun e w'' ⟨he, hb⟩ => ⟨by rw [he, hYs.out.2.2], hG2 _ (then_ (hG1 r) hb)⟩)
              have HB := Lib.hid (fun r => B4.out.trans ((hG1 r).mono hsz))
              clear hG1 hG2 n0 n1 n2 hsz
              go_wp2_with fail
              refine wp_region_G (G := G) (by kernel_rfl) (by kernel_rfl) hW0 ?_
              repeat (first | go_big_quiet_skip | (go_big_quiet_want; go_big_quiet_op; first | go_big_quiet_on | go_big_quiet_call (first | (go_at_call 40; exact H1.out _) | (go_at_call_of 39 (Value.int IntKind.i64 x2); exact H2.out _) | (go_at_call_of 39 (Value.int IntKind.i64 x3); exact H3.out _))))
              refine wpQuiet_nil ?_
              rintro _ ⟨r, rfl⟩
              go_wp2
              go_roundw
              case rel => exact ⟨k + 1, l3 ++ lUnit (x1, x2, x3), by go_num, by rw [hln.out]; simp only [cat]; first | done | rfl, by omega, hst.out, HB.out r⟩
              case measure => simp [intOf]; omega
            · obtain rfl : k = c.us.length := by omega
              have hl3 := Lib.hid (show l3 = l2 ++ c.us.flatMap lUnit from by rw [hl'.out, List.take_length])
              clear hl'
              go_wp2_with fail
              go_loopw [3, 94] (fun s i w' => ∃ (k : Nat) (l : Bs), i = .int .i64 (k : Int) ∧ s = .string ⟨l.toArray⟩ ∧ k ≤ c.ps.length ∧ l = l3 ++ (c.ps.take k).flatMap lPlan ∧ Below W.heap.size W w') (fun _ i _ => c.ps.length - (intOf i).toNat)
              case atStart => exact ⟨0, _, rfl, rfl, by omega, by simp, hB'.out⟩
              case round =>
                clear hB'
                obtain ⟨k, l4, rfl, rfl, hk, hl, hB⟩ := hrel
                have hl' := Lib.hid hl
                have hB' := Lib.hid hB
                have z1 := (hC'.out.below hB).at_ 5 _ rfl
                have hll : l4.length ≤ 40000 := by
                  have h1 := plans_len (c.ps.take k) (fun x hx => (hTp.out x (List.mem_of_mem_take hx)).1.2)
                  have h2 := planCost_le c.ps k
                  have h3 := hcst.out
                  rw [List.length_take] at h1
                  rw [hl, List.length_append]
                  omega
                clear hl hB
                by_cases hlt : k < c.ps.length
                · obtain ⟨x, hx⟩ : ∃ x, c.ps[k]? = some x := ⟨_, List.getElem?_eq_getElem hlt⟩
                  have hst := Lib.hid (show l4 ++ lPlan x = l3 ++ (c.ps.take (k + 1)).flatMap lPlan from by rw [hl'.out, flatMap_take _ hx, List.append_assoc])
                  have e1 : (k : Int) < (c.ps.length : Int) := by omega
                  have e2 : (0 : Int) ≤ (k : Int) := by omega
                  obtain ⟨ad, u, rfl, hat, hru⟩ := (hp.out.below hB'.out).at_ hx
                  obtain ⟨Ak, akc, rfl⟩ := hru.form
                  obtain ⟨j1, j2⟩ := hTp.out _ (List.mem_of_getElem? hx)
                  have hle := load_plan hat
                  obtain ⟨Y, hY⟩ : ∃ Y, dig x.urg = Y := ⟨_, rfl⟩
                  have y1 := dig_len j1.2
                  rw [hY] at y1
                  have hcost : x.code.length + x.kinds.length ≤ 4000 := Nat.le_trans (planCost_mem hx) hcst.out
                  have hY' := Lib.hid hY
                  have hj1 := Lib.hid j1
                  have hj2 := Lib.hid j2
                  clear hx hat j1 j2 hY
                  obtain ⟨P, hP⟩ : ∃ P, l4 ++ (wPlan ++ x.code ++ [32] ++ Y) = P := ⟨_, rfl⟩
                  have hPl : P.length ≤ 44100 := by rw [← hP]; unfold wPlan; simp only [List.length_append, List.length_cons, List.length_nil]; omega
                  have hP' := Lib.hid hP
                  clear hP
                  go_wp2_with (refine wpList_load_list rfl 43 _ rfl (ad.add (k * 3)) rfl [.string ⟨x.code.toArray⟩, .int .i64 x.urg, .slice Ak x.kinds.length akc] hle ?_)
                  have n0 : (wr.alloc (.cells #[.string ⟨x.code.toArray⟩, .int .i64 x.urg, .slice Ak x.kinds.length akc] 43)).cell? ⟨wr.heap.size, 0, none⟩ = some (.string ⟨x.code.toArray⟩) := by simp [World.cell?_alloc_new]
                  have n1 : (wr.alloc (.cells #[.string ⟨x.code.toArray⟩, .int .i64 x.urg, .slice Ak x.kinds.length akc] 43)).cell? ⟨wr.heap.size, 1, none⟩ = some (.int .i64 x.urg) := by simp [World.cell?_alloc_new]
                  have n2 : (wr.alloc (.cells #[.string ⟨x.code.toArray⟩, .int .i64 x.urg, .slice Ak x.kinds.length akc] 43)).cell? ⟨wr.heap.size, 2, none⟩ = some (.slice Ak x.kinds.length akc) := by simp [World.cell?_alloc_new]
                  have hBV : Below wr.heap.size wr (wr.alloc (.cells #[.string ⟨x.code.toArray⟩, .int .i64 x.urg, .slice Ak x.kinds.length akc] 43)) := (Below.refl wr.heap.size wr).alloc (Nat.le_refl _) _
                  have B4 := Lib.hid (then_ hB'.out hBV)
                  have hruV := Lib.hid (hru.below hBV)
                  have hsz : W.heap.size ≤ (wr.alloc (.cells #[.string ⟨x.code.toArray⟩, .int .i64 x.urg, .slice Ak x.kinds.length akc] 43)).heap.size := by rw [World.size_alloc]; have := hB'.out.size; omega
                  clear hBV hru
                  generalize wr.alloc (.cells #[.string ⟨x.code.toArray⟩, .int .i64 x.urg, .slice Ak x.kinds.length akc] 43) = V at n0 n1 n2 B4 hsz hruV ⊢
                  obtain ⟨G, hG1, hG2⟩ : ∃ G : Regrown → World, (∀ r, Below V.heap.size V (G r)) ∧ (∀ w', Below V.heap.size V w' → ∃ r, w' = G r) := ⟨fun p => Sort.grow (redrawn V p.d) p.os, fun r => below_regrown V r.d r.os, fun w' h => regrown_of_below h⟩
                  have hW0 : ∃ q, V.drew = G q := hG2 _ (Below.refl _ _).drew
                  have c0 : ∀ r, (G r).cell? ⟨wr.heap.size, 0, none⟩ = some (.string ⟨x.code.toArray⟩) := fun r => cell_keep n0 (hG1 r)
                  have c1 : ∀ r, (G r).cell? ⟨wr.heap.size, 1, none⟩ = some (.int .i64 x.urg) := fun r => cell_keep n1 (hG1 r)
                  have c2 : ∀ r, (G r).cell? ⟨wr.heap.size, 2, none⟩ = some (.slice Ak x.kinds.length akc) := fun r => cell_keep n2 (hG1 r)
                  have H1 := Lib.hid (fun r => show Calls Tryz.prog 39 #[.int .i64 x.urg] (G r) (fun e w'' => e = .returned (.string ⟨Y.toArray⟩) ∧ ∃ q : Regrown, w'' = G q) from (digits_any x.urg hj1.out.1 hj1.out.2 (G r)).mono fun e w'' ⟨he, hb⟩ => ⟨by rw [he, hY'.out], hG2 _ (then_ (hG1 r) hb)⟩)
                  have HB := Lib.hid (fun r => B4.out.trans ((hG1 r).mono hsz))
                  have HR := Lib.hid (fun r => hruV.out.below (hG1 r))
                  clear hG1 hG2 n0 n1 n2 hsz
                  go_wp2_with fail
                  refine wp_region_G (G := G) (by kernel_rfl) (by kernel_rfl) hW0 ?_
                  repeat (first | go_big_quiet_skip | (go_big_quiet_want; go_big_quiet_op; first | go_big_quiet_on | go_big_quiet_call ((go_at_call 39; exact H1.out _))))
                  refine wpQuiet_nil ?_
                  rintro _ ⟨r, rfl⟩
                  have hru2 := Lib.hid (HR.out r)
                  have hb2 := Lib.hid (HB.out r)
                  have c2 := c2 r
                  clear hW0 c0 c1 HR HB
                  generalize G r = V2 at hru2 hb2 c2 ⊢
                  go_wp2_with fail
                  clear c2
                  go_loopw [3, 111] (fun s i w' => ∃ (j : Nat) (l : Bs), i = .int .i64 (j : Int) ∧ s = .string ⟨l.toArray⟩ ∧ j ≤ x.kinds.length ∧ l = P ++ tKinds (x.kinds.take j) ∧ Below V2.heap.size V2 w') (fun _ i _ => x.kinds.length - (intOf i).toNat)
                  case atStart => exact ⟨0, P, rfl, by rw [← hP'.out]; simp only [cat]; first | done | rfl, by omega, by simp [tKinds], Below.refl _ _⟩
                  case round =>
                    obtain ⟨j, l5, rfl, rfl, hj, hl5, hBj⟩ := hrel
                    have hl5' := Lib.hid hl5
                    have hB5 := Lib.hid (then_ hb2.out hBj)
                    have hBj' := Lib.hid hBj
                    have hll5 : l5.length ≤ 80000 := by
                      have h1 := tKinds_len (x.kinds.take j)
                      rw [List.length_take] at h1
                      rw [hl5, List.length_append]; omega
                    clear hl5 hBj
                    by_cases hlj : j < x.kinds.length
                    · obtain ⟨z, hz⟩ : ∃ z, x.kinds[j]? = some z := ⟨_, List.getElem?_eq_getElem hlj⟩
                      have hst5 := Lib.hid (show l5 ++ (32 :: kindName z) = P ++ tKinds (x.kinds.take (j + 1)) from by unfold tKinds; rw [hl5'.out, flatMap_take _ hz, List.append_assoc]; rfl)
                      have i1 : (j : Int) < (x.kinds.length : Int) := by omega
                      have i2 : (0 : Int) ≤ (j : Int) := by omega
                      obtain ⟨adk, rfl, dk⟩ := (hru2.out.below hBj'.out).at_ hz
                      obtain ⟨q0, q1⟩ := hj2.out z (List.mem_of_getElem? hz)
                      have hkl := kind_len z
                      clear hz
                      go_wp2_with fail
                      refine (kind_any z q0 q1 _).mono ?_
                      rintro r w5 ⟨rfl, b5⟩
                      have hb6 := Lib.hid (then_ hBj'.out b5)
                      obtain ⟨Z, hZ⟩ : ∃ Z, kindName z = Z := ⟨_, rfl⟩
                      rw [hZ] at hkl hst5 ⊢
                      clear hZ b5
                      go_wp2
                      go_roundw
                      case rel => exact ⟨j + 1, l5 ++ (32 :: Z), by go_num, by rw [show (32 :: Z) = [32] ++ Z from rfl]; simp only [cat]; first | done | rfl, by omega, hst5.out, hb6.out⟩
                      case measure => simp [intOf]; omega
                    · obtain rfl : j = x.kinds.length := by omega
                      have hfin := Lib.hid (show l5 ++ [10] = l4 ++ lPlan x from by
                        rw [hl5'.out, List.take_length, ← hP'.out]; unfold lPlan; rw [hY'.out]; simp only [List.append_assoc])
                      clear hl5'
                      go_wp2
                      go_roundw
                      case rel => exact ⟨k + 1, l4 ++ lPlan x, by go_num, by rw [← hfin.out]; simp only [cat]; first | done | rfl, by omega, hst.out, hB5.out⟩
                      case measure => simp [intOf]; omega
                · obtain rfl : k = c.ps.length := by omega
                  have hl4 := Lib.hid (show l4 = l3 ++ c.ps.flatMap lPlan from by rw [hl'.out, List.take_length])
                  clear hl'
                  go_wp2_with fail
                  refine (default_any _).mono ?_
                  rintro r w2 ⟨rfl, b2⟩
                  have B2 := Lib.hid (then_ hB'.out b2)
                  clear b2
                  go_wp2_with fail
                  refine (numbers_any dflt _ _ (dflt_v _)).mono ?_
                  rintro r w3 ⟨un, rfl, hun, b3⟩
                  have B3 := Lib.hid (then_ B2.out b3)
                  obtain ⟨A8, c8, rfl⟩ := hun.form
                  rw [show dflt.nums.length = 10 from rfl] at hun
                  have hun' := Lib.hid hun
                  have hlc := (hC'.out.below B3.out).load
                  have hV' := Lib.hid (show CfgV w3 (.agg (cfgCells c (.slice Ad c.ds.length cd) (.slice Ae c.es.length ce) (.slice Au c.us.length cu) (.slice Ap c.ps.length cp)).toArray) c from ⟨_, _, _, _, rfl, hd.out.below B3.out, he.out.below B3.out, hu.out.below B3.out, hp.out.below B3.out⟩)
                  clear b3 hun
                  go_wp2_with (refine wpList_load_list rfl 27 _ rfl ⟨w.heap.size, 0, none⟩ rfl (cfgCells c (.slice Ad c.ds.length cd) (.slice Ae c.es.length ce) (.slice Au c.us.length cu) (.slice Ap c.ps.length cp)) hlc ?_)
                  refine (numbers_any c _ w3 hV'.out).mono ?_
                  rintro r w4 ⟨vn, rfl, hvn, b4⟩
                  have B4 := Lib.hid (then_ B3.out b4)
                  obtain ⟨A9, c9, rfl⟩ := hvn.form
                  rw [show c.nums.length = 10 from rfl] at hvn
                  have hvn' := Lib.hid hvn
                  have hun4 := Lib.hid (hun'.out.below b4)
                  clear b4 hvn hun' hlc
                  go_wp2_with fail
                  go_loopw [3, 129] (fun s i w' => ∃ (k : Nat) (l : Bs), i = .int .i64 (k : Int) ∧ s = .string ⟨l.toArray⟩ ∧ k ≤ 10 ∧ l = l4 ++ (List.range k).flatMap (fun i => lNum i (c.nums.getD i 0)) ∧ Below w4.heap.size w4 w') (fun _ i _ => 10 - (intOf i).toNat)
                  case atStart => exact ⟨0, _, rfl, rfl, by omega, by simp, Below.refl _ _⟩
                  case round =>
                    obtain ⟨k, l6, rfl, rfl, hk, hl6, hB6⟩ := hrel
                    have hl6' := Lib.hid hl6
                    have hll6 : l6.length ≤ 50000 := by
                      have h1 := nums_len c hTn.out k hk
                      rw [hl6, List.length_append]; omega
                    have B6 := Lib.hid (then_ B4.out hB6)
                    have hB6' := Lib.hid hB6
                    clear hl6 hB6
                    by_cases hlt : k < 10
                    · obtain ⟨x, hx⟩ : ∃ x, c.nums[k]? = some x := ⟨_, List.getElem?_eq_getElem (show k < c.nums.length from hlt)⟩
                      obtain ⟨y, hy⟩ : ∃ x, dflt.nums[k]? = some x := ⟨_, List.getElem?_eq_getElem (show k < dflt.nums.length from hlt)⟩
                      obtain ⟨ad, rfl, d0⟩ := RN.at_ (l := c.nums) (hvn'.out.below hB6'.out) hx
                      obtain ⟨ad8, rfl, d8⟩ := RN.at_ (l := dflt.nums) (hun4.out.below hB6'.out) hy
                      have hst := Lib.hid (show l6 ++ lNum k x = l4 ++ (List.range (k + 1)).flatMap (fun i => lNum i (c.nums.getD i 0)) from by
                        rw [List.range_succ, List.flatMap_append, ← List.append_assoc, ← hl6'.out]
                        simp [List.getD_eq_getElem?_getD, hx])
                      have hln := Lib.hid (show lNum k x = if x = y then [] else word k ++ [32] ++ dig x ++ [10] from by
                        unfold lNum; rw [List.getD_eq_getElem?_getD, hy]; rfl)
                      have hz := Lib.hid (hTn.out x (List.mem_of_getElem? hx))
                      have e1 : (k : Int) < 10 := by omega
                      have e2 : (0 : Int) ≤ (k : Int) := by omega
                      clear hx hy
                      by_cases hxy : x = y
                      · have hln := Lib.hid (show lNum k x = [] from by rw [hln.out, if_pos hxy])
                        have t1 : (x != y) = false := by simp [hxy]
                        clear hxy
                        go_wp2
                        go_roundw
                        case rel => exact ⟨k + 1, l6 ++ lNum k x, by go_num, by rw [hln.out, List.append_nil], by omega, hst.out, hB6'.out⟩
                        case measure => simp [intOf]; omega
                      · have hln := Lib.hid (show lNum k x = word k ++ [32] ++ dig x ++ [10] from by rw [hln.out, if_neg hxy])
                        have t1 : (x != y) = true := by simp [hxy]
                        clear hxy
                        have hyl := dig_len hz.out.2
                        obtain ⟨Y, hY⟩ : ∃ Y, dig x = Y := ⟨_, rfl⟩
                        rw [hY] at hyl
                        have HD := Lib.hid (digits_q x hz.out Y hY)
                        have hln := Lib.hid (show lNum k x = word k ++ [32] ++ Y ++ [10] from by rw [hln.out, hY])
                        clear hY
                        have hwl := word_len k
                        obtain ⟨Wd, hWd⟩ : ∃ Wd, word k = Wd := ⟨_, rfl⟩
                        rw [hWd] at hwl
                        have hln := Lib.hid (show lNum k x = Wd ++ [32] ++ Y ++ [10] from by rw [hln.out, hWd])
                        have HW := Lib.hid (fun W => (words_any W).mono (show ∀ e w', _ → ∃ A c, e = .returned (.slice (some A) 10 c) ∧ w'.cell? (A.add k) = some (.string ⟨Wd.toArray⟩) ∧ Below W.heap.size W w' from fun e w' ⟨A, c, h1, h2, h3⟩ => ⟨A, c, h1, hWd ▸ h2 k hlt, h3⟩))
                        clear hWd
                        have hb0 : Below wr.heap.size wr wr.drew := (Below.refl _ _).drew
                        have g1 : ¬ 9223372036854775807 < Wd.length + 1 := by omega
                        have g2 : ¬ 9223372036854775807 < Wd.length + 1 + Y.length := by omega
                        have g3 : ¬ 9223372036854775807 < Wd.length + 1 + Y.length + 1 := by omega
                        have g4 : ¬ 9223372036854775807 < l6.length + (Wd.length + 1 + Y.length + 1) := by omega
                        go_wp2_with fail
                        go_region_law (first
                            | (go_simp; go_at_call 39; refine (HD.out _).mono ?_; rintro r w8 ⟨rfl, m8, rfl⟩)
                            | (go_simp; go_at_call 41; refine (HW.out _).mono ?_; rintro r w7 ⟨A7, c7, rfl, d7, hbw⟩; have hb7 : Below wr.heap.size wr w7 := then_ hb0 hbw; clear hbw))
                        all_goals (
                          go_wp2
                          go_roundw
                          case rel => exact ⟨k + 1, l6 ++ lNum k x, by go_num, by rw [hln.out]; simp only [cat]; first | done | rfl, by omega, hst.out, then_ hB6'.out (below_drewN hb7 _)⟩
                          case measure => simp [intOf]; omega)
                    · obtain rfl : k = 10 := by omega
                      have hfin := Lib.hid (show l6 = text c from by
                        rw [hl6'.out, hl4.out, hl3.out, hl2.out, hl1.out]; rfl)
                      clear hl6'
                      go_wp2
                      go_ret
                      exact ⟨ret_s hfin.out, hB0'.out.trans (B6.out.mono hWl)⟩
end Go.Proofs.YtjklpikopgihgaaGreatDoor
