/- The law on NoAliasing: walk. -/
import Derived.Test.YtabciepnbmliiaaDoorV5
import Derived.Test.YtabciepnbmliiaaDoorKG
import Derived.Test.YtabciepnbmliiaaDoorE2
import Derived.BigQuiet
set_option linter.unusedVariables false
set_option linter.unusedSimpArgs false
set_option maxRecDepth 100000
namespace Go.Proofs.YtabciepnbmliiaaDoor
open Go.RowKit Go.Lib Go.Shelf Rg Nds

theorem run_append_A (w : World) (ty : TypeId) (base : Nat) (v : Value) (xs : List Ed3) (hown : OwnE w base v xs) (A : Option Addr) (c : Nat) (l : List Ed3) (hr : Re w A l.length l) (h63 : (xs.length + l.length) * 24 ≤ 140737488355328) (hbase : base ≤ w.heap.size) :
    ∃ v' w', (Builtin.append_ #[22, 22] ty #[v, .slice A l.length c]).run Tryd.prog w = .ok v' w' ∧ OwnE w' base v' (xs ++ l) ∧ w.grownBy w' v.ownBlock := by
  cases A with
  | some ad =>
    obtain ⟨v', w', h1, h2, h3, _⟩ := run_append_E w ty base v xs hown ad c l hr h63 hbase
    exact ⟨v', w', h1, h2, h3⟩
  | none =>
    have hl : l = [] := by
      rcases l with _ | ⟨x, r⟩
      · rfl
      · obtain ⟨_, h, _⟩ := hr.2 (by simp)
        cases h
    subst hl
    obtain ⟨i0, hi, _⟩ := info_parts info_edge
    exact ⟨v, w, run_append_none base 22 ty 35 i0 3 Tryd.underlying22 hi v xs.length c (ecs xs) hown, by rw [List.append_nil]; exact hown, ⟨rfl, rfl, rfl, Nat.le_refl _, fun _ _ _ => rfl⟩⟩
section
variable {ops : Array Oper} {rest : List Oper} {o : Oper} {a : Act} {w : World} {Q : Exit → Act → World → Prop}
theorem wpList_append_A (s x : Operand) (base : Nat) (v : Value) (xs : List Ed3) (A : Option Addr) (c : Nat) (l : List Ed3) (hgd : o.guard = none) (ho : o.op = .call { callee := .builtin .append, args := #[s, x], argTypes := #[22, 22] }) (hs : a.eval s = v) (hx : a.eval x = .slice A l.length c)
    (hown : OwnE w base v xs) (hr : Re w A l.length l) (h63 : (xs.length + l.length) * 24 ≤ 140737488355328) (hbase : base ≤ w.heap.size)
    (h : ∀ v' w', OwnE w' base v' (xs ++ l) → w.grownBy w' v.ownBlock → wpList Tryd.prog ops Q rest (a.put o.dst v') w') : wpList Tryd.prog ops Q (o :: rest) a w :=
  wpList_plain hgd fun _ hK => by
    obtain ⟨v', w', hr, h2, h3⟩ := run_append_A w o.type base v xs hown A c l hr h63 hbase
    unfold Oper.wp execOp
    simp only [ho, resolve, invoke, builtin, Sem.run_bind, Sem.run_pure, Result.andThen_ok, List.map_toArray, List.map_cons, List.map_nil, hs, hx, hr]
    exact hK _ _ (h v' w' h2 h3)
end

set_option maxHeartbeats 40000000 in
theorem lawNoAlias (v : Value) (N : Int) (l : List Ed3) (m : Nat) (W : World) (hn : NetIn W v N l) (hfit : NetFits v) (hm : m < 256) (hE : Env W) :
    Calls Tryd.prog 8 #[v, .int .u8 (m : Int)] W fun e w' => e = .returned (.bool true) ∧ Below W.heap.size W w' := by
  have HXI := Lib.hid (And.intro hn.node hn.edge)
  obtain ⟨a, cap, rfl, hre, hcap, hcm⟩ := hn.ex
  have hfl := hfit N a l.length cap rfl
  have b0 : Below W.heap.size W (W.alloc (.cells #[.int .i64 N, .slice a l.length cap] 24)) := (Below.refl W.heap.size W).alloc (Nat.le_refl _) _
  have hn0 := hn.below b0
  have HW := Lib.hid (wakes_any _ (hE.of b0))
  have HB0 := Lib.hid b0
  have HN := Lib.hid hn0
  have HA := Lib.hid hre
  have HX := Lib.hid (net_box (W := W) (N := N) (a := a) (k := l.length) (cap := cap))
  clear b0 hn0 hn hre hE hfit
  go_enter Tryd.func8, Tryd.ntmps8
  go_wp2_with fail
  refine HW.out.mono ?_
  rintro e w0 ⟨rfl, hB0⟩
  have h1 := keepH HX.out hB0
  have HB := Lib.hid (then_ HB0.out hB0)
  have HC := Lib.hid (fun w' (hb : Below w0.heap.size w0 w') => show w'.cell? ⟨W.heap.size, 0, none⟩ = some (.int .i64 N) ∧ w'.cell? ⟨W.heap.size, 1, none⟩ = some (.slice a l.length cap) from
    ⟨cell_of_row _ _ 0 _ _ _ (keepH h1 hb), cell_of_row _ _ 1 _ _ _ (keepH h1 hb)⟩)
  have HR := Lib.hid (fun w' (hb : Below w0.heap.size w0 w') => HA.out.below (then_ HB.out hb))
  have HN0 := Lib.hid (fun w' (hb : Below w0.heap.size w0 w') => HN.out.below (then_ hB0 hb))
  clear hB0 h1 HW HB0 HN HX
  have hb1 : Below w0.heap.size w0 (w0.alloc (.cells #[] 35)) := (Below.refl _ _).alloc (Nat.le_refl _) _
  have HO0 := Lib.hid (And.intro hb1 (HR.out _ hb1))
  obtain ⟨c0, c1⟩ := HC.out _ hb1
  clear hb1
  go_wp2_with (at_builtin; go_loud (refine wpList_append_A _ _ w0.heap.size _ [] a cap l rfl rfl rfl rfl (OwnE.empty w0 (Nat.le_refl _)) HO0.out.2 (by simp; omega) (by simp) ?_; intro v11 w2 hO hg; rw [List.nil_append] at hO; obtain ⟨A11, c11, rfl⟩ := hO.slice; have b2 := HO0.out.1.grown hg (by simp) (fun g hg => own_ge (OwnE.empty w0 (Nat.le_refl _)) hg); have HO := Lib.hid (And.intro hO b2); obtain ⟨c0, c1⟩ := HC.out _ b2; clear hO hg b2))
  refine (made_any _ N l w2 (OwnE.net HO.out.1 HXI.out.1 HXI.out.2)).mono ?_
  rintro e w3 hm3
  obtain ⟨b3, p, b, rfl, hp⟩ := hm3.pair
  have HB3 := Lib.hid (And.intro b3 (then_ HO.out.2 b3))
  have HS := Lib.hid (small_any _ N l w3 (HN0.out w3 HB3.out.2))
  have HP := Lib.hid hp
  clear hm3 hp b3 c0 c1
  obtain ⟨c0, c1⟩ := HC.out _ HB3.out.2
  cases q : (decide (N ≤ 12) && decide (l.length ≤ 40)) with
  | false =>
    have hs := HS.out
    rw [q] at hs
    go_wp2_with (go_at_call 18; refine hs.mono ?_; rintro e w4 ⟨rfl, b4⟩; have HB4 := Lib.hid (then_ HB3.out.2 b4); clear b4)
    go_ret
    exact ⟨rfl, then_ HB.out HB4.out⟩
  | true =>
  have hs := HS.out
  rw [q] at hs
  have hl40 : l.length ≤ 40 := by
    simp only [Bool.and_eq_true, decide_eq_true_eq] at q
    exact q.2
  clear HS q
  rcases HP.out with ⟨rfl, _⟩ | ⟨rfl, hF, lo, G, rfl, hlo, hG⟩
  · go_wp2_with (go_at_call 18; refine hs.mono ?_; rintro e w4 ⟨rfl, b4⟩; have HB4 := Lib.hid (then_ HB3.out.2 b4); clear b4)
    go_ret
    exact ⟨rfl, then_ HB.out HB4.out⟩
  have hN1 := hF.lo
  obtain ⟨N, rfl⟩ : ∃ k : Nat, N = (k : Int) := ⟨N.toNat, by omega⟩
  rw [Int.toNat_natCast] at hG
  have HF := Lib.hid hF
  have HG := Lib.hid hG
  have HLO := Lib.hid hlo
  clear hF hG hlo HP
  by_cases hl0 : l.length = 0
  · have HZ := Lib.hid hl0
    clear hl0
    go_wp2_with (go_at_call 18; refine hs.mono ?_; rintro e w4 ⟨rfl, b4⟩; have HB4 := Lib.hid (then_ HB3.out.2 b4); clear b4; have hlI : (l.length : Int) = 0 := by (have := HZ.out; omega))
    go_ret
    exact ⟨rfl, then_ HB.out HB4.out⟩
  have hl1 : 0 < l.length := by omega
  have hlI : ¬ (l.length : Int) = 0 := by omega
  have hlb : ((l.length : Int) == 0) = false := by simpa using hlI
  clear hl0
  obtain ⟨ad, hAd, _⟩ := HA.out.2 hl1
  subst hAd
  have hO3 := HO.out.1
  obtain ⟨g4, c4, hv, hg4b, hg4l⟩ := World.ownsRow.form hO3 hl1
  injection hv with hv1 _ hv3
  subst hv1 hv3
  obtain ⟨i, hmi⟩ : ∃ i : Nat, m % l.length = i := ⟨_, rfl⟩
  have hj : i < l.length := hmi ▸ Nat.mod_lt _ hl1
  have hmI : (m : Int) % (l.length : Int) = (i : Int) := by rw [← hmi]; rfl
  obtain ⟨x, hx⟩ : ∃ x, l.getD i (0, 0, 0) = x := ⟨_, rfl⟩
  have hxm := getD_mem_e l i hj
  rw [hx] at hxm
  have hxt := HF.out.times x hxm
  obtain ⟨x0, x1, x2⟩ := x
  have hx2 : 1 ≤ x2 ∧ x2 ≤ 4611686018427387904 := by
    rcases hxt with h | h
    · have : x2 = 4611686018427387904 := h
      omega
    · dsimp only at h
      omega
  obtain ⟨hx2a, hx2b⟩ := hx2
  have HX := Lib.hid hx
  have HG4 := Lib.hid (And.intro hg4b (And.intro hg4l hj))
  clear hO3 hg4b hg4l hxm hxt hx
  go_wp2_with (go_at_call 18; refine hs.mono ?_; rintro e w4 ⟨rfl, b4⟩; have hO4 := HO.out.1.to (then_ HB3.out.1 b4); have u2 := ecs_at l i 2 _ (ed_at HG4.out.2.2) (by omega); have u0 := ecs_at l i 0 _ (ed_at HG4.out.2.2) (by omega); rw [HX.out] at u0 u2; obtain ⟨k1, k2⟩ := row_cell3 hO4 (j := i * 3 + 2) u2; have st1 := World.ownsRow.stored hO4 (i * 3 + 2) (.int .i64 (x2 + 1)); obtain ⟨k3, k4⟩ := row_cell3 st1.1 (j := i * 3) (u := .int .i64 x0) (by rw [List.getElem?_set_ne (by omega)]; exact u0); have st2 := World.ownsRow.stored st1.1 (i * 3) (.int .i64 0); have HB4 := Lib.hid b4; have HS1 := Lib.hid st1.2; have HS2 := Lib.hid st2.2; clear b4 hO4 u0 u2 st1 st2 hs)
  have B4 := then_ HB3.out.2 HB4.out
  have B5 := B4.grown HS1.out B4.size (fun g hg => by injection hg with hg; have := HG4.out.1; omega)
  have B6 := B5.grown HS2.out B5.size (fun g hg => by injection hg with hg; have := HG4.out.1; omega)
  have hG6 := (HG.out.below HB4.out).to (w' := (w4.setCell ⟨g4, i * 3 + 2, none⟩ (.int .i64 (x2 + 1))).setCell ⟨g4, i * 3, none⟩ (.int .i64 0)) (fun b h1 h2 => by
    have h3 := HG4.out.2.1
    have h4 := HLO.out
    have h5 := HB4.out.size
    have h6 := HS1.out.size
    rw [HS2.out.block b (by omega) (fun e => by injection e with e; omega), HS1.out.block b (by omega) (fun e => by injection e with e; omega)])
  have hz6 : w3.heap.size ≤ ((w4.setCell ⟨g4, i * 3 + 2, none⟩ (.int .i64 (x2 + 1))).setCell ⟨g4, i * 3, none⟩ (.int .i64 0)).heap.size := by have := HB4.out.size; simpa using this
  have HB6 := Lib.hid (And.intro B6 hz6)
  have HG6 := Lib.hid hG6
  clear B4 B5 B6 hG6 hz6 k1 k2 k3 k4 HB4 HS1 HS2 HG c0 c1
  generalize (w4.setCell ⟨g4, i * 3 + 2, none⟩ (.int .i64 (x2 + 1))).setCell ⟨g4, i * 3, none⟩ (.int .i64 0) = w6 at *
  rw [hmI]
  clear hmI hmi
  have HI := Lib.hid HG4.out.2.2
  have hll : (l.map fun x => x.2.2).length = l.length := List.length_map ..
  have hli : ((l.map fun x => x.2.2).map (Value.int .i64))[i]? = some (.int .i64 x2) := by
    rw [List.getElem?_map, List.getElem?_map, ed_at HI.out, HX.out]; rfl
  have HLL := Lib.hid (And.intro hll hli)
  clear hll hli
  obtain ⟨AE, cE, _, _, _, _, hd0, _, _, hRe, _⟩ := HG6.out.head
  refine (times_any G AE cE l w6 hd0 hRe HF.out.few).mono ?_
  rintro e w7 ⟨v7, rfl, hT, b7⟩
  obtain ⟨gT, cT, rfl, hgT, hgTl⟩ := World.ownsRow.form hT (by rw [HLL.out.1]; exact hl1)
  obtain ⟨k1, k2⟩ := row_cell hT HLL.out.2
  have st1 := World.ownsRow.stored hT i (.int .i64 7)
  have hltN : i < l.length := HI.out
  have hltI : (i : Int) < (l.length : Int) := by omega
  rw [HLL.out.1]
  have B7 := then_ HB6.out.1 b7
  have B8 := b7.grown st1.2 b7.size (fun g hg => by injection hg with hg; omega)
  have HB8 := Lib.hid (And.intro (then_ HB6.out.1 B8) B8)
  obtain ⟨c0, c1⟩ := HC.out w7 B7
  clear hT st1 B7 B8 hd0 hRe b7
  go_wp2_with fail
  obtain ⟨AE, cE, _, _, _, _, hd0, _, _, hRe, _⟩ := (HG6.out.below (HB8.out.2.mono HB6.out.2)).head
  have he := edge_in G AE cE i l _ hd0 hRe HF.out.few HI.out
  rw [HX.out] at he
  unfold ed at he
  refine he.mono ?_
  rintro e w9 ⟨rfl, b9⟩
  have HB9 := Lib.hid (And.intro (then_ HB8.out.1 b9) (HB8.out.2.trans (b9.mono HB8.out.2.size)))
  have HBX := Lib.hid (heap_alloc_new w9 (.cells #[.int .i64 x0, .int .i64 x1, .int .i64 x2] 35))
  have HB10 := Lib.hid (And.intro (HB9.out.1.alloc HB9.out.1.size (.cells #[.int .i64 x0, .int .i64 x1, .int .i64 x2] 35)) (HB9.out.2.alloc HB9.out.2.size (.cells #[.int .i64 x0, .int .i64 x1, .int .i64 x2] 35)))
  clear he b9 hd0 hRe k1 k2 c0 c1 hgT hgTl
  go_wp2_with fail
  obtain ⟨AE, cE, _, _, _, _, hd0, _, _, hRe, _⟩ := (HG6.out.below (HB10.out.2.mono HB6.out.2)).head
  refine (times_any G AE cE l _ hd0 hRe HF.out.few).mono ?_
  rintro e w11 ⟨v11, rfl, hT, b11⟩
  obtain ⟨gU, cU, rfl, hgU, hgUl⟩ := World.ownsRow.form hT (by rw [HLL.out.1]; exact hl1)
  obtain ⟨k1, _⟩ := row_cell hT HLL.out.2
  rw [HLL.out.1]
  have B11 := then_ HB10.out.1 b11
  obtain ⟨c0, c1⟩ := HC.out w11 B11
  have m0 := keepH HBX.out b11
  have p0 := cell_of_row _ _ 0 _ _ _ m0
  have p1 := cell_of_row _ _ 1 _ _ _ m0
  have p2 := cell_of_row _ _ 2 _ _ _ m0
  obtain ⟨ad2, hA2, hc0, hc1, hc2⟩ := (HR.out w11 B11).at_ HI.out
  injection hA2 with hA2
  subst hA2
  rw [HX.out] at hc0 hc1 hc2
  have e0 : w11.cell? (ad.add (i * 3)) = some (.int .i64 x0) := hc0
  have e1 : w11.cell? ⟨(ad.add (i * 3)).block, (ad.add (i * 3)).off + 1, none⟩ = some (.int .i64 x1) := hc1
  have e2 : w11.cell? ⟨(ad.add (i * 3)).block, (ad.add (i * 3)).off + 2, none⟩ = some (.int .i64 x2) := hc2
  have HFin := Lib.hid (then_ HB.out B11)
  clear hc0 hc1 hc2 m0 B11 hT b11 hd0 hRe hgU hgUl HB10 HB9 HB8
  go_wp2_with fail
  go_quiet (fail)
  have HF2 := Lib.hid (show Below W.heap.size W (w11.drewN nq) from HFin.out.trans ⟨rfl, rfl, rfl, Nat.le_refl _, fun _ _ => rfl⟩)
  go_wp2_with fail
  go_ret
  exact ⟨by simp, HF2.out⟩
end Go.Proofs.YtabciepnbmliiaaDoor
