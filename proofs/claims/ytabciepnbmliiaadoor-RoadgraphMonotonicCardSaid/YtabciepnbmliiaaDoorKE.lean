/- Components: walk. -/
import Derived.Test.YtabciepnbmliiaaDoorKD
import Derived.Test.YtabciepnbmliiaaDoorMath4
import Derived.Great.BuildSlice
set_option linter.unusedVariables false
set_option linter.unusedSimpArgs false
set_option maxRecDepth 100000
namespace Go.Proofs.YtabciepnbmliiaaDoor
open Go.RowKit Go.Lib Go.Shelf Rg Nds

/-! ### Rows of sets -/
def scs (gs : List (List Int)) : List Value := gs.flatMap fun g => (cells (ofP g)).toList
theorem scs_length (gs : List (List Int)) : (scs gs).length = gs.length * 64 := by
  unfold scs; induction gs with
  | nil => rfl
  | cons e r ih => rw [List.flatMap_cons, List.length_append, ih, Array.length_toList, cells_size]; simp; omega
theorem scs_at : ∀ (gs : List (List Int)) (j i : Nat) (g : List Int), gs[j]? = some g → i < 64 → (scs gs)[j * 64 + i]? = (cells (ofP g)).toList[i]?
  | [], j, i, g, h, _ => by simp at h
  | x :: r, 0, i, g, h, hi => by
    simp at h; subst h
    show ((cells (ofP x)).toList ++ scs r)[0 * 64 + i]? = _
    rw [List.getElem?_append_left (by rw [Array.length_toList, cells_size]; omega)]; simp
  | x :: r, j + 1, i, g, h, hi => by
    simp at h
    show ((cells (ofP x)).toList ++ scs r)[(j + 1) * 64 + i]? = _
    rw [List.getElem?_append_right (by rw [Array.length_toList, cells_size]; omega)]
    rw [show (j + 1) * 64 + i - (cells (ofP x)).toList.length = j * 64 + i by rw [Array.length_toList, cells_size]; omega]
    exact scs_at r j i g h hi
def OwnS (w : World) (base : Nat) (v : Value) (gs : List (List Int)) : Prop := w.ownsRow base 53 64 v gs.length (scs gs)
theorem OwnS.slice {w : World} {base : Nat} {v : Value} {gs : List (List Int)} (h : OwnS w base v gs) : ∃ A c, v = .slice A gs.length c := own_form h
theorem load_set_mid {w : World} {g o : Nat} {p : Nat → Bool} (h : ∀ i, i < 64 → w.cell? ⟨g, o + i, none⟩ = some (.int .u64 (word p i))) : (loadVar 53 ⟨g, o, none⟩).run Tryd.prog w = .ok (.agg (cells p)) w := by
  have := run_load_list w 53 ⟨g, o, none⟩ (cells p).toList (by kernel_rfl) (by rw [Array.length_toList, cells_size]; kernel_rfl) (fun j v hv => by
    have hj : j < 64 := by have := (List.getElem?_eq_some_iff.1 hv).1; rw [Array.length_toList, cells_size] at this; exact this
    rw [Array.getElem?_toList, cells_at p j hj] at hv
    injection hv with hv; subst hv
    have h0 := h j hj
    rwa [show (⟨g, o, none⟩ : Addr).add j = ⟨g, o + j, none⟩ by unfold Addr.add; split <;> simp_all])
  simpa using this
/-- The slice at A, of n sets, reads gs. -/
def RdS (w : World) (A : Option Addr) (n : Nat) (gs : List (List Int)) : Prop :=
  n = gs.length ∧ (0 < n → ∃ g, A = some ⟨g, 0, none⟩ ∧ g < w.heap.size ∧ ∀ j p, gs[j]? = some p → ∀ i, i < 64 → w.cell? ⟨g, j * 64 + i, none⟩ = some (.int .u64 (word (ofP p) i)))
theorem RdS.below {w w' : World} {A : Option Addr} {n : Nat} {gs : List (List Int)} (h : RdS w A n gs) (hb : Below w.heap.size w w') : RdS w' A n gs :=
  ⟨h.1, fun hn => by
    obtain ⟨g, e, h1, h2⟩ := h.2 hn
    exact ⟨g, e, Nat.lt_of_lt_of_le h1 hb.size, fun j p hj i hi => cell_keep (h2 j p hj i hi) hb⟩⟩
theorem OwnS.cells {w : World} {base g n c : Nat} {gs : List (List Int)} (h : w.ownsRow base 53 64 (.slice (some ⟨g, 0, none⟩) n c) n (scs gs)) {j : Nat} {p : List Int} (hj : gs[j]? = some p) : ∀ i, i < 64 → w.cell? ⟨g, j * 64 + i, none⟩ = some (.int .u64 (word (ofP p) i)) := fun i hi => by
  have := World.ownsRow.cells h (g := g) rfl (j * 64 + i) _ ((scs_at gs j i p hj hi).trans (by rw [Array.getElem?_toList]; exact cells_at _ i hi))
  rwa [show (⟨g, 0, none⟩ : Addr).add (j * 64 + i) = ⟨g, j * 64 + i, none⟩ by unfold Addr.add; split <;> simp_all] at this
theorem OwnS.rd {w : World} {base c : Nat} {A : Option Addr} {gs : List (List Int)} (h : OwnS w base (.slice A gs.length c) gs) : RdS w A gs.length gs := by
  refine ⟨rfl, fun hn => ?_⟩
  obtain ⟨g, cap, hv, _, hlt⟩ := World.ownsRow.form h hn
  have hA : A = some ⟨g, 0, none⟩ := by injection hv
  subst hA
  exact ⟨g, rfl, hlt, fun j p hj => OwnS.cells h hj⟩
theorem RdS.load {w : World} {g n : Nat} {gs : List (List Int)} (h : RdS w (some ⟨g, 0, none⟩) n gs) {j : Nat} {p : List Int} (hj : gs[j]? = some p) : (loadVar 53 ⟨g, j * 64, none⟩).run Tryd.prog w = .ok (.agg (cells (ofP p))) w := by
  obtain ⟨g', e, _, h2⟩ := h.2 (by have := h.1; have := (List.getElem?_eq_some_iff.1 hj).1; omega)
  injection e with e; injection e with e; subst e
  exact load_set_mid (h2 j p hj)
theorem OwnS.below {w w' : World} {base : Nat} {v : Value} {gs : List (List Int)} (h : OwnS w base v gs) (hb : Below w.heap.size w w') : OwnS w' base v gs := own_below h hb
theorem info_setz : (Tryd.prog.info? 53).map (fun i => (i.zero, i.size, i.bytes)) = some (some (.agg (cells fun _ => false)), 64, 512) := by rw [cells_none]; kernel_rfl
theorem cells_zero : (Value.agg (cells fun _ => false)).cells.size = 64 := cells_size _
theorem fill_set (p : Nat → Bool) (cs : Array Value) (h : cs.size = 64) : Instr.fill (fun i => some (i * 64, 64)) cs [(0, .agg (cells p))] = some (cells p) := by
  have := Great.fill_whole (s := 64) (by decide) [.agg (cells p)] cs (fun v hv => by simp at hv; subst hv; exact cells_size p) (by simp [h])
  simp only [List.zipIdx_cons, List.zipIdx_nil, List.map_cons, List.map_nil] at this
  rw [this]
  have e : (List.flatMap (fun v : Value => v.cells.toList) [Value.agg (cells p)]).toArray = cells p := by
    show ((cells p).toList ++ []).toArray = cells p
    rw [List.append_nil]
  rw [e]
section
variable {ops : Array Oper} {rest : List Oper} {o : Oper} {a : Act} {W : World} {Q : Exit → Act → World → Prop}
/-- A slice of one set. -/
theorem wpList_build_set (x : Operand) (p : Nat → Bool) (hgd : o.guard = none) (ho : o.op = .buildSlice 60 1 #[(0, x)]) (hx : a.eval x = .agg (cells p))
    (h : wpList Tryd.prog ops Q rest (a.put o.dst (.slice (some ⟨W.heap.size, 0, none⟩) 1 1)) (W.alloc (.cells (cells p) 53))) : wpList Tryd.prog ops Q (o :: rest) a W := by
  obtain ⟨i0, hi, hz0, hz1, hz2⟩ := info_parts info_setz
  refine wpList_buildSlice hgd 60 53 1 #[(0, x)] ho (cells p) i0 _ Tryd.underlying60 hi hz0 (by rw [hz1]; decide) (by rw [hz1]; decide) ?_ h
  rw [hz1]
  have e : (#[(0, x)].map fun (i, x) => (i, a.eval x)).toList = [(0, Value.agg (cells p))] := by simp [hx]
  rw [e]
  exact fill_set p _ (by simp)
/-- append of one set. -/
theorem wpList_push_set (s x : Operand) (base : Nat) (v : Value) (gs : List (List Int)) (p : List Int) (hgd : o.guard = none) (ho : o.op = .call { callee := .builtin .append, args := #[s, x], argTypes := #[60, 60] })
    (hs : a.eval s = v) (hx : a.eval x = .slice (some ⟨W.heap.size, 0, none⟩) 1 1) (hown : OwnS W base v gs) (hn : gs.length ≤ 100000) (hbase : base ≤ W.heap.size)
    (h : ∀ v' w', OwnS w' base v' (gs ++ [p]) → (W.alloc (.cells (cells (ofP p)) 53)).grownBy w' v.ownBlock → wpList Tryd.prog ops Q rest (a.put o.dst v') w') : wpList Tryd.prog ops Q (o :: rest) a (W.alloc (.cells (cells (ofP p)) 53)) := by
  have hown' : (W.alloc (.cells (cells (ofP p)) 53)).ownsRow base 53 64 v gs.length (scs gs) := World.ownsRow.alloc hown _
  obtain ⟨i0, hi, hz0, hz1, hz2⟩ := info_parts info_setz
  obtain ⟨v', w', hr, h2, h3, _, h5⟩ := run_append_own_at (P := Tryd.prog) (w := W.alloc (.cells (cells (ofP p)) 53)) base 60 o.type 53 i0 _ 64 512 Tryd.underlying60 hi hz0 hz1 hz2 cells_zero (by decide) v gs.length (scs gs) hown' ⟨W.heap.size, 0, none⟩ 1 1 (cells (ofP p)).toList (by rw [Array.length_toList, cells_size]) (fun j u hj => by
    have hadd : (⟨W.heap.size, 0, none⟩ : Addr).add j = ⟨W.heap.size, j, none⟩ := by unfold Addr.add; split <;> simp_all
    rw [hadd, cell_of_row _ _ j _ _ _ (heap_alloc_new W _)]
    rw [Array.getElem?_toList] at hj; exact hj) (fun u hu => by
      have := cells_one (ofP p)
      rw [Array.all_eq_true_iff_forall_mem] at this
      exact this u (by simpa using hu)) (by unfold maxLen; omega) (by omega) (by simp; omega)
  refine wpList_plain hgd fun _ hK => ?_
  unfold Oper.wp execOp
  simp only [ho, resolve, invoke, builtin, Sem.run_bind, Sem.run_pure, Result.andThen_ok, List.map_toArray, List.map_cons, List.map_nil, hs, hx, hr]
  refine hK _ _ (h v' w' ?_ h3)
  unfold OwnS scs
  rw [List.length_append, List.flatMap_append]
  simpa [scs] using h2
end

theorem Rws.upd {w w2 : World} {base : Nat} {rs : List Value} {ls : List (List Int)} {k : Nat} {u : Value} {p' : List Int} (h : Rws w base rs ls) (hu : rs[k]? = some u) (hO : OwnI w2 base u p') (hg : w.grownBy w2 u.ownBlock) : Rws w2 base rs (ls.set k p') := by
  have hk := (List.getElem?_eq_some_iff.1 hu).1
  have hl := h.len
  refine ⟨by simp [hl], fun j x r hx hr => ?_, h.ap⟩
  rw [List.getElem?_set] at hr
  by_cases e : k = j
  · subst e
    rw [if_pos rfl, if_pos (by omega)] at hr
    rw [hu] at hx
    cases hx; cases hr; exact hO
  · rw [if_neg e] at hr
    exact (apart_grown (h.el j x r hx hr) (h.ap j k x u (fun e' => e e'.symm) hx hu) hg (fun b hb => .inl hb)).1
/-- The first k lists sorted. -/
def srtTo (gs : List (List Int)) (k : Nat) : List (List Int) := (gs.take k).map srt ++ gs.drop k
theorem srtTo_zero (gs : List (List Int)) : srtTo gs 0 = gs := by simp [srtTo]
theorem srtTo_all (gs : List (List Int)) : srtTo gs gs.length = gs.map srt := by simp [srtTo]
theorem srtTo_at {gs : List (List Int)} {k : Nat} {p : List Int} (h : gs[k]? = some p) : (srtTo gs k)[k]? = some p := by
  have hk := (List.getElem?_eq_some_iff.1 h).1
  unfold srtTo
  rw [List.getElem?_append_right (by simp; omega)]
  simp [List.getElem?_drop, Nat.min_eq_left (Nat.le_of_lt hk), h]
theorem srtTo_succ {gs : List (List Int)} {k : Nat} {p : List Int} (h : gs[k]? = some p) : srtTo gs (k + 1) = (srtTo gs k).set k (srt p) := by
  have hk := (List.getElem?_eq_some_iff.1 h).1
  have hp : gs[k] = p := by have := (List.getElem?_eq_some_iff.1 h).2; exact this
  unfold srtTo
  rw [List.take_succ_eq_append_getElem hk, List.set_append_right _ _ (by simp; omega), List.map_append]
  have : k - (List.map srt (gs.take k)).length = 0 := by simp; omega
  rw [this, List.drop_eq_getElem_cons hk, List.set_cons_zero, hp]
  simp

set_option maxHeartbeats 1000000 in
theorem comps_any (N : Nat) (l : List Ed3) (w : World) (lo hi G : Nat) (hG : GrP w lo hi G N l) (hhi : hi ≤ w.heap.size) :
    Calls Tryd.prog 30 #[.pointer (some ⟨G, 0, none⟩)] w fun e w' => Below w.heap.size w w' ∧ ∃ A c, e = .returned (.slice A (parts N l).length c) ∧ RdS w' A (parts N l).length (parts N l) := by
  have hF := hG.fair
  have hN2 := hF.hi
  have hgrs := groups_any N l w lo hi G hG hhi
  have h1 := groups_one hF
  have h2 := groups_some hF
  have h3 := groups_few hF
  have hcp := fun r hp hc => comp_parts (r := r) hF hp hc
  unfold GroupsGive at hgrs
  generalize groups l N = gs at *
  have HG := Lib.hid hgrs
  have HP := Lib.hid hcp
  have H1 := Lib.hid h1
  clear hG hgrs hcp h1
  go_enter Tryd.func30, Tryd.ntmps30
  go_wp2_with (go_at_call 48; refine HG.out.mono ?_; rintro e w2 ⟨hB, vg, us, rfl, hv, hr⟩; obtain ⟨gv, cg, rfl, hgb, hgl⟩ := World.ownsRow.form hv (by have := hr.len; omega); have HR := Lib.hid (And.intro hB (And.intro hv hr)); clear hB hv hr hgb hgl)
  have HUL := Lib.hid HR.out.2.2.len
  have hu0 : 0 < us.length := by have := HUL.out; omega
  have hu9 : us.length ≤ 4096 := by have := HUL.out; omega
  go_loopw [13] (fun i W => ∃ k : Nat, i = .int .i64 k ∧ k ≤ us.length ∧ Hid (OwnL W w.heap.size (.slice (some ⟨gv, 0, none⟩) us.length cg) us) ∧ Hid (Rws W w.heap.size us (srtTo gs k)) ∧ Hid (Below w.heap.size w W)) (fun i _ => us.length - (RowKit.intOf i).toNat)
  case atStart => exact ⟨0, rfl, by omega, HR.out.2.1, by show Rws _ _ _ _; rw [srtTo_zero]; exact HR.out.2.2, HR.out.1⟩
  case round =>
    obtain ⟨k, rfl, hk, hv, hr, hB⟩ := hrel
    clear HR
    by_cases hlt : k < us.length
    · have hkI : (k : Int) < (us.length : Int) := by omega
      have hgk : k < gs.length := by have := HUL.out; omega
      have hp : gs[k]? = some gs[k] := List.getElem?_eq_getElem hgk
      have hp1 := H1.out _ (List.getElem_mem hgk)
      generalize gs[k] = p at *
      have hu : us[k]? = some us[k] := List.getElem?_eq_getElem hlt
      have hO := hr.out.el k _ p hu (srtTo_at hp)
      have hcell := (row_cell hv.out hu).1
      generalize us[k] = u at *
      obtain ⟨Au, cu, rfl⟩ := hO.slice
      have hcall := sort_any wr w.heap.size (.slice Au p.length cu) p hO (by omega) (by omega)
      have HC := Lib.hid hcall
      have HQ := Lib.hid (And.intro hO (And.intro hp hu))
      clear hcall hO hp hu hp1
      go_wp2_with (go_at_call 49; refine HC.out.mono ?_; rintro e w3 ⟨rfl, hO3, hg3⟩; have HS := Lib.hid (And.intro hO3 hg3); clear hO3 hg3)
      go_roundw
      case rel =>
        obtain ⟨hO, hp, hu⟩ := HQ.out
        obtain ⟨hO3, hg3⟩ := HS.out
        refine ⟨k + 1, by go_num, by omega, ?_, ?_, hB.out.grown hg3 hB.out.size (fun g hg => own_ge hO hg)⟩
        · exact (apart_grown hv.out (apart_type hv.out hO (by decide)) hg3 (fun b hb => .inl hb)).1
        · show Rws _ _ _ _
          rw [srtTo_succ hp]
          exact hr.out.upd hu hO3 hg3
      case measure => simp [RowKit.intOf]; omega
    · obtain rfl : k = us.length := by omega
      have hr' := hr.out
      rw [HUL.out, srtTo_all] at hr'
      have hsf := sortFunc_any wr w.heap.size _ us (gs.map srt) hv.out hr' hu0 (by omega) (fun g hg => by
        obtain ⟨a, ha, rfl⟩ := List.mem_map.1 hg
        rw [srt_length]; have := (H1.out a ha).2; omega)
      have HSF := Lib.hid hsf
      have HV := Lib.hid (And.intro hv.out hB.out)
      obtain ⟨i0, hi, hz0, hz1, hz2⟩ := info_parts info_setz
      clear hsf hr' hv hr hB
      go_wp2_with (first
        | (go_at_call 50; refine HSF.out.mono ?_; rintro e w3 ⟨rfl, hg3, us3, gs3, hv3, hr3, hp3, hc3⟩; have HZ := Lib.hid (And.intro hg3 (And.intro hv3 (And.intro hr3 (And.intro hp3 hc3)))); clear hg3 hv3 hr3 hp3 hc3)
        | (refine wpList_make_own _ rfl _ _ 60 rfl w.heap.size 53 i0 _ 64 Tryd.underlying60 hi hz0 hz1 .i64 .i64 _ us.length rfl rfl rfl (by rw [hz2]; omega) (by unfold maxLen; omega) (by have := HZ.out.1.size; have := HV.out.2.size; omega) ?_; intro w4 hown4 hg4; have HM := Lib.hid (And.intro hown4 hg4); clear hown4 hg4))
      obtain ⟨hg3, hv3, hr3, hp3, hc3⟩ := HZ.out
      obtain ⟨hown4, hg4⟩ := HM.out
      obtain ⟨hvo, hB0⟩ := HV.out
      have hparts := HP.out gs3 hp3 hc3
      have hgl3 : gs3.length = us.length := by rw [hp3.length_eq, List.length_map]; exact HUL.out.symm
      have hul3 : us3.length = us.length := by rw [hr3.len]; exact hgl3
      have hB3 : Below w.heap.size w w3 := hB0.grown hg3 hB0.size (fun g hg => own_ge hvo hg)
      have b4 : Below w3.heap.size w3 w4 := (Below.refl _ _).grown hg4 (Nat.le_refl _) (fun g hg => by cases hg)
      have hs4 : OwnS w4 w.heap.size (.slice (some ⟨w3.heap.size, 0, none⟩) 0 us.length) (gs3.take 0) := hown4
      have hv4 : OwnL w4 w.heap.size (.slice (some ⟨gv, 0, none⟩) us.length cg) us3 := own_below hv3 b4
      have hr4 : Rws w4 w.heap.size us3 gs3 := hr3.kept (fun j u g hu hg => by
        obtain ⟨_, cur, hc⟩ := hr3.lt hu hg
        exact b4.block g (Array.getElem?_eq_some_iff.1 hc).1)
      have H4 := Lib.hid (And.intro hs4 (And.intro hv4 (And.intro hr4 (hB3.trans (b4.mono hB3.size)))))
      have HL := Lib.hid (And.intro hgl3 (And.intro hul3 hparts))
      have hg1 : ∀ g ∈ gs3, g.length ≤ N := fun g hg => by
        obtain ⟨a, ha, rfl⟩ := List.mem_map.1 (hp3.mem_iff.1 hg)
        rw [srt_length]; exact (H1.out a ha).2
      have HG1 := Lib.hid hg1
      clear hg3 hv3 hr3 hp3 hc3 hown4 hg4 hvo hB0 hparts hgl3 hul3 hB3 b4 hs4 hv4 hr4 hg1
      go_loopw [6, 27] (fun v i W => ∃ k : Nat, i = .int .i64 k ∧ k ≤ us.length ∧ Hid (OwnS W w.heap.size v (gs3.take k)) ∧ Hid (OwnL W w.heap.size (.slice (some ⟨gv, 0, none⟩) us.length cg) us3) ∧ Hid (Rws W w.heap.size us3 gs3) ∧ Hid (Below w.heap.size w W)) (fun _ i _ => us.length - (RowKit.intOf i).toNat)
      case atStart => exact ⟨0, rfl, by omega, H4.out.1, H4.out.2.1, H4.out.2.2.1, H4.out.2.2.2⟩
      case round =>
        obtain ⟨k, rfl, hk, hs, hv, hr, hB⟩ := hrel
        clear H4
        by_cases hlt : k < us.length
        · have hkI : (k : Int) < (us.length : Int) := by omega
          have hgk : k < gs3.length := by have := HL.out.1; omega
          have hp : gs3[k]? = some gs3[k] := List.getElem?_eq_getElem hgk
          have htk : gs3.take (k + 1) = gs3.take k ++ [gs3[k]] := List.take_succ_eq_append_getElem hgk
          have hpl := HG1.out _ (List.getElem_mem hgk)
          generalize gs3[k] = p at *
          have hk3 : k < us3.length := by have := HL.out.2.1; omega
          have hu : us3[k]? = some us3[k] := List.getElem?_eq_getElem hk3
          have hO := hr.out.el k _ p hu hp
          have hlen3 := HL.out.2.1
          have hvo : wr.ownsRow w.heap.size 42 1 (.slice (some ⟨gv, 0, none⟩) us.length cg) us.length us3 := by have := hv.out; unfold OwnL at this; rw [hlen3] at this; exact this
          have hcell := (row_cell hvo hu).1
          generalize us3[k] = u at *
          obtain ⟨Au, cu, rfl⟩ := hO.slice
          have hcall := of_any Au cu p.length p wr hO.rd (by omega)
          obtain ⟨Av, cv, rfl⟩ := hs.out.slice
          have hlk : (gs3.take k).length ≤ 100000 := by rw [List.length_take]; omega
          have HC := Lib.hid hcall
          have HK := Lib.hid (And.intro hp (And.intro htk hlk))
          clear hcall hO hp hu hpl hvo hlen3 htk hlk
          generalize gs3.take k = gk at *
          go_wp2_with (first
            | (go_at_call 26; refine HC.out.mono ?_; rintro e w5 ⟨rfl, b5⟩; have HB5 := Lib.hid b5; clear b5)
            | refine wpList_build_set _ _ rfl rfl rfl ?_
            | (at_builtin; refine wpList_push_set _ _ w.heap.size (.slice Av gk.length cv) gk p rfl rfl rfl rfl (OwnS.below hs.out HB5.out) HK.out.2.2 (by have := HB5.out.size; have := hB.out.size; omega) ?_; intro v6 w6 hs6 hg6; have HS6 := Lib.hid (And.intro hs6 hg6); clear hs6 hg6))
          go_roundw
          case rel =>
            obtain ⟨hs6, hg6⟩ := HS6.out
            have b5 := HB5.out
            have b6 : Below wr.heap.size wr (w5.alloc (.cells (cells (ofP p)) 53)) := b5.alloc b5.size _
            have hsa : (w5.alloc (.cells (cells (ofP p)) 53)).ownsRow w.heap.size 53 64 (.slice Av gk.length cv) gk.length (scs gk) := own_below hs.out b6
            refine ⟨k + 1, by go_num, by omega, ?_, ?_, ?_, ((hB.out.trans (b6.mono hB.out.size))).grown hg6 (by have := b6.size; have := hB.out.size; omega) (fun g hg => own_ge hs.out hg)⟩
            · show OwnS _ _ _ _
              rw [HK.out.2.1]; exact hs6
            · exact own_kept (own_below hv.out b6) (fun g hg => by
                obtain ⟨cur, hc⟩ := own_type (own_below hv.out b6) hg
                exact (far_row hsa hg6 hc (by decide)).trans hc.symm)
            · exact (hr.out.kept (fun j u g hu hg => by
                obtain ⟨_, cur, hc⟩ := hr.out.lt hu hg
                have h7 : (w5.alloc (.cells (cells (ofP p)) 53)).heap[g]? = some (.cells cur 3 (0, 0)) := (b6.block g (Array.getElem?_eq_some_iff.1 hc).1).trans hc
                exact (far_row hsa hg6 h7 (by decide)).trans hc.symm))
          case measure => simp [RowKit.intOf]; omega
        · have htk : gs3.take k = gs3 := List.take_of_length_le (by have := HL.out.1; omega)
          have hse := hs.out
          rw [htk, HL.out.2.2] at hse
          obtain ⟨Av, cv, rfl⟩ := hse.slice
          have HE := Lib.hid hse
          clear hse htk hs hv hr
          go_wp2_with fail
          go_ret
          exact ⟨hB.out, Av, cv, rfl, OwnS.rd HE.out⟩
end Go.Proofs.YtabciepnbmliiaaDoor
