/- The code: readLines. -/
import Derived.Test.YtjklpikopgihgaaGreatDoorKF
set_option linter.unusedVariables false
set_option maxRecDepth 100000
set_option linter.unusedSimpArgs false
namespace Go.Proofs.YtjklpikopgihgaaGreatDoor
open Go.RowKit Go.Lib Cf

/-! ### A configuration that was built reads as one -/

theorem own_rn {w : World} {B : Nat} {v : Value} {l : List Int} (h : w.ownsRow B 3 1 v l.length (ncs l)) : RN w v l := by
  rcases h.2 with ⟨h1, h2⟩ | ⟨g, cap, cur, e, h1, hb, h2, h3, h4, h5⟩
  · exact .inl ⟨h1, List.eq_nil_of_length_eq_zero h2⟩
  · refine .inr ⟨⟨g, 0, none⟩, cap, e, fun j z hj => ?_⟩
    refine World.ownsRow.cells h (g := g) (by rw [e]; rfl) j _ ?_
    simp [ncs, hj]
theorem tcs_get : ∀ {l : List (Int × Int × Int)} {i : Nat} {x : Int × Int × Int}, l[i]? = some x → (tcs l)[i * 3]? = some (.int .i64 x.1) ∧ (tcs l)[i * 3 + 1]? = some (.int .i64 x.2.1) ∧ (tcs l)[i * 3 + 2]? = some (.int .i64 x.2.2)
  | [], i, x, h => by simp at h
  | y :: l, 0, x, h => by simp at h; subst h; simp [tcs]
  | y :: l, i + 1, x, h => by
    obtain ⟨h1, h2, h3⟩ := tcs_get (l := l) (i := i) (x := x) (by simpa using h)
    have e : tcs (y :: l) = [.int .i64 y.1, .int .i64 y.2.1, .int .i64 y.2.2] ++ tcs l := by simp [tcs]
    rw [e]
    refine ⟨?_, ?_, ?_⟩
    · rw [List.getElem?_append_right (by simp; omega)]; simpa [show (i + 1) * 3 - 3 = i * 3 from by omega] using h1
    · rw [List.getElem?_append_right (by simp; omega)]; simpa [show (i + 1) * 3 + 1 - 3 = i * 3 + 1 from by omega] using h2
    · rw [List.getElem?_append_right (by simp; omega)]; simpa [show (i + 1) * 3 + 2 - 3 = i * 3 + 2 from by omega] using h3
theorem pcs_get : ∀ {l : List (Plan × Value)} {i : Nat} {x : Plan × Value}, l[i]? = some x → (pcs l)[i * 3]? = some (.string ⟨x.1.code.toArray⟩) ∧ (pcs l)[i * 3 + 1]? = some (.int .i64 x.1.urg) ∧ (pcs l)[i * 3 + 2]? = some x.2
  | [], i, x, h => by simp at h
  | y :: l, 0, x, h => by simp at h; subst h; simp [pcs]
  | y :: l, i + 1, x, h => by
    obtain ⟨h1, h2, h3⟩ := pcs_get (l := l) (i := i) (x := x) (by simpa using h)
    have e : pcs (y :: l) = [.string ⟨y.1.code.toArray⟩, .int .i64 y.1.urg, y.2] ++ pcs l := by simp [pcs]
    rw [e]
    refine ⟨?_, ?_, ?_⟩
    · rw [List.getElem?_append_right (by simp; omega)]; simpa [show (i + 1) * 3 - 3 = i * 3 from by omega] using h1
    · rw [List.getElem?_append_right (by simp; omega)]; simpa [show (i + 1) * 3 + 1 - 3 = i * 3 + 1 from by omega] using h2
    · rw [List.getElem?_append_right (by simp; omega)]; simpa [show (i + 1) * 3 + 2 - 3 = i * 3 + 2 from by omega] using h3
theorem add_nil (g i : Nat) : (⟨g, 0, none⟩ : Addr).add i = ⟨g, i, none⟩ := by unfold Addr.add; split <;> simp_all
theorem own_r3 {w : World} {B : Nat} {T : TypeId} {v : Value} {l : List (Int × Int × Int)} (h : w.ownsRow B T 3 v l.length (tcs l)) : R3 w v l := by
  rcases h.2 with ⟨h1, h2⟩ | ⟨g, cap, cur, e, h1, hb, h2, h3, h4, h5⟩
  · exact .inl ⟨h1, List.eq_nil_of_length_eq_zero h2⟩
  · refine .inr ⟨⟨g, 0, none⟩, cap, e, fun j z hj => ?_⟩
    obtain ⟨q1, q2, q3⟩ := tcs_get hj
    have hc := World.ownsRow.cells h (g := g) (by rw [e]; rfl)
    exact ⟨hc _ _ q1, by rw [addr_add]; exact hc _ _ q2, by rw [addr_add]; exact hc _ _ q3⟩
/-- The rows of a configuration's lists, of one's own. -/
structure RwO (w : World) (B : Nat) (c : Cfg) (vd ve vu vp : Value) (ps : List (Plan × Value)) : Prop where
  d : w.ownsRow B 3 1 vd c.ds.length (ncs c.ds)
  e : w.ownsRow B 47 3 ve c.es.length (tcs c.es)
  u : w.ownsRow B 50 3 vu c.us.length (tcs c.us)
  p : w.ownsRow B 43 3 vp c.ps.length (pcs ps)
  pm : ps.map (·.1) = c.ps
  ks : ∀ q ∈ ps, w.ownsRow B 3 1 q.2 q.1.kinds.length (ncs q.1.kinds)
theorem CfO.rows {w : World} {B g : Nat} {c : Cfg} {vd ve vu vp : Value} {ps : List (Plan × Value)} (h : CfO w B g c vd ve vu vp ps) : RwO w B c vd ve vu vp ps := ⟨h.d, h.e, h.u, h.p, h.pm, fun q hq => (h.ks q hq).1⟩
theorem RwO.kt {w w' : World} {B : Nat} {c : Cfg} {vd ve vu vp : Value} {ps : List (Plan × Value)} (h : RwO w B c vd ve vu vp ps) (k : Kt [27] w w') : RwO w' B c vd ve vu vp ps :=
  ⟨own_kt h.d k (by decide), own_kt h.e k (by decide), own_kt h.u k (by decide), own_kt h.p k (by decide), h.pm, fun q hq => own_kt (h.ks q hq) k (by decide)⟩
theorem RwO.below {w w' : World} {B : Nat} {c : Cfg} {vd ve vu vp : Value} {ps : List (Plan × Value)} (h : RwO w B c vd ve vu vp ps) (k : Below w.heap.size w w') : RwO w' B c vd ve vu vp ps := h.kt (Kt.of_below _ k)
theorem RwO.cfgV {w : World} {B : Nat} {c : Cfg} {vd ve vu vp : Value} {ps : List (Plan × Value)} (h : RwO w B c vd ve vu vp ps) : CfgV w (.agg (cfgCells c vd ve vu vp).toArray) c := by
  refine ⟨vd, ve, vu, vp, rfl, own_rn h.d, own_r3 h.e, own_r3 h.u, ?_⟩
  have hp := h.p
  have hpl : ps.length = c.ps.length := by rw [← h.pm, List.length_map]
  rcases hp.2 with ⟨h1, h2⟩ | ⟨g', cap, cur, e, h1, hb, h2, h3, h4, h5⟩
  · exact .inl ⟨h1, List.eq_nil_of_length_eq_zero h2⟩
  · refine .inr ⟨⟨g', 0, none⟩, cap, e, h2, fun j q hj => ?_⟩
    obtain ⟨x, hx, hxq⟩ : ∃ x, ps[j]? = some x ∧ x.1 = q := by
      rw [← h.pm, List.getElem?_map] at hj
      obtain ⟨x, hx, e⟩ := Option.map_eq_some_iff.1 hj
      exact ⟨x, hx, e⟩
    subst hxq
    obtain ⟨q1, q2, q3⟩ := pcs_get hx
    have hc := World.ownsRow.cells hp (g := g') (by rw [e]; rfl)
    exact ⟨x.2, ⟨hc _ _ q1, by rw [addr_add]; exact hc _ _ q2, by rw [addr_add]; exact hc _ _ q3⟩, own_rn (h.ks x (List.mem_of_getElem? hx))⟩

/-! ### Whole stores -/

theorem info_cfg (c : Array Value) (h : c.size = 15) : (Tryz.prog.info? 27).map (·.size) = some c.size := by rw [h]; kernel_rfl
theorem wpList_store_cfg {ops : Array Oper} {rest : List Oper} {o : Oper} {a : Act} {w : World} {Q : Exit → Act → World → Prop} (hgd : o.guard = none) (x y : Operand) (ho : o.op = .store 27 x y) (G : Nat) (hx : a.eval x = .pointer (some ⟨G, 0, none⟩)) (c : Cfg) (vd ve vu vp : Value) (hy : a.eval y = .agg (cfgCells c vd ve vu vp).toArray)
    (h1 : vd.oneCell' = true) (h2 : ve.oneCell' = true) (h3 : vu.oneCell' = true) (h4 : vp.oneCell' = true) (c0 : Cfg) (vd0 ve0 vu0 vp0 : Value) (hs : CB w G c0 vd0 ve0 vu0 vp0)
    (h : wpList Tryz.prog ops Q rest (a.put o.dst undef) (w.setRow G (cfgCells c vd ve vu vp).toArray)) : wpList Tryz.prog ops Q (o :: rest) a w :=
  wpList_store_row hgd _ x y ho G _ hx hy 27 _ hs (info_cfg _ rfl) rfl (by simp [cfgCells, Value.oneCell'] at h1 h2 h3 h4 ⊢; exact ⟨h1, h2, h3, h4⟩) h
theorem wpList_load_arr {ops : Array Oper} {rest : List Oper} {o : Oper} {a : Act} {w : World} {Q : Exit → Act → World → Prop} (hgd : o.guard = none) (T : TypeId) (x : Operand) (ho : o.op = .load T x) (p : Addr) (hx : a.eval x = .pointer (some p)) (arr : Array Value)
    (hr : (loadVar T p).run Tryz.prog w = .ok (.agg arr) w) (h : wpList Tryz.prog ops Q rest (a.put o.dst (.agg arr)) w) : wpList Tryz.prog ops Q (o :: rest) a w :=
  wpList_plain hgd fun K hK => by
    unfold Oper.wp execOp
    simp only [ho, hx, Instr.loadAt, Instr.sureAddr, Sem.run_bind, Sem.run_pure, Result.andThen_ok, hr]
    exact hK _ _ h
theorem setRow_other (w : World) (g k : Nat) (cs : Array Value) (h : k ≠ g) : (w.setRow g cs).heap[k]? = w.heap[k]? := by
  unfold World.setRow
  simp [Array.getElem?_modify, Ne.symm h]
theorem size_setRow (w : World) (G : Nat) (cs : Array Value) : (w.setRow G cs).heap.size = w.heap.size := by unfold World.setRow; simp
theorem below_setRow {B : Nat} {w a : World} (h : Below B w a) {G : Nat} (hG : B ≤ G) (cs : Array Value) : Below B w (a.setRow G cs) :=
  ⟨h.os, h.tape, h.output, by rw [size_setRow]; exact h.size, fun k hk => (setRow_other a G k cs (by omega)).trans (h.block k hk)⟩
theorem Kt.setRow {X : List TypeId} {w : World} {G : Nat} {cs0 cs : Array Value} {T0 : TypeId} {f0 : Nat × Nat} (h : w.heap[G]? = some (Obj.cells cs0 T0 f0)) (hT : T0 ∈ X) : Kt X w (w.setRow G cs) := fun g cs1 T fz e ht => by
  rw [setRow_other w G g cs (fun e2 => by subst e2; rw [h] at e; injection e with e; injection e with _ e; exact ht (e ▸ hT))]
  exact e
/-- The configuration in the block is replaced by another one, whose rows lie elsewhere. -/
theorem CfO.put {w : World} {B g : Nat} {c c0 : Cfg} {vd ve vu vp a0 a1 a2 a3 : Value} {ps : List (Plan × Value)} (hs : CB w g c0 a0 a1 a2 a3) (hB : B ≤ g) (hd : w.ownsRow B 3 1 vd c.ds.length (ncs c.ds)) (he : w.ownsRow B 47 3 ve c.es.length (tcs c.es)) (hu : w.ownsRow B 50 3 vu c.us.length (tcs c.us)) (hp : w.ownsRow B 43 3 vp c.ps.length (pcs ps)) (pm : ps.map (·.1) = c.ps)
    (ks : ∀ q ∈ ps, w.ownsRow B 3 1 q.2 q.1.kinds.length (ncs q.1.kinds) ∧ ∀ i, q.2.ownBlock = some i → vd.ownBlock ≠ some i) : CfO (w.setRow g (cfgCells c vd ve vu vp).toArray) B g c vd ve vu vp ps := by
  have k : Kt [27] w (w.setRow g (cfgCells c vd ve vu vp).toArray) := Kt.setRow hs (by simp)
  exact ⟨setRow_heap _ _ _ _ _ _ hs, hB, own_kt hd k (by decide), own_kt he k (by decide), own_kt hu k (by decide), own_kt hp k (by decide), pm, fun q hq => ⟨own_kt (ks q hq).1 k (by decide), (ks q hq).2⟩⟩
theorem results_cell3 {fn : Func} {p t u : Tmp} {ty : TypeId} (h : fn.results = #[.cell p ty, .tmp t, .tmp u]) (tmps : Array Value) (w : World) (g : Nat) (arr : Array Value) (hp : tmps.getD p undef = .pointer (some ⟨g, 0, none⟩)) (hl : (loadVar ty ⟨g, 0, none⟩).run Tryz.prog w = .ok (.agg arr) w) :
    (results fn tmps).run Tryz.prog w = .ok (.tuple #[.agg arr, tmps.getD t undef, tmps.getD u undef]) w := by
  have hp' : tmps[p]?.getD undef = .pointer (some ⟨g, 0, none⟩) := by simpa using hp
  simp [results, h, hp', asAddr, Sem.run_bind, hl]
theorem own_one {w : World} {B : Nat} {T : TypeId} {k : Nat} {v : Value} {n : Nat} {xs : List Value} (h : w.ownsRow B T k v n xs) : v.oneCell' = true := by
  obtain ⟨A, c, e⟩ := own_form h
  subst e; rfl
def strLen : Value → Nat
  | .string b => b.size
  | _ => 0

set_option maxHeartbeats 4000000 in
theorem readLines_any (S : Bs) (w : World) (hE : Env w) (hS : S.length ≤ 900000) :
    Calls Tryz.prog 38 #[.string ⟨S.toArray⟩] w fun e w' => ∃ vd ve vu vp ps, e = .returned (.tuple #[.agg (cfgCells (mLines dflt 0 0 S).1 vd ve vu vp).toArray, .int .i64 ((mLines dflt 0 0 S).2.1 : Nat), .bool (mLines dflt 0 0 S).2.2]) ∧ RwO w' w.heap.size (mLines dflt 0 0 S).1 vd ve vu vp ps ∧ Below w.heap.size w w' := by
  have hC0 := CfO.new w (Nat.le_refl _) zeroC ⟨rfl, rfl, rfl, rfl⟩
  have hBa := alloc_below w (.cells (cfgCells zeroC (.slice none 0 0) (.slice none 0 0) (.slice none 0 0) (.slice none 0 0)).toArray 27)
  have hW9 := hE.size
  have hE' := Lib.hid hE
  unfold cfgCells zeroC at hC0 hBa
  go_enter Tryz.func38, Tryz.ntmps38
  go_wp2_with fail
  generalize w.alloc _ = W1 at hC0 hBa ⊢
  refine (default_is W1).mono ?_
  rintro e w2 ⟨rfl, b2⟩
  have hcb := (hC0.below b2).cb
  have B2 := hBa.trans (b2.mono hBa.size)
  have C3 := Lib.hid (CfO.put (B := w.heap.size) (c := dflt) (vd := .slice none 0 0) (ve := .slice none 0 0) (vu := .slice none 0 0) (vp := .slice none 0 0) (ps := []) hcb (Nat.le_refl _) (World.ownsRow_nil _ _ _ _) (World.ownsRow_nil _ _ _ _) (World.ownsRow_nil _ _ _ _) (World.ownsRow_nil _ _ _ _) rfl (fun q hq => by cases hq))
  have B3 := Lib.hid (below_setRow B2 (Nat.le_refl _) (cfgCells dflt (.slice none 0 0) (.slice none 0 0) (.slice none 0 0) (.slice none 0 0)).toArray)
  clear hC0 hBa b2 B2 hE
  go_wp2_with (refine wpList_store_cfg rfl _ _ rfl w.heap.size rfl dflt (.slice none 0 0) (.slice none 0 0) (.slice none 0 0) (.slice none 0 0) rfl rfl rfl rfl rfl _ _ _ _ _ hcb ?_)
  clear hcb
  go_loopw [0, 3, 5] (fun s n la w' => ∃ (l : Bs) (k : Nat) (c : Cfg) (p : Int), s = .string ⟨l.toArray⟩ ∧ n = .int .i64 (k : Int) ∧ la = .int .i64 p ∧ k + l.length ≤ S.length ∧ Okc k c ∧ mLines dflt 0 0 S = mLines c k p l ∧ CfP w' w.heap.size w.heap.size c ∧ Below w.heap.size w w') (fun s _ _ _ => strLen s)
  case atStart => exact ⟨S, 0, dflt, 0, rfl, rfl, rfl, by omega, okc_dflt, rfl, ⟨_, _, _, _, _, C3.out⟩, B3.out⟩
  case round =>
    clear C3 B3
    obtain ⟨l, k, c, p, rfl, rfl, rfl, hkl, hok, hml, hC, hB⟩ := hrel
    have hok' := Lib.hid hok
    have hml' := Lib.hid hml
    have hC' := Lib.hid hC
    have hB' := Lib.hid hB
    clear hok hml hC hB
    by_cases hl : l = []
    · subst hl
      have hfin := Lib.hid (show mLines dflt 0 0 S = (c, k, true) from by rw [hml'.out, mLines_nil])
      obtain ⟨vd, ve, vu, vp, ps, hO⟩ := hC'.out
      have hld := hO.cb.load
      have hcb := hO.cb
      have o1 := own_one hO.d; have o2 := own_one hO.e; have o3 := own_one hO.u; have o4 := own_one hO.p
      have hO2 := CfO.put hcb hO.low hO.d hO.e hO.u hO.p hO.pm hO.ks
      have hld2 := hO2.cb.load
      have hend := Lib.hid (show RwO (wr.setRow w.heap.size (cfgCells c vd ve vu vp).toArray) w.heap.size c vd ve vu vp ps ∧ Below w.heap.size w (wr.setRow w.heap.size (cfgCells c vd ve vu vp).toArray) from ⟨hO2.rows, below_setRow hB'.out (Nat.le_refl _) _⟩)
      have h1 : ((cfgCells c vd ve vu vp).toArray.all (·.oneCell')) = true := by simp [cfgCells, Value.oneCell'] at o1 o2 o3 o4 ⊢; exact ⟨o1, o2, o3, o4⟩
      have hi := info_cfg (cfgCells c vd ve vu vp).toArray rfl
      unfold CB at hcb
      obtain ⟨arr, harr0⟩ : ∃ arr, (cfgCells c vd ve vu vp).toArray = arr := ⟨_, rfl⟩
      have harr := Lib.hid harr0
      rw [harr0] at hld hld2 hcb hend h1 hi
      clear harr0
      clear hO hO2 o1 o2 o3 o4
      go_wp2_with (first
        | (refine wpList_load_arr rfl 27 _ rfl ⟨w.heap.size, 0, none⟩ rfl arr hld ?_)
        | (refine wpList_store_row rfl 27 _ _ rfl w.heap.size arr rfl rfl 27 arr hcb hi rfl h1 ?_))
      refine bodyPost_ret (results_cell3 rfl _ _ w.heap.size arr rfl hld2) rfl ⟨vd, ve, vu, vp, ps, ?_, ?_, hend.out.2⟩
      · rw [hfin.out, harr.out]; rfl
      · rw [hfin.out]; exact hend.out.1
    · have t1 : (l == []) = false := by simpa using hl
      have t2 : (l != []) = true := by simp [hl]
      have hle := hkl
      obtain ⟨q1, q2, q3, hq⟩ : ∃ q1 q2 q3, cut l [10] = (q1, (q2, q3)) := ⟨_, _, _, rfl⟩
      have hl1 := (cut_le l [10]).1
      have hl2 := cut_shorter l 10 hl
      have hHC := Lib.hid (cut_any l [10] wr (hE'.out.of hB'.out) (by omega))
      rw [hq] at hl1 hl2 hHC
      simp only at hl1 hl2 hHC
      have hstep := Lib.hid (fun (h1 : q3 = true) (h2 : mayF (mLine c q1).2 p = true) => show mLines dflt 0 0 S = mLines (mLine c q1).1 (k + 1) (mLine c q1).2 q2 from by
        rw [hml'.out, mLines_step hl (by rw [hq]; exact h1) (by rw [hq]; exact h2), hq])
      have hbad := Lib.hid (fun (h1 : ¬ (q3 = true ∧ mayF (mLine c q1).2 p = true)) => show mLines dflt 0 0 S = (zeroC, k + 1, false) from by
        rw [hml'.out, mLines_bad hl (by rw [hq]; exact h1)])
      have hokn := Lib.hid (hok'.out.line q1 (by omega))
      have hlens := Lib.hid (hok'.out.lens (by omega))
      have hlen1 := Lib.hid (show q1.length ≤ 900000 from by omega)
      clear hq hl
      go_wp2_with fail
      refine hHC.out.mono ?_
      rintro e w4 ⟨rfl, b4⟩
      have HL := Lib.hid (readLine_any w.heap.size w.heap.size c q1 w4 (hC'.out.below b4) hW9 (hE'.out.of (then_ hB'.out b4)) hlen1.out hlens.out)
      have B4 := Lib.hid (then_ hB'.out b4)
      have hk1 : (k : Int) + 1 ≤ 9223372036854775807 := by omega
      clear b4 hHC t1 t2
      go_wp2_with fail
      refine HL.out.mono ?_
      rintro e w5 ⟨rfl, C5, b5⟩
      obtain ⟨c2, p2, hm2⟩ : ∃ c2 p2, mLine c q1 = (c2, p2) := ⟨_, _, rfl⟩
      rw [hm2] at hstep hbad hokn C5
      rw [hm2]
      simp only at hstep hbad hokn C5 ⊢
      have C5' := Lib.hid C5
      have B5 := Lib.hid (B4.out.trans b5)
      clear hm2 C5 b5 HL
      -- the two ways
      have hfail : ¬ (q3 = true ∧ mayF p2 p = true) → True := fun _ => trivial
      clear hfail
      cases q3 with
      | false =>
        have hr := Lib.hid (hbad.out (fun e => by cases e.1))
        obtain ⟨vd, ve, vu, vp, ps, hO⟩ := C5'.out
        have hcb := hO.cb
        have hO2 := CfO.put (c := zeroC) (vd := .slice none 0 0) (ve := .slice none 0 0) (vu := .slice none 0 0) (vp := .slice none 0 0) (ps := []) hcb hO.low (World.ownsRow_nil _ _ _ _) (World.ownsRow_nil _ _ _ _) (World.ownsRow_nil _ _ _ _) (World.ownsRow_nil _ _ _ _) rfl (fun q hq => by cases hq)
        have hld2 := hO2.cb.load
        have hend := Lib.hid (show RwO (w5.setRow w.heap.size (cfgCells zeroC (.slice none 0 0) (.slice none 0 0) (.slice none 0 0) (.slice none 0 0)).toArray) w.heap.size zeroC (.slice none 0 0) (.slice none 0 0) (.slice none 0 0) (.slice none 0 0) [] ∧ Below w.heap.size w (w5.setRow w.heap.size (cfgCells zeroC (.slice none 0 0) (.slice none 0 0) (.slice none 0 0) (.slice none 0 0)).toArray) from ⟨hO2.rows, below_setRow B5.out (Nat.le_refl _) _⟩)
        clear hO hO2
        go_wp2_with (refine wpList_store_cfg rfl _ _ rfl w.heap.size rfl zeroC (.slice none 0 0) (.slice none 0 0) (.slice none 0 0) (.slice none 0 0) rfl rfl rfl rfl rfl _ _ _ _ _ hcb ?_)
        refine bodyPost_ret (results_cell3 rfl _ _ w.heap.size _ rfl hld2) rfl ⟨.slice none 0 0, .slice none 0 0, .slice none 0 0, .slice none 0 0, [], ?_, ?_, hend.out.2⟩
        · rw [hr.out]; simp
        · rw [hr.out]; exact hend.out.1
      | true =>
        go_wp2_with fail
        refine (mayF_any p2 p w5).mono ?_
        rintro e w6 ⟨rfl, rfl⟩
        cases hmf : mayF p2 p with
        | false =>
          have hr := Lib.hid (hbad.out (fun e => by rw [hmf] at e; cases e.2))
          obtain ⟨vd, ve, vu, vp, ps, hO⟩ := C5'.out
          have hcb := hO.cb
          have hO2 := CfO.put (c := zeroC) (vd := .slice none 0 0) (ve := .slice none 0 0) (vu := .slice none 0 0) (vp := .slice none 0 0) (ps := []) hcb hO.low (World.ownsRow_nil _ _ _ _) (World.ownsRow_nil _ _ _ _) (World.ownsRow_nil _ _ _ _) (World.ownsRow_nil _ _ _ _) rfl (fun q hq => by cases hq)
          have hld2 := hO2.cb.load
          have hend := Lib.hid (show RwO (w5.setRow w.heap.size (cfgCells zeroC (.slice none 0 0) (.slice none 0 0) (.slice none 0 0) (.slice none 0 0)).toArray) w.heap.size zeroC (.slice none 0 0) (.slice none 0 0) (.slice none 0 0) (.slice none 0 0) [] ∧ Below w.heap.size w (w5.setRow w.heap.size (cfgCells zeroC (.slice none 0 0) (.slice none 0 0) (.slice none 0 0) (.slice none 0 0)).toArray) from ⟨hO2.rows, below_setRow B5.out (Nat.le_refl _) _⟩)
          clear hO hO2 hmf
          go_wp2_with (refine wpList_store_cfg rfl _ _ rfl w.heap.size rfl zeroC (.slice none 0 0) (.slice none 0 0) (.slice none 0 0) (.slice none 0 0) rfl rfl rfl rfl rfl _ _ _ _ _ hcb ?_)
          refine bodyPost_ret (results_cell3 rfl _ _ w.heap.size _ rfl hld2) rfl ⟨.slice none 0 0, .slice none 0 0, .slice none 0 0, .slice none 0 0, [], ?_, ?_, hend.out.2⟩
          · rw [hr.out]; simp
          · rw [hr.out]; exact hend.out.1
        | true =>
          have hs := Lib.hid (hstep.out trivial hmf)
          clear hmf
          go_wp2
          go_roundw
          case rel => exact ⟨q2, k + 1, c2, p2, rfl, by go_num, rfl, by omega, hokn.out, hs.out, C5'.out, B5.out⟩
          case measure => simp only [strLen, sz]; omega
end Go.Proofs.YtjklpikopgihgaaGreatDoor
