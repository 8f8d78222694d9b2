/- Edge and TravelTimes by their contracts. -/
import Derived.Test.YtabciepnbmliiaaDoorKV
set_option linter.unusedVariables false
set_option linter.unusedSimpArgs false
set_option maxRecDepth 100000
namespace Go.Proofs.YtabciepnbmliiaaDoor
open Go.RowKit Go.Lib Go.Shelf Rg Nds

/-- An edge as a value. -/
def ed (x : Ed3) : Value := .agg #[.int .i64 x.1, .int .i64 x.2.1, .int .i64 x.2.2]
theorem results_cell2 {fn : Func} {p t : Tmp} {ty : TypeId} (h : fn.results = #[.cell p ty, .tmp t]) (tmps : Array Value) (w : World) (g : Nat) (v : Value) (hp : tmps.getD p undef = .pointer (some ⟨g, 0, none⟩)) (hl : (loadVar ty ⟨g, 0, none⟩).run Tryd.prog w = .ok v w) :
    (results fn tmps).run Tryd.prog w = .ok (.tuple #[v, tmps.getD t undef]) w := by
  have hp' : tmps[p]?.getD undef = .pointer (some ⟨g, 0, none⟩) := by simpa using hp
  simp [results, h, hp', asAddr, Sem.run_bind, hl]
theorem load_ed {w : World} {g : Nat} {a b c : Int} (h : w.heap[g]? = some (.cells #[.int .i64 a, .int .i64 b, .int .i64 c] 35 (0, 0))) : (loadVar 35 ⟨g, 0, none⟩).run Tryd.prog w = .ok (.agg #[.int .i64 a, .int .i64 b, .int .i64 c]) w := by
  have := run_load_list w 35 ⟨g, 0, none⟩ [.int .i64 a, .int .i64 b, .int .i64 c] (by kernel_rfl) (by kernel_rfl) (fun j v hv => by
    rw [show (⟨g, 0, none⟩ : Addr).add j = ⟨g, j, none⟩ by unfold Addr.add; split <;> simp_all, cell_of_row _ _ j _ _ _ h]
    simpa using hv)
  simpa using this
theorem edge_in (G : Nat) (AE : Option Addr) (cE k : Nat) (l : List Ed3) (w : World) (hd0 : w.cell? ⟨G, 0, none⟩ = some (.slice AE l.length cE)) (hRe : Re w AE l.length l) (hl : l.length ≤ 16384) (hk : k < l.length) :
    Calls Tryd.prog 16 #[.pointer (some ⟨G, 0, none⟩), .int .i64 (k : Int)] w fun e w' => e = .returned (.tuple #[ed (l.getD k (0, 0, 0)), .bool true]) ∧ Below w.heap.size w w' := by
  have hkI : (k : Int) < (l.length : Int) := by omega
  have hb := hRe.below ((Below.refl w.heap.size w).alloc (Nat.le_refl _) (.cells #[.int .i64 0, .int .i64 0, .int .i64 0] 35))
  obtain ⟨ad, rfl, hc0, hc1, hc2⟩ := hRe.at_ hk
  unfold ed
  generalize l.getD k (0, 0, 0) = x at *
  obtain ⟨x0, x1, x2⟩ := x
  have e0 : w.cell? (ad.add (k * 3)) = some (.int .i64 x0) := hc0
  have e1 : w.cell? ⟨(ad.add (k * 3)).block, (ad.add (k * 3)).off + 1, none⟩ = some (.int .i64 x1) := hc1
  have e2 : w.cell? ⟨(ad.add (k * 3)).block, (ad.add (k * 3)).off + 2, none⟩ = some (.int .i64 x2) := hc2
  clear hc0 hc1 hc2 hb hRe
  have hA := Lib.hid (fun (p : Addr) (v : Value) (h : w.cell? p = some v) => cell_keep h ((Below.refl w.heap.size w).alloc (Nat.le_refl _) (.cells #[.int .i64 0, .int .i64 0, .int .i64 0] 35)))
  have d0 := hA.out _ _ hd0
  have f0 := hA.out _ _ e0
  have f1 := hA.out _ _ e1
  have f2 := hA.out _ _ e2
  have hk0 : ¬ (k : Int) < 0 := by omega
  clear hd0 e0 e1 e2 hA
  go_enter Tryd.func16, Tryd.ntmps16
  go_wp2_with fail
  refine bodyPost_ret (results_cell2 rfl _ _ w.heap.size _ rfl (load_ed (heap_alloc_new w _))) rfl ⟨rfl, ((Below.refl _ _).alloc (Nat.le_refl _) _)⟩
theorem edge_out (G : Nat) (AE : Option Addr) (cE : Nat) (i : Int) (l : List Ed3) (w : World) (hd0 : w.cell? ⟨G, 0, none⟩ = some (.slice AE l.length cE)) (hl : l.length ≤ 16384) (hi : ¬ (0 ≤ i ∧ i < l.length)) :
    Calls Tryd.prog 16 #[.pointer (some ⟨G, 0, none⟩), .int .i64 i] w fun e w' => e = .returned (.tuple #[ed (0, 0, 0), .bool false]) ∧ Below w.heap.size w w' := by
  unfold ed
  by_cases h0 : i < 0
  · go_enter Tryd.func16, Tryd.ntmps16
    go_wp2_with fail
    refine bodyPost_ret (results_cell2 rfl _ _ w.heap.size _ rfl (load_ed (heap_alloc_new w _))) rfl ⟨rfl, ((Below.refl _ _).alloc (Nat.le_refl _) _)⟩
  · have h1 : (l.length : Int) ≤ i := by omega
    have d0 := cell_keep hd0 ((Below.refl w.heap.size w).alloc (Nat.le_refl _) (.cells #[.int .i64 0, .int .i64 0, .int .i64 0] 35))
    clear hd0
    go_enter Tryd.func16, Tryd.ntmps16
    go_wp2_with fail
    refine bodyPost_ret (results_cell2 rfl _ _ w.heap.size _ rfl (load_ed (heap_alloc_new w _))) rfl ⟨rfl, ((Below.refl _ _).alloc (Nat.le_refl _) _)⟩

/-! ### Rows of travel times -/

theorem info_int64 : (Tryd.prog.info? 2).map (fun i => (i.zero, i.size, i.bytes)) = some (some (.int .i64 0), 1, 8) := by kernel_rfl
def OwnT (w : World) (base : Nat) (v : Value) (xs : List Int) : Prop := w.ownsRow base 2 1 v xs.length (xs.map (Value.int .i64))
theorem OwnT.slice {w : World} {base : Nat} {v : Value} {xs : List Int} (h : OwnT w base v xs) : ∃ A c, v = .slice A xs.length c := own_form h
theorem OwnT.to {w w' : World} {base : Nat} {v : Value} {xs : List Int} (h : OwnT w base v xs) (hb : Below w.heap.size w w') : OwnT w' base v xs := own_below h hb
section
variable {ops : Array Oper} {rest : List Oper} {o : Oper} {a : Act} {W : World} {Q : Exit → Act → World → Prop}
theorem wpList_pushT (s x : Operand) (base : Nat) (v : Value) (xs : List Int) (y : Int) (hgd : o.guard = none) (ho : o.op = .call { callee := .builtin .append, args := #[s, x], argTypes := #[31, 31] })
    (hs : a.eval s = v) (hx : a.eval x = .slice (some ⟨W.heap.size, 0, none⟩) 1 1) (hown : OwnT W base v xs) (hn : xs.length ≤ 1000000) (hbase : base ≤ W.heap.size)
    (h : ∀ v' w', OwnT w' base v' (xs ++ [y]) → Below base W w' → wpList Tryd.prog ops Q rest (a.put o.dst v') w') : wpList Tryd.prog ops Q (o :: rest) a (W.alloc (.cells #[.int .i64 y] 2)) := by
  have hown' : (W.alloc (.cells #[.int .i64 y] 2)).ownsRow base 2 1 v xs.length (xs.map (Value.int .i64)) := World.ownsRow.alloc hown _
  refine wpList_append1 hgd s x 31 2 ho 1 8 (.int .i64 0) Tryd.underlying31 info_int64 rfl (by decide) (by decide) base v xs.length _ hs hown' W.heap.size hx [.int .i64 y] rfl (fun j u hj => ?_) (by simp [Value.oneCell']) (by omega)
    (by simp; omega) (fun v' w' h2 h3 _ => h v' w' ?_ ?_)
  · match j, hj with
    | 0, hj => simp at hj; subst hj; exact cell_of_row _ _ 0 _ _ _ (heap_alloc_new W _)
    | j + 1, hj => simp at hj
  · unfold OwnT
    rw [List.length_append, List.map_append]
    exact h2
  · refine ((Below.refl base W).alloc hbase _).grown h3 (by simp; omega) (fun k hk => ?_)
    exact (World.ownsRow.lt hown' k hk).1
end
theorem times_succ (l : List Ed3) (k : Nat) (hk : k < l.length) : (l.take (k + 1)).map (fun x => x.2.2) = (l.take k).map (fun x => x.2.2) ++ [(l.getD k (0, 0, 0)).2.2] := by
  rw [take_next_e l k hk, List.map_append]; rfl
theorem times_any (G : Nat) (AE : Option Addr) (cE : Nat) (l : List Ed3) (w : World) (hd0 : w.cell? ⟨G, 0, none⟩ = some (.slice AE l.length cE)) (hRe : Re w AE l.length l) (hl : l.length ≤ 16384) :
    Calls Tryd.prog 13 #[.pointer (some ⟨G, 0, none⟩)] w fun e w' => ∃ v, e = .returned v ∧ OwnT w' w.heap.size v (l.map fun x => x.2.2) ∧ Below w.heap.size w w' := by
  obtain ⟨i0, hi, hz0, hz1, hz2⟩ := info_parts info_int64
  have HR := Lib.hid hRe
  have HD := Lib.hid hd0
  clear hRe
  go_enter Tryd.func13, Tryd.ntmps13
  go_wp2_with (refine wpList_make_own _ rfl _ _ 31 rfl w.heap.size 2 i0 _ 1 Tryd.underlying31 hi hz0 hz1 .i64 .i64 _ l.length rfl rfl rfl (by rw [hz2]; omega) (by unfold maxLen; omega) (Nat.le_refl _) ?_; intro w4 hown4 hg4; have hd0' := cell_keep HD.out ((Below.refl _ _).grown hg4 (Nat.le_refl _) (fun g hg => by cases hg)); have HM := Lib.hid (And.intro hown4 hg4); clear hown4 hg4)
  have hB4 : Below w.heap.size w w4 := (Below.refl _ _).grown HM.out.2 (Nat.le_refl _) (fun g hg => by cases hg)
  have hO4 : OwnT w4 w.heap.size (.slice (some ⟨w.heap.size, 0, none⟩) 0 l.length) ((l.take 0).map fun x => x.2.2) := HM.out.1
  go_loopw [3, 17] (fun v i W => ∃ k : Nat, i = .int .i64 k ∧ k ≤ l.length ∧ Hid (OwnT W w.heap.size v ((l.take k).map fun x => x.2.2)) ∧ Hid (Below w.heap.size w W)) (fun _ i _ => l.length - (RowKit.intOf i).toNat)
  case atStart => exact ⟨0, rfl, by omega, hO4, hB4⟩
  case round =>
    obtain ⟨k, rfl, hk, ho, hb⟩ := hrel
    clear HM hB4 hO4
    have hz := hb.out.size
    by_cases hlt : k < l.length
    · obtain ⟨ad, rfl, hc0, hc1, hc2⟩ := (HR.out.below hb.out).at_ hlt
      have hs := Lib.hid (times_succ l k hlt)
      generalize l.getD k (0, 0, 0) = x at hc0 hc1 hc2 hs
      obtain ⟨x0, x1, x2⟩ := x
      have e0 : wr.cell? (ad.add (k * 3)) = some (.int .i64 x0) := hc0
      have e1 : wr.cell? ⟨(ad.add (k * 3)).block, (ad.add (k * 3)).off + 1, none⟩ = some (.int .i64 x1) := hc1
      have e2 : wr.cell? ⟨(ad.add (k * 3)).block, (ad.add (k * 3)).off + 2, none⟩ = some (.int .i64 x2) := hc2
      clear hc0 hc1 hc2
      have hkI : (k : Int) < (l.length : Int) := by omega
      have hbx := Lib.hid (show Below wr.heap.size wr (wr.alloc (.cells #[.int .i64 x0, .int .i64 x1, .int .i64 x2] 35)) from (Below.refl _ _).alloc (Nat.le_refl _) _)
      have hll : ((l.take k).map fun x => x.2.2).length ≤ 1000000 := by rw [List.length_map, List.length_take]; omega
      have HO := Lib.hid (And.intro ho.out hll)
      clear ho hll
      generalize hT : ((l.take k).map fun x => x.2.2) = T at *
      go_wp2_with (at_builtin; refine wpList_pushT _ _ w.heap.size _ T x2 rfl rfl rfl (by first | rfl | go_simp) (HO.out.1.to hbx.out) HO.out.2 (by have := hbx.out.size; omega) ?_; intro v2 w2 hown2 hb2; have HP := Lib.hid (And.intro hown2 hb2); clear hown2 hb2)
      go_roundw
      case rel => exact ⟨k + 1, by go_num, by omega, by rw [hs.out]; exact HP.out.1, hb.out.trans ((hbx.out.mono hb.out.size).trans HP.out.2)⟩
      case measure => simp [RowKit.intOf]; omega
    · obtain rfl : k = l.length := by omega
      have ho' := ho.out
      rw [List.take_length] at ho'
      have HO := Lib.hid ho'
      clear ho ho'
      go_wp2_with fail
      go_ret
      exact ⟨_, rfl, HO.out, hb.out⟩
end Go.Proofs.YtabciepnbmliiaaDoor
