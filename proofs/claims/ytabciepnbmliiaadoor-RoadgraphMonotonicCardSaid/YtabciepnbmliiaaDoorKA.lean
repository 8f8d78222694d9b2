/- Backward; clear. -/
import Derived.Test.YtabciepnbmliiaaDoorK9
import Derived.Test.YtabciepnbmliiaaDoorP
import Derived.Lib.SliceRun
set_option linter.unusedVariables false
set_option linter.unusedSimpArgs false
set_option maxRecDepth 100000
namespace Go.Proofs.YtabciepnbmliiaaDoor
open Go.RowKit Go.Lib Go.Shelf Rg
attribute [local go_sem] Oper.semAt_some

theorem setCells_heap : ∀ (xs : List Value) (w : World) (b o k : Nat), k ≠ b → (w.setCells b o xs).heap[k]? = w.heap[k]?
  | [], _, _, _, _, _ => rfl
  | x :: xs, w, b, o, k, h => by
    unfold World.setCells
    exact (setCells_heap xs _ b (o + 1) k h).trans (Below.heap_setCell _ _ _ _ h)
theorem setCells_size : ∀ (xs : List Value) (w : World) (b o : Nat), (w.setCells b o xs).heap.size = w.heap.size
  | [], _, _, _ => rfl
  | x :: xs, w, b, o => by unfold World.setCells; rw [setCells_size xs]; simp
theorem setCells_kept (xs : List Value) (w : World) (b o : Nat) : w.grownBy (w.setCells b o xs) (some b) := by
  induction xs generalizing w o with
  | nil => exact ⟨rfl, rfl, rfl, Nat.le_refl _, fun _ _ _ => rfl⟩
  | cons x xs ih =>
    unfold World.setCells
    have h1 := grownBy_setCellAt w ⟨b, o, none⟩ x
    have h2 := ih (w.setCell ⟨b, o, none⟩ x) (o + 1)
    exact ⟨h2.os.trans h1.os, h2.tape.trans h1.tape, h2.output.trans h1.output, Nat.le_trans h1.size h2.size, fun k hk hne => (h2.block k (by simpa using hk) hne).trans (h1.block k hk hne)⟩
theorem setCells_same : ∀ (n : Nat) (w : World) (b o : Nat) (z : Value), (∀ j, o ≤ j → j < o + n → (w.cell? ⟨b, j, none⟩).isSome = true) → ∀ j, (o ≤ j → j < o + n → (w.setCells b o (List.replicate n z)).cell? ⟨b, j, none⟩ = some z) ∧ (¬ (o ≤ j ∧ j < o + n) → (w.setCells b o (List.replicate n z)).cell? ⟨b, j, none⟩ = w.cell? ⟨b, j, none⟩) ∧ (w.setCells b o (List.replicate n z)).frozen? ⟨b, j, none⟩ = w.frozen? ⟨b, j, none⟩
  | 0, w, b, o, z, _, j => ⟨fun h1 h2 => by omega, fun _ => rfl, rfl⟩
  | n + 1, w, b, o, z, h, j => by
    rw [List.replicate_succ]
    unfold World.setCells
    have hs : ∀ j, ((w.setCell ⟨b, o, none⟩ z).cell? ⟨b, j, none⟩).isSome = (w.cell? ⟨b, j, none⟩).isSome ∨ j = o := fun j => by
      by_cases e : j = o
      · exact .inr e
      · exact .inl (by rw [World.cell?_setCell_other _ _ _ _ (by intro h2; injection h2 with _ h3 _; exact e h3.symm)])
    have ih := setCells_same n (w.setCell ⟨b, o, none⟩ z) b (o + 1) z (fun j h1 h2 => by
      rcases hs j with e | e
      · rw [e]; exact h j (by omega) (by omega)
      · omega) j
    refine ⟨fun h1 h2 => ?_, fun h1 => ?_, ih.2.2.trans (World.frozen?_setCell _ _ _ _)⟩
    · by_cases e : j = o
      · subst e
        rw [ih.2.1 (by omega)]
        exact World.cell?_setCell_same' _ _ _ (h j (by omega) (by omega))
      · exact ih.1 (by omega) (by omega)
    · rw [ih.2.1 (by omega)]
      exact World.cell?_setCell_other _ _ _ _ (by intro h2; injection h2 with _ h3 _; omega)
theorem SeenAt.cleared {w : World} {b N : Nat} {S : Int → Bool} (h : SeenAt w b N S) : SeenAt (w.setCells b 0 (List.replicate N (.bool false))) b N none_ := fun i hi => by
  have := setCells_same N w b 0 (.bool false) (fun j _ hj => by rw [(h j (by omega)).1]; rfl) i
  exact ⟨this.1 (by omega) (by omega), this.2.2.trans (h i hi).2⟩
section
variable {F : Fence} {n : Nat} {ops : Array Oper} {rest : List Oper} {o : Oper} {a : Act} {W : World} {Q : Exit → Act → World → Prop}
theorem wpListIn_clear (s : Operand) (hgd : o.guard = none) (ho : o.op = .call { callee := .builtin .clear, args := #[s], argTypes := #[75] }) (b N c : Nat) (S : Int → Bool) (hs : a.eval s = .slice (some ⟨b, 0, none⟩) N c) (hN : 0 < N) (hS : SeenAt W b N S)
    (h : wpListIn F n Tryd.prog ops Q rest (a.put o.dst (.tuple #[])) (W.setCells b 0 (List.replicate N (.bool false)))) : wpListIn F n Tryd.prog ops Q (o :: rest) a W := by
  have hr := run_clear_slice (P := Tryd.prog) W 75 4 o.type (.bool false) Tryd.underlying75 (fun w => by kernel_rfl) rfl rfl b 0 N c hN (fun j hj => by rw [Nat.zero_add, (hS j hj).1]; rfl) (fun j hj => by rw [Nat.zero_add]; exact (hS j hj).2)
  refine wpListIn_plain hgd fun K hK' => ?_
  unfold Oper.wpIn
  refine ⟨by simp [Oper.about, ho, resolve, Target.leads, Sem.run_pure], ?_⟩
  rw [Oper.semAt_plain F _ _ (by rw [ho]; intro c hc'; cases hc')]
  simp [execOp, ho, resolve, invoke, builtin, hs, hr, Result.andThen]
  exact hK' _ _ h
end

theorem backward_any (A : Option Addr) (n c : Nat) (w : World) :
    Calls Tryd.prog 56 #[.slice A n c] w fun e w' => e = .returned (.func (.func 61) #[] #[.pointer (some ⟨w.heap.size, 0, none⟩)]) ∧ w' = w.alloc (.cells #[.slice A n c] 42) := by
  have hmf : ∀ (fn : Fn) (first cap : Array Value) (w : World), (Instr.makeFunc fn first cap).run Tryd.prog w = .ok (.func fn first cap) w := fun _ _ _ _ => rfl
  go_enter Tryd.func56, Tryd.ntmps56
  go_wp2
  go_ret
  exact ⟨rfl, rfl⟩

theorem rev_at (zs : List Int) (k : Nat) (hk : k < zs.length) : zs.reverse.take (k + 1) = zs.reverse.take k ++ [zs.getD (zs.length - 1 - k) 0] := by
  have hl : k < zs.reverse.length := by simpa using hk
  rw [List.take_succ_eq_append_getElem hl, List.getElem_reverse, List.getD_eq_getElem?_getD, List.getElem?_eq_getElem (by omega)]; rfl

set_option maxHeartbeats 1000000 in
/-- A list from its end. -/
theorem backward_stops (n : Nat) (hn : 1 ≤ n) (X : Nat → Prop) (n₀ b1 c : Nat) (B : Option Addr) (zs : List Int) (w : World)
    (h1 : w.cell? ⟨b1, 0, none⟩ = some (.slice B zs.length c)) (hr : Rd w B zs.length zs) (hb1 : b1 < n₀ ∧ ¬ X b1)
    (hB : ∀ ad, B = some ad → 0 < zs.length → ad.block < n₀ ∧ ¬ X ad.block) (hlen : zs.length ≤ 1000000) :
    SeqStopsK Fence.wide n Tryd.prog 61 #[.pointer (some ⟨b1, 0, none⟩)] (fun x : {x : Int × Int // x.2 ∈ zs} => #[Value.int .i64 x.1.1, Value.int .i64 x.1.2]) (Kept X n₀) (fun ys => ys.map (fun x => x.1.2) = zs.reverse) (fun _ => True) zs.length w := by
  intro l J Jx W hW _ _ hY h0
  have h1 := cell_keep h1 hW
  have hr := hr.below hW
  clear hW
  refine callsIn_of_wp Tryd.func61 rfl trivial ?_ rfl
  simp only [Tryd.ntmps61, List.size_toArray, List.length_cons, List.length_nil, Nat.reduceAdd, Nat.reduceSub, Array.replicate_succ, Array.replicate_zero, List.push_toArray, List.append_toArray, List.nil_append, List.cons_append]
  gi_wp2
  gi_loopw [3] (fun i wr => ∃ (k : Nat) (pre : List {x : Int × Int // x.2 ∈ zs}), i = .int .i64 ((zs.length : Int) - 1 - (k : Int)) ∧ k ≤ zs.length ∧ Hid (pre.map (fun x => x.1.2) = zs.reverse.take k) ∧ Hid (pre.length = k) ∧ J pre wr ∧ Hid (wr.cell? ⟨b1, 0, none⟩ = some (.slice B zs.length c)) ∧ Hid (Rd wr B zs.length zs)) (fun i _ => (RowKit.intOf i + 1).toNat)
  case atStart => exact ⟨0, [], by go_num, by omega, by show _ = _; simp, rfl, h0, h1, hr⟩
  case round =>
    obtain ⟨k, pre, rfl, hk, hpre, hpl, hJ, hc, hrd⟩ := hrel
    clear h1 hr h0
    by_cases hlt : k < zs.length
    · obtain ⟨j, hj⟩ : ∃ j : Nat, j = zs.length - 1 - k := ⟨_, rfl⟩
      have hjl : j < zs.length := by omega
      have hji : (zs.length : Int) - 1 - (k : Int) = (j : Int) := by omega
      obtain ⟨ad, rfl, hce⟩ := hrd.out.at_ hjl
      have hm := getD_mem_i zs j hjl
      have hnx := rev_at zs k hlt
      rw [← hj] at hnx
      have hcb := hc.out
      rw [hji]
      obtain ⟨fn, tmps, assign, body, hyl, hR⟩ := hY pre ⟨((j : Int), zs.getD j 0), hm⟩ wr hJ (by rw [hpl.out]; omega)
      dsimp only at hyl
      have HX := Lib.hid hnx; clear hnx
      have HJ := Lib.hid hj; clear hj
      have HJI := Lib.hid hji; clear hji
      have hsm : (pre ++ [(⟨((j : Int), zs.getD j 0), hm⟩ : {x : Int × Int // x.2 ∈ zs})]).map (fun x => x.1.2) = zs.reverse.take k ++ [zs.getD j 0] := by rw [List.map_append, hpre.out]; rfl
      have HM := Lib.hid hsm; clear hsm
      generalize zs.getD j 0 = x at *
      have hjI : (j : Int) < (zs.length : Int) := by omega
      gi_wp2
      refine hR.mono ?_
      rintro e W3 (⟨rfl, hJ3, hk3⟩ | ⟨rfl, hJx3⟩)
      · have hr3 := Lib.hid (hk3.rd hrd.out hB)
        have hc3 := Lib.hid (hk3.cell hc.out hb1.1 hb1.2)
        gi_wp2
        go_roundw
        case rel =>
          have hE := HJI.out
          refine ⟨k + 1, _, ?_, by omega, HM.out.trans HX.out.symm, by show _ = _; rw [List.length_append, hpl.out]; rfl, hJ3, hc3, hr3⟩
          congr 1; omega
        case measure => first | (simp [RowKit.intOf]; done) | (simp [RowKit.intOf]; omega)
      · gi_wp2
        refine bodyPost_ret (results_none rfl _ _ _) rfl ?_
        exact ⟨⟨_, rfl⟩, .inr ⟨_, trivial, hJx3⟩⟩
    · have hend : pre.map (fun x => x.1.2) = zs.reverse := hpre.out.trans (List.take_of_length_le (by simp; omega))
      have hkk : (zs.length : Int) - 1 - (k : Int) = -1 := by omega
      rw [hkk]
      have HE := Lib.hid hend; clear hend
      gi_wp2
      go_end0
      exact ⟨⟨_, rfl⟩, .inl ⟨_, HE.out, hJ⟩⟩
end Go.Proofs.YtabciepnbmliiaaDoor
