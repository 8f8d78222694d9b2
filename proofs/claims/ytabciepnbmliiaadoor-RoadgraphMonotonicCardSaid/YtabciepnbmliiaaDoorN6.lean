/- The iterator of a set. -/
import Derived.Test.YtabciepnbmliiaaDoorN5
import Derived.RangeFuncNested
import Derived.RangeFuncBound
import Derived.RangeFuncCalls
import Derived.RangeFuncLeaves
import Derived.RangeFuncFrom
import Derived.Shelf.Abstract
import Derived.Shelf.RegionOpen
import Derived.OwnWalkIn
import Derived.TacticsInMore
import Derived.LoopNIn
import Derived.LoopIn
set_option linter.unusedVariables false
set_option linter.unusedSimpArgs false
namespace Go.Proofs.YtabciepnbmliiaaDoor
open Go.RowKit Go.Lib Go.Shelf Nds
attribute [local go_sem] Oper.semAt_some

/-! ### Operations inside a fence -/

section
variable {F : Fence} {n : Nat} {ops : Array Oper} {rest : List Oper} {o : Oper} {a : Act} {w : World} {Q : Exit → Act → World → Prop}

theorem wpListIn_runTo (hg : o.guard = none) (hd : ∀ c, o.op ≠ .defer c) (hab : o.about Tryd.prog w a.eval = none) (v : Value) (w' : World) (hrun : (execOp a.eval o).run Tryd.prog w = .ok (.value v) w')
    (h : wpListIn F n Tryd.prog ops Q rest (a.put o.dst v) w') : wpListIn F n Tryd.prog ops Q (o :: rest) a w := by
  refine wpListIn_plain hg fun K hK => ?_
  unfold Oper.wpIn
  refine ⟨fun f hf => (by rw [hab] at hf; cases hf), ?_⟩
  rw [Oper.semAt_plain F _ _ hd, hrun, Oper.uponIn_value]
  exact hK _ _ h

theorem run_load_set {ty : TypeId} (x : Operand) (g : Nat) (p : Nat → Bool) (hl : (loadVar ty ⟨g, 0, none⟩).run Tryd.prog w = .ok (.agg (cells p)) w)
    (ρ : Operand → Value) (ho : o.op = .load ty x) (hx : ρ x = .pointer (some ⟨g, 0, none⟩)) : (execOp ρ o).run Tryd.prog w = .ok (.value (.agg (cells p))) w := by
  unfold execOp
  simp only [ho, hx, Instr.loadAt, Instr.sureAddr, Sem.run_bind, Sem.run_pure, Result.andThen_ok, hl]

theorem wpListIn_load_arr (x : Operand) (g : Nat) (p : Nat → Bool) (hgd : o.guard = none) (ho : o.op = .load 51 x) (hx : a.eval x = .pointer (some ⟨g, 0, none⟩)) (hs : SetAt w g p)
    (h : wpListIn F n Tryd.prog ops Q rest (a.put o.dst (.agg (cells p))) w) : wpListIn F n Tryd.prog ops Q (o :: rest) a w :=
  wpListIn_runTo hgd (fun c e => by rw [ho] at e; cases e) (by simp [Oper.about, ho]) _ _ (run_load_set x g p (run_loadVar_row w g 53 51 (cells p) (0, 0) _ hs Tryd.underlying51 rfl (info_arr' p)) _ ho hx) h

theorem wpListIn_load_set (x : Operand) (g : Nat) (p : Nat → Bool) (hgd : o.guard = none) (ho : o.op = .load 53 x) (hx : a.eval x = .pointer (some ⟨g, 0, none⟩)) (hs : SetAt w g p)
    (h : wpListIn F n Tryd.prog ops Q rest (a.put o.dst (.agg (cells p))) w) : wpListIn F n Tryd.prog ops Q (o :: rest) a w :=
  wpListIn_runTo hgd (fun c e => by rw [ho] at e; cases e) (by simp [Oper.about, ho]) _ _ (run_load_set x g p (run_loadVar_row w g 53 53 (cells p) (0, 0) _ hs Tryd.underlying53 rfl (info_set' p)) _ ho hx) h
end

/-- The elements of the words below k, as numbers. -/
def eiTo (p : Nat → Bool) (k : Nat) : List Int := (elsTo p k).map fun (n : Nat) => (n : Int)
/-- The bits of y in word k, as numbers. -/
def inWord (k y : Nat) : List Int := (bitsOf y).map fun (j : Nat) => (k : Int) * 64 + (j : Int)
theorem eiTo_zero (p : Nat → Bool) : eiTo p 0 = [] := by simp [eiTo, elsTo_zero]
theorem eiTo_all (p : Nat → Bool) : eiTo p 64 = ei p := rfl
theorem eiTo_succ (p : Nat → Bool) (k : Nat) : eiTo p (k + 1) = eiTo p k ++ inWord k (word p k) := by
  unfold eiTo inWord
  rw [elsTo_succ, List.map_append, List.map_map]
  congr 1
  exact List.map_congr_left fun j _ => by simp only [Function.comp]; omega
theorem inWord_zero (k : Nat) : inWord k 0 = [] := by unfold inWord; rw [bitsOf_zero]; rfl
theorem inWord_step (k y : Nat) (h0 : y ≠ 0) (h : y < 18446744073709551616) : inWord k y = ((k : Int) * 64 + (ctz 64 y : Nat)) :: inWord k (y &&& (y - 1)) := by
  unfold inWord; rw [bitsOf_step y h0 h]; rfl
theorem eiTo_prefix (p : Nat → Bool) : ∀ d k, k + d = 64 → eiTo p k <+: ei p
  | 0, k, h => by obtain rfl : k = 64 := by omega
                  rw [eiTo_all]; exact List.prefix_refl _
  | d + 1, k, h => by
    refine List.IsPrefix.trans ?_ (eiTo_prefix p d (k + 1) (by omega))
    rw [eiTo_succ]; exact List.prefix_append _ _

theorem each_any (p : Nat → Bool) (w : World) :
    Calls Tryd.prog 43 #[.agg (cells p)] w fun e w' => e = .returned (.func (.func 54) #[] #[.pointer (some ⟨w.heap.size, 0, none⟩)]) ∧ w' = w.alloc (.cells (cells p) 53) := by
  have hmf : ∀ (fn : Fn) (first cap : Array Value) (w : World), (Instr.makeFunc fn first cap).run Tryd.prog w = .ok (.func fn first cap) w := fun _ _ _ _ => rfl
  go_enter Tryd.func43, Tryd.ntmps43
  go_wp2
  go_ret
  exact ⟨rfl, rfl⟩

/-- A table at the head of memory is kept. -/
theorem TabAt.below {g n₀ : Nat} {tab : List Nat} {w w' : World} (h : TabAt g tab w) (hb : Below n₀ w w') (hg : g < n₀) : TabAt g tab w' :=
  fun j hj => (hb.cell (p := ⟨g, j, none⟩) hg).trans (h j hj)

set_option maxRecDepth 100000 in
set_option maxHeartbeats 2000000 in
theorem eachF_in (n : Nat) (hn : 1 ≤ n) (l Bx n₀ : Nat) (h6 : 0 + 1 ≤ n₀) (p : Nat → Bool) (J Jx : List Int → World → Prop)
    (hY : ∀ pre x W, 0 ≤ x → x < 4096 → J pre W → pre.length < (ei p).length → YieldAt Fence.wide (n - 1) Tryd.prog l #[.int .i64 x] W fun e W' =>
      (e = .returned (.bool true) ∧ J (pre ++ [x]) W' ∧ Below n₀ W W') ∨ (e = .returned (.bool false) ∧ Jx (pre ++ [x]) W'))
    (W : World) (hs : SetAt W Bx p) (hT : TabAt 0 Lib.deBruijn64tab W) (h0 : J [] W) :
    CallsIn Fence.wide n Tryd.prog 54 #[.func (.yield l) #[] #[], .pointer (some ⟨Bx, 0, none⟩)] W fun e W' => (∃ v, e = .returned v) ∧
      ((∃ ys, ys = ei p ∧ J ys W') ∨ (∃ pre, pre <+: ei p ∧ Jx pre W')) := by
  refine callsIn_of_wp Tryd.func54 rfl trivial ?_ rfl
  simp only [Tryd.ntmps54, List.size_toArray, List.length_cons, List.length_nil, Nat.reduceAdd, Nat.reduceSub, Array.replicate_succ, Array.replicate_zero, List.push_toArray, List.append_toArray, List.nil_append, List.cons_append]
  gi_wp2_with (refine wpListIn_load_arr _ _ _ rfl rfl rfl hs ?_)
  gi_loopw [7] (fun i wr => ∃ k : Nat, i = .int .i64 k ∧ k ≤ 64 ∧ J (eiTo p k) wr ∧ TabAt 0 Lib.deBruijn64tab wr) (fun i _ => 64 - (RowKit.intOf i).toNat)
  case atStart => exact ⟨0, rfl, by omega, by rw [eiTo_zero]; exact h0, hT⟩
  case round =>
    obtain ⟨k, rfl, hk, hJ, hTr⟩ := hrel
    clear hs h0 hT
    by_cases hlt : k < 64
    · have hi := index_set p k hlt
      have hw := word_lt p k
      have hdk : decide ((k : Int) < 64) = true := by rw [decide_eq_true_iff]; omega
      gi_wp2
      obtain ⟨wo, rfl⟩ : ∃ wo : World, wo = wr := ⟨_, rfl⟩
      gi_loopw [4] (fun v w' => ∃ (y : Nat) (pre : List Int), v = .int .u64 y ∧ y < 18446744073709551616 ∧ pre ++ inWord k y = eiTo p (k + 1) ∧ J pre w' ∧ TabAt 0 Lib.deBruijn64tab w') (fun v _ => (bitsOf (RowKit.intOf v).toNat).length)
      case atStart => exact ⟨word p k, eiTo p k, rfl, hw, (eiTo_succ p k).symm, hJ, hTr⟩
      case round =>
        obtain ⟨y, pre, rfl, hy, hpre, hJ1, hT1⟩ := hrel
        clear hJ hTr hi hw
        by_cases h0 : y = 0
        · have hyb : ((y : Int) != 0) = false := by simp [h0]
          have hend : J (eiTo p (k + 1)) wr := by rw [← hpre, h0, inWord_zero, List.append_nil]; exact hJ1
          gi_wp2
          go_roundw
          case rel => exact ⟨k + 1, by go_num, by omega, hend, hT1⟩
          case measure => simp [RowKit.intOf]; omega
        · have hyb : ((y : Int) != 0) = true := by simp [h0]
          have hy1 : 1 ≤ y := by omega
          have hx := inWord_step k y h0 hy
          rw [hx] at hpre
          have hlen : pre.length < (ei p).length := by
            have h1 := (eiTo_prefix p (63 - k) (k + 1) (by omega)).length_le
            rw [← hpre, List.length_append, List.length_cons] at h1
            omega
          obtain ⟨hc1, _, _, hc2, _⟩ := ctz_facts y h0 hy
          have hand : bits .and .u64 (y : Int) ((y : Int) - 1) = ((y &&& (y - 1) : Nat) : Int) := by
            rw [show (y : Int) - 1 = ((y - 1 : Nat) : Int) by omega]
            exact bits_and_u64_nat _ _ hy (by omega)
          obtain ⟨fn, tmps, assign, body, hyl, hR⟩ := hY pre ((k : Int) * 64 + (ctz 64 y : Nat)) wr (by omega) (by omega) hJ1 hlen
          have HX := Lib.hid hx; clear hx
          have HP := Lib.hid hpre; clear hpre
          clear hlen
          gi_wp2_with (refine ⟨trivial, ?_⟩; gi_at_call 55; refine (callsIn_wide.2 (tz_any y _ hT1 h0 hy)).mono ?_; rintro e w' ⟨rfl, rfl⟩)
          refine hR.mono ?_
          rintro e W3 (⟨rfl, hJ3, hk3⟩ | ⟨rfl, hJx3⟩)
          · have hT3 := TabAt.below hT1 hk3 (by omega)
            gi_wp2
            go_roundw
            case rel => exact ⟨y &&& (y - 1), _, rfl, hc2, by rw [← HP.out]; simp, hJ3, hT3⟩
            case measure =>
              have hst := bitsOf_step y h0 hy
              simp [RowKit.intOf]
              rw [hst]; simp
          · gi_wp2
            refine bodyPost_ret (results_none rfl _ _ _) rfl ?_
            exact ⟨⟨_, rfl⟩, .inr ⟨_, ⟨inWord k (y &&& (y - 1)) ++ (ei p).drop (eiTo p (k + 1)).length, by rw [List.append_assoc]; show pre ++ ((k : Int) * 64 + (ctz 64 y : Nat)) :: (inWord k (y &&& (y - 1)) ++ _) = _; rw [← List.cons_append, ← List.append_assoc, HP.out]; exact List.prefix_iff_eq_append.1 (eiTo_prefix p (63 - k) (k + 1) (by omega))⟩, hJx3⟩⟩
    · obtain rfl : k = 64 := by omega
      rw [eiTo_all] at hJ
      gi_wp2
      go_end0
      exact ⟨⟨_, rfl⟩, .inl ⟨_, rfl, hJ⟩⟩

theorem each_stops (n : Nat) (hn : 1 ≤ n) (Bx n₀ : Nat) (p : Nat → Bool) (w : World) (hs : SetAt w Bx p) (hT : TabAt 0 Lib.deBruijn64tab w) (h6 : 0 + 1 ≤ n₀) (hsz : 0 + 1 ≤ w.heap.size) :
    SeqStopsK Fence.wide n Tryd.prog 54 #[.pointer (some ⟨Bx, 0, none⟩)] (fun x : Int => #[Value.int .i64 x]) (Below n₀) (fun ys => ys = ei p) (fun pre => pre <+: ei p) (ei p).length w := fun l J Jx W hW _ _ hY h0 =>
  eachF_in n hn l Bx n₀ h6 p J Jx (fun pre x W _ _ => hY pre x W) W (hs.below hW hs.lt) (TabAt.below hT hW (by omega)) h0

/-- A node. -/
abbrev Nd := { x : Int // 0 ≤ x ∧ x < 4096 }
def vals (l : List Nd) : List Int := l.map (·.1)
theorem vals_snoc (l : List Nd) (x : Nd) : vals (l ++ [x]) = vals l ++ [x.1] := by simp [vals]
theorem vals_length (l : List Nd) : (vals l).length = l.length := by simp [vals]

/-- The same, where the loop's body is told that it is handed a node. -/
theorem each_nodes (n : Nat) (hn : 1 ≤ n) (Bx n₀ : Nat) (p : Nat → Bool) (w : World) (hs : SetAt w Bx p) (hT : TabAt 0 Lib.deBruijn64tab w) (h6 : 0 + 1 ≤ n₀) (hsz : 0 + 1 ≤ w.heap.size) :
    SeqStopsK Fence.wide n Tryd.prog 54 #[.pointer (some ⟨Bx, 0, none⟩)] (fun x : Nd => #[Value.int .i64 x.1]) (Below n₀) (fun ys => vals ys = ei p) (fun pre => vals pre <+: ei p) (ei p).length w := by
  intro l J Jx W hW _ _ hY h0
  refine (eachF_in n hn l Bx n₀ h6 p (fun l W => ∃ l' : List Nd, vals l' = l ∧ J l' W) (fun l W => ∃ l' : List Nd, vals l' = l ∧ Jx l' W) ?_ W (hs.below hW hs.lt) (TabAt.below hT hW (by omega)) ⟨[], rfl, h0⟩).mono ?_
  · rintro pre x W1 hx0 hx1 ⟨l', rfl, hJ⟩ hlen
    refine (hY l' ⟨x, hx0, hx1⟩ W1 hJ (by rw [← vals_length]; exact hlen)).mono ?_
    rintro e W' (⟨rfl, hJ', hk⟩ | ⟨rfl, hJx'⟩)
    · exact .inl ⟨rfl, ⟨_, vals_snoc _ _, hJ'⟩, hk⟩
    · exact .inr ⟨rfl, ⟨_, vals_snoc _ _, hJx'⟩⟩
  · rintro e W' ⟨hv, (⟨ys, hys, l', hl, hJ⟩ | ⟨pre, hp, l', rfl, hJ⟩)⟩
    · exact ⟨hv, .inl ⟨l', hl.trans hys, hJ⟩⟩
    · exact ⟨hv, .inr ⟨l', hp, hJ⟩⟩

end Go.Proofs.YtabciepnbmliiaaDoor
