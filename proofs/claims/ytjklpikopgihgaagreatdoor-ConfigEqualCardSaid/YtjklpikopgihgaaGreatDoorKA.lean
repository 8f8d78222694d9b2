/- The code: the kinds of a plan's line. -/
import Derived.Test.YtjklpikopgihgaaGreatDoorK9
set_option linter.unusedVariables false
set_option maxRecDepth 100000
set_option linter.unusedSimpArgs false
namespace Go.Proofs.YtjklpikopgihgaaGreatDoor
open Go.RowKit Go.Lib Cf

def ncs (l : List Int) : List Value := l.map fun n => Value.int .i64 n
def OwnN (w : World) (base : Nat) (v : Value) (l : List Int) : Prop := w.ownsRow base 3 1 v l.length (ncs l)
theorem infoInt : (Tryz.prog.info? 3).map (fun i => (i.zero, i.size, i.bytes)) = some (some (.int .i64 0), 1, 8) := by kernel_rfl
theorem ncs_app (l m : List Int) : ncs (l ++ m) = ncs l ++ ncs m := by simp [ncs]
theorem one_i64 (z : Int) : ∀ u ∈ ([.int .i64 z] : List Value), u.oneCell' = true := by simp [Value.oneCell']
theorem OwnN.one (w : World) {base : Nat} (hb : base ≤ w.heap.size) (z : Int) : OwnN (w.alloc (.cells #[.int .i64 z] 3)) base (.slice (some ⟨w.heap.size, 0, none⟩) 1 1) [z] := World.ownsRow_lit w #[.int .i64 z] 1 hb (by unfold maxLen; omega) rfl
/-- Rows of other types are as they were. -/
theorem own_kt {X : List TypeId} {w w' : World} {base : Nat} {T : TypeId} {k : Nat} {v : Value} {n : Nat} {xs : List Value} (h : w.ownsRow base T k v n xs) (hk : Kt X w w') (hT : T ∉ X) : w'.ownsRow base T k v n xs := by
  refine own_kept h fun g hg => ?_
  obtain ⟨cur, e⟩ := own_type h hg
  rw [hk _ _ _ _ e hT, e]

/-- A row of the call's own has grown. -/
theorem Left.grown {B g : Nat} {r : List Bs} {b : Bool} {w a c : World} {v : Value} {n : Nat} {xs : List Value} (h : Left B g r b w a) (hB : B ≤ w.heap.size) (hO : a.ownsRow w.heap.size 3 1 v n xs) (hg : a.grownBy c v.ownBlock) : Left B g r b w c := by
  have k : Kt [3] a c := Kt.grown hO (by simp) hg
  refine ⟨h.wd.kt k (by decide) (by decide), h.bel.grown hg (by have := h.bel.size; omega) (fun k hk => by have := (World.ownsRow.lt hO k hk).1; omega), fun g' cs T fz e ht => ?_⟩
  have h1 := h.kt g' cs T fz e ht
  rw [hg.block g' (Array.getElem?_eq_some_iff.1 h1).1 (fun e2 => by
    have := (World.ownsRow.lt hO g' e2.symm).1
    have := (Array.getElem?_eq_some_iff.1 e).1
    omega)]
  exact h1
def sliceLen : Value → Nat
  | .slice _ n _ => n
  | _ => 0
theorem orOne_one (r : List Bs) : (orOne r).take 1 = [hd r] ∧ 1 ≤ (orOne r).length := by cases r <;> simp [orOne, hd]
theorem tl_drop (r : List Bs) : tl r = r.drop 1 := by cases r <;> rfl
theorem hd_drop {r : List Bs} {k : Nat} (h : k < r.length) : hd (r.drop k) = r[k] ∧ tl (r.drop k) = r.drop (k + 1) := by
  rw [List.drop_eq_getElem_cons h]; exact ⟨rfl, rfl⟩
theorem orOne_ne {r : List Bs} {k : Nat} (h : k < r.length) : orOne r = r := by cases r with | nil => simp at h | cons x r => rfl
theorem Wl.drop {r : List Bs} (h : Wl r) (k : Nat) : Wl (r.drop k) := ⟨by rw [List.length_drop]; have := h.1; omega, fun x hx => h.2 x (List.mem_of_mem_drop hx)⟩

set_option maxHeartbeats 2000000 in
theorem wkinds_any (B g : Nat) (r : List Bs) (b : Bool) (w : World) (H : WdP w g r b) (hB : B ≤ g) (hB9 : 9 ≤ B) (hE : Env w) (hr : Wl r) :
    Calls Tryz.prog 101 #[.pointer (some ⟨g, 0, none⟩)] w fun e w' => ∃ v, e = .returned v ∧ OwnN w' w.heap.size v (mKinds (r, b)).1 ∧ Left B g (mKinds (r, b)).2.1 (mKinds (r, b)).2.2 w w' := by
  have HX := Lib.hid (wkind_any B g r b w H hB hB9 hE hr)
  have hE' := Lib.hid hE
  have hr' := Lib.hid hr
  have hgw := H.lt
  have hrl := hr.1
  clear H hE hr
  go_enter Tryz.func101, Tryz.ntmps101
  go_wp2_with fail
  refine HX.out.mono ?_
  rintro e w1 ⟨rfl, L1⟩
  have hm : mKind (r, b) = (kindOf (hd r), (tl r, b || decide (kindOf (hd r) = 0))) := rfl
  rw [hm, tl_drop] at L1
  rw [hm]
  simp only at L1 ⊢
  have hBw : B ≤ w.heap.size := by omega
  have hO1 := OwnN.one w1 (base := w.heap.size) L1.bel.size (kindOf (hd r))
  have L2 := L1.below hB ((Below.refl _ w1).alloc (Nat.le_refl _) (.cells #[.int .i64 (kindOf (hd r))] 3))
  have hst0 := Lib.hid (show OwnN (w1.alloc (.cells #[.int .i64 (kindOf (hd r))] 3)) w.heap.size (.slice (some ⟨w1.heap.size, 0, none⟩) 1 1) (((orOne r).take 1).map kindOf) ∧ Left B g (r.drop 1) (b || ((orOne r).take 1).any fun x => decide (kindOf x = 0)) w (w1.alloc (.cells #[.int .i64 (kindOf (hd r))] 3)) from by
    rw [(orOne_one r).1]
    refine ⟨hO1, ?_⟩
    simpa using L2)
  have h1le := (orOne_one r).2
  generalize kindOf (hd r) = z at *
  clear L1 L2 hO1 hm HX
  go_wp2_with fail
  go_loopw [3] (fun s w' => ∃ k : Nat, 1 ≤ k ∧ k ≤ (orOne r).length ∧ OwnN w' w.heap.size s (((orOne r).take k).map kindOf) ∧ Left B g (r.drop k) (b || ((orOne r).take k).any fun x => decide (kindOf x = 0)) w w') (fun s _ => (orOne r).length - sliceLen s)
  case atStart => exact ⟨1, Nat.le_refl _, h1le, hst0.out.1, hst0.out.2⟩
  case round =>
    obtain ⟨k, hk1, hk2, hO, hL⟩ := hrel
    have hlk : (((orOne r).take k).map kindOf).length = k := by rw [List.length_map, List.length_take]; omega
    obtain ⟨vA, vc, ev⟩ := own_form hO
    rw [hlk] at ev
    subst ev
    have hO' := Lib.hid hO
    have hL' := Lib.hid hL
    obtain ⟨u, e1, A, c1, rfl, _, _⟩ := hL.wd
    obtain ⟨c0, _, _, _⟩ := wd_cells e1
    obtain ⟨m, hmm⟩ : ∃ m, (r.drop k).length = m := ⟨_, rfl⟩
    rw [hmm] at c0
    have hml : m ≤ 1000000 := by rw [← hmm, List.length_drop]; omega
    clear hO hL e1 hst0
    by_cases hlt : k < r.length
    · have hm0 : 0 < m := by rw [← hmm, List.length_drop]; omega
      have t1 : (0 : Int) < (m : Int) := by omega
      have HX := Lib.hid (wkind_any B g (r.drop k) (b || ((orOne r).take k).any fun x => decide (kindOf x = 0)) wr hL'.out.wd hB hB9 (hE'.out.keep (hL'.out.bel.mono hB9)) (hr'.out.drop k))
      obtain ⟨hh, ht⟩ := hd_drop hlt
      have hone := orOne_ne hlt
      have hmk : mKind (r.drop k, (b || ((orOne r).take k).any fun x => decide (kindOf x = 0))) = (kindOf r[k], (r.drop (k + 1), (b || ((orOne r).take k).any fun x => decide (kindOf x = 0)) || decide (kindOf r[k] = 0))) := by unfold mKind; simp only [hh, ht]
      rw [hmk] at HX
      simp only at HX
      have htk : (orOne r).take (k + 1) = (orOne r).take k ++ [r[k]] := by
        rw [hone, List.take_add_one, List.getElem?_eq_getElem hlt]; rfl
      have htk' := Lib.hid htk
      have hkk : k + 1 ≤ (orOne r).length := by rw [hone]; omega
      have h63 := Lib.hid (show k ≤ 10000000 from by omega)
      generalize r[k] = x at *
      obtain ⟨z2, hz2⟩ : ∃ z2, kindOf x = z2 := ⟨_, rfl⟩
      have hz2' := Lib.hid hz2
      rw [hz2] at HX
      clear hh ht hone hmk htk hmm hz2
      go_wp2_with fail
      refine HX.out.mono ?_
      rintro e w2 ⟨rfl, L2⟩
      have L3 := Lib.hid ((hL'.out.after L2).below hB ((Below.refl _ w2).alloc (Nat.le_refl _) (.cells #[.int .i64 z2] 3)))
      have hO2 : OwnN w2 w.heap.size (.slice vA k vc) (((orOne r).take k).map kindOf) := own_kt hO'.out L2.kt (by decide)
      unfold OwnN at hO2
      rw [hlk] at hO2
      have O3 := Lib.hid (World.ownsRow.alloc hO2 (.cells #[.int .i64 z2] 3))
      have hsz : w.heap.size ≤ (w2.alloc (.cells #[.int .i64 z2] 3)).heap.size := L3.out.bel.size
      have hnew := Lib.hid (one_new w2 3 (.int .i64 z2))
      clear L2 hO2 c0 HX
      go_wp2_with (at_builtin; refine wpList_append1 rfl _ _ 22 3 rfl 1 8 _ Tryz.underlying22 infoInt rfl (by decide) (by decide) w.heap.size (.slice vA k vc) _ _ rfl O3.out w2.heap.size rfl [.int .i64 z2] rfl hnew.out (one_i64 z2) h63.out hsz ?_; intro v4 w4 hO4 hg4 _; obtain ⟨A4, cap4, rfl⟩ := own_form hO4; have L4 := Lib.hid (L3.out.grown hBw O3.out hg4); have O4 := Lib.hid hO4; clear hO4 hg4)
      go_roundw
      case rel =>
        refine ⟨k + 1, by omega, hkk, ?_, ?_⟩
        · have h := O4.out
          unfold OwnN
          rw [htk'.out, List.map_append, List.length_append, hlk, ncs_app]
          simp only [List.map_cons, List.map_nil, hz2'.out]
          exact h
        · have h := L4.out
          rw [htk'.out, List.any_append]
          simp only [List.any_cons, List.any_nil, Bool.or_false, hz2'.out, ← Bool.or_assoc]
          exact h
      case measure => simp only [sliceLen]; omega
    · have hm0 : m = 0 := by rw [← hmm, List.length_drop]; omega
      subst hm0
      have hfull : (orOne r).take k = orOne r := by
        apply List.take_of_length_le
        cases r with
        | nil => simp only [orOne, List.length_cons, List.length_nil]; omega
        | cons x r => simp only [orOne]; omega
      have hfin := Lib.hid (show OwnN wr w.heap.size (.slice vA k vc) (mKinds (r, b)).1 ∧ Left B g (mKinds (r, b)).2.1 (mKinds (r, b)).2.2 w wr from by
        have h1 := hO'.out
        have h2 := hL'.out
        rw [hfull] at h1 h2
        rw [List.drop_of_length_le (by omega)] at h2
        exact ⟨h1, h2⟩)
      clear hmm hfull
      go_wp2
      go_ret
      exact ⟨_, rfl, hfin.out.1, hfin.out.2⟩
end Go.Proofs.YtjklpikopgihgaaGreatDoor
