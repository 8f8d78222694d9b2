/- The iterator over a node's edges. -/
import Derived.Test.YtabciepnbmliiaaDoorK1
set_option linter.unusedVariables false
set_option linter.unusedSimpArgs false
set_option maxRecDepth 100000
namespace Go.Proofs.YtabciepnbmliiaaDoor
open Go.RowKit Go.Lib Go.Shelf Rg
attribute [local go_sem] Oper.semAt_some

theorem reach_each (A : Option Addr) (N c : Nat) (node : Int) (w : World) :
    Calls Tryd.prog 42 #[.slice A N c, .int .i64 node] w fun e w' => e = .returned (.func (.func 53) #[] #[.pointer (some ⟨w.heap.size + 1, 0, none⟩), .pointer (some ⟨w.heap.size, 0, none⟩)]) ∧ w' = (w.alloc (.cells #[.slice A N c] 62)).alloc (.cells #[.int .i64 node] 3) := by
  have hmf : ∀ (fn : Fn) (first cap : Array Value) (w : World), (Instr.makeFunc fn first cap).run Tryd.prog w = .ok (.func fn first cap) w := fun _ _ _ _ => rfl
  go_enter Tryd.func42, Tryd.ntmps42
  go_wp2
  go_ret
  exact ⟨rfl, rfl⟩
theorem outE_any (G : Nat) (A : Option Addr) (N c : Nat) (node : Int) (w : World) (h1 : w.cell? ⟨G, 1, none⟩ = some (.slice A N c)) :
    Calls Tryd.prog 23 #[.pointer (some ⟨G, 0, none⟩), .int .i64 node] w fun e w' => e = .returned (.func (.func 53) #[] #[.pointer (some ⟨w.heap.size + 1, 0, none⟩), .pointer (some ⟨w.heap.size, 0, none⟩)]) ∧ w' = (w.alloc (.cells #[.slice A N c] 62)).alloc (.cells #[.int .i64 node] 3) := by
  go_enter Tryd.func23, Tryd.ntmps23
  go_wp2_with (go_at_call 42; refine (reach_each _ _ _ _ _).mono ?_; rintro e w' ⟨rfl, rfl⟩)
  go_ret
  exact ⟨rfl, rfl⟩
theorem inE_any (G : Nat) (A : Option Addr) (N c : Nat) (node : Int) (w : World) (h1 : w.cell? ⟨G, 2, none⟩ = some (.slice A N c)) :
    Calls Tryd.prog 24 #[.pointer (some ⟨G, 0, none⟩), .int .i64 node] w fun e w' => e = .returned (.func (.func 53) #[] #[.pointer (some ⟨w.heap.size + 1, 0, none⟩), .pointer (some ⟨w.heap.size, 0, none⟩)]) ∧ w' = (w.alloc (.cells #[.slice A N c] 62)).alloc (.cells #[.int .i64 node] 3) := by
  go_enter Tryd.func24, Tryd.ntmps24
  go_wp2_with (go_at_call 42; refine (reach_each _ _ _ _ _).mono ?_; rintro e w' ⟨rfl, rfl⟩)
  go_ret
  exact ⟨rfl, rfl⟩

theorem attach_next (zs : List Int) (k : Nat) (hk : k < zs.length) (hm : zs.getD k 0 ∈ zs) : zs.attach.take (k + 1) = zs.attach.take k ++ [⟨zs.getD k 0, hm⟩] := by
  have hl : k < zs.attach.length := by simpa using hk
  rw [List.take_succ_eq_append_getElem hl]
  congr 2
  simp [List.getD_eq_getElem?_getD, List.getElem?_eq_getElem hk]
theorem getD_mem_i (zs : List Int) (k : Nat) (hk : k < zs.length) : zs.getD k 0 ∈ zs := by
  rw [List.getD_eq_getElem?_getD, List.getElem?_eq_getElem hk]; simp

set_option maxHeartbeats 1000000 in
/-- A valid node's edges, one after another. -/
theorem eachG_stops (n : Nat) (hn : 1 ≤ n) (X : Nat → Prop) (n₀ b1 b2 ab N c c2 v : Nat) (B : Option Addr) (zs : List Int) (w : World) (hv : v < N)
    (h1 : w.cell? ⟨b1, 0, none⟩ = some (.int .i64 (v : Int))) (h2 : w.cell? ⟨b2, 0, none⟩ = some (.slice (some ⟨ab, 0, none⟩) N c)) (h3 : w.cell? ⟨ab, v, none⟩ = some (.slice B zs.length c2)) (hr : Rd w B zs.length zs)
    (hB : ∀ ad, B = some ad → 0 < zs.length → ad.block < n₀ ∧ ¬ X ad.block) (hlen : zs.length ≤ 1000000) :
    SeqStopsK Fence.wide n Tryd.prog 53 #[.pointer (some ⟨b1, 0, none⟩), .pointer (some ⟨b2, 0, none⟩)] (fun x : {x : Int // x ∈ zs} => #[Value.int .i64 x.1]) (Kept X n₀) (fun ys => ys = zs.attach) (fun pre => pre <+: zs.attach) zs.length w := by
  intro l J Jx W hW _ _ hY h0
  have h1 := cell_keep h1 hW
  have h2 := cell_keep h2 hW
  have h3 := cell_keep h3 hW
  have hr := hr.below hW
  have hvn : decide ((v : Int) < 0) = false := decide_eq_false (by omega)
  have hvN : decide ((N : Int) ≤ (v : Int)) = false := decide_eq_false (by omega)
  have h0' : J (zs.attach.take 0) W := h0
  clear h0 hW
  refine callsIn_of_wp Tryd.func53 rfl trivial ?_ rfl
  simp only [Tryd.ntmps53, List.size_toArray, List.length_cons, List.length_nil, Nat.reduceAdd, Nat.reduceSub, Array.replicate_succ, Array.replicate_zero, List.push_toArray, List.append_toArray, List.nil_append, List.cons_append]
  gi_wp2
  gi_loopw [19] (fun i wr => ∃ k : Nat, i = .int .i64 k ∧ k ≤ zs.length ∧ J (zs.attach.take k) wr ∧ Rd wr B zs.length zs) (fun i _ => zs.length - (RowKit.intOf i).toNat)
  case atStart => exact ⟨0, rfl, by omega, h0', hr⟩
  case round =>
    obtain ⟨k, rfl, hk, hJ, hrd⟩ := hrel
    clear h1 h2 h3 hr h0' hvn hvN
    by_cases hlt : k < zs.length
    · have hd : decide ((k : Int) < (zs.length : Int)) = true := decide_eq_true (by omega)
      obtain ⟨ad, rfl, hc⟩ := hrd.at_ hlt
      have hm := getD_mem_i zs k hlt
      have hnx := attach_next zs k hlt hm
      obtain ⟨fn, tmps, assign, body, hyl, hR⟩ := hY (zs.attach.take k) ⟨zs.getD k 0, hm⟩ wr hJ (by simp; omega)
      dsimp only at hyl
      have HX := Lib.hid hnx; clear hnx
      generalize zs.getD k 0 = x at *
      gi_wp2
      refine hR.mono ?_
      rintro e W3 (⟨rfl, hJ3, hk3⟩ | ⟨rfl, hJx3⟩)
      · have hr3 := hk3.rd hrd hB
        gi_wp2
        go_roundw
        case rel => exact ⟨k + 1, by go_num, by omega, by rw [HX.out]; exact hJ3, hr3⟩
        case measure => simp [RowKit.intOf]; omega
      · gi_wp2
        refine bodyPost_ret (results_none rfl _ _ _) rfl ?_
        exact ⟨⟨_, rfl⟩, .inr ⟨_, by rw [← HX.out]; exact List.take_prefix _ _, hJx3⟩⟩
    · have hd : decide ((k : Int) < (zs.length : Int)) = false := decide_eq_false (by omega)
      have hend : zs.attach.take k = zs.attach := List.take_of_length_le (by simp; omega)
      rw [hend] at hJ
      gi_wp2
      go_end0
      exact ⟨⟨_, rfl⟩, .inl ⟨_, rfl, hJ⟩⟩
end Go.Proofs.YtabciepnbmliiaaDoor
