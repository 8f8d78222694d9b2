/- A heap and a list made from a list of puts. -/
import Derived.Test.YtkdabnhhjjmibaaV1
namespace Go.Proofs.Ytkdabnhhjjmibaa
open Go.RowKit Go.Lib Hp

theorem block_add' (a : Addr) (n : Nat) : (a.add n).block = a.block := by unfold Addr.add; split <;> rfl

/-- The acts of an argument: kind, ID, key. -/
def RdA (w : World) (A : Option Addr) (la : List (Int × Int × Int)) : Prop :=
  (0 < la.length → ∃ ad, A = some ad ∧ ad.block < w.heap.size ∧ ∀ i a, la[i]? = some a → w.cell? (ad.add (i * 3)) = some (.int .u8 a.1) ∧ w.cell? (ad.add (i * 3 + 1)) = some (.int .i64 a.2.1) ∧ w.cell? (ad.add (i * 3 + 2)) = some (.int .i64 a.2.2)) ∧
  ∀ a ∈ la, 0 ≤ a.1 ∧ a.1 ≤ 255 ∧ Fits a.2.1 ∧ Fits a.2.2
theorem RdA.below {w w' : World} {A : Option Addr} {la : List (Int × Int × Int)} (h : RdA w A la) (hb : Below w.heap.size w w') : RdA w' A la :=
  ⟨fun hn => by
    obtain ⟨ad, e, hl, hc⟩ := h.1 hn
    exact ⟨ad, e, Nat.lt_of_lt_of_le hl hb.size, fun i a ha => by
      obtain ⟨h0, h1, h2⟩ := hc i a ha
      exact ⟨cell_keep h0 hb, cell_keep h1 hb, cell_keep h2 hb⟩⟩, h.2⟩

theorem addr_add (a : Addr) (i j : Nat) : (a.add i).add j = a.add (i + j) := by
  unfold Addr.add
  by_cases hj : j = 0
  · subst hj; simp
  · by_cases hi : i = 0
    · subst hi; simp [hj]
    · rw [if_neg hj, if_neg hi, if_neg (by omega)]
      simp [Nat.add_assoc]
theorem run_load_act {w : World} {p : Addr} {a : Int × Int × Int} (c0 : w.cell? p = some (.int .u8 a.1)) (c1 : w.cell? (p.add 1) = some (.int .i64 a.2.1)) (c2 : w.cell? (p.add 2) = some (.int .i64 a.2.2)) : (loadVar 28 p).run Try.prog w = .ok (.agg #[.int .u8 a.1, .int .i64 a.2.1, .int .i64 a.2.2]) w := by
  have hl : (loadCells p 3).run Try.prog w = .ok #[.int .u8 a.1, .int .i64 a.2.1, .int .i64 a.2.2] w :=
    run_loadCells_list (P := Try.prog) w p [.int .u8 a.1, .int .i64 a.2.1, .int .i64 a.2.2] (fun j v hv => by
      match j, hv with
      | 0, hv =>
        simp at hv; subst hv
        have : p.add 0 = p := by unfold Addr.add; rw [if_pos rfl]
        rw [this]; exact c0
      | 1, hv => simp at hv; subst hv; exact c1
      | 2, hv => simp at hv; subst hv; exact c2
      | j + 3, hv => simp at hv)
  have hagg : (isAgg 28).run Try.prog w = .ok true w := by kernel_rfl
  simp [loadVar, Sem.run_bind, hagg, hl]
theorem wpList_load_act {ops : Array Oper} {rest : List Oper} {o : Oper} {a : Act} {w : World} {Q : Exit → Act → World → Prop} (hgd : o.guard = none) (x : Operand) (ho : o.op = .load 28 x) (ad : Addr) (k : Nat) (hx : a.eval x = .pointer (some (ad.add (k * 3)))) (b : Int × Int × Int)
    (c0 : w.cell? (ad.add (k * 3)) = some (.int .u8 b.1)) (c1 : w.cell? (ad.add (k * 3 + 1)) = some (.int .i64 b.2.1)) (c2 : w.cell? (ad.add (k * 3 + 2)) = some (.int .i64 b.2.2))
    (h : wpList Try.prog ops Q rest (a.put o.dst (.agg #[.int .u8 b.1, .int .i64 b.2.1, .int .i64 b.2.2])) w) : wpList Try.prog ops Q (o :: rest) a w :=
  wpList_plain hgd fun K hK => by
    have hr := run_load_act (w := w) (p := ad.add (k * 3)) (a := b) c0 (by rw [addr_add]; exact c1) (by rw [addr_add]; exact c2)
    unfold Oper.wp execOp
    simp only [ho, hx, Instr.loadAt, Instr.sureAddr, Sem.run_bind, Sem.run_pure, Result.andThen_ok, hr]
    exact hK _ _ h

/-- The lines that the puts leave. -/
def puts (la : List (Int × Int × Int)) : List (Int × KI) := la.foldl (fun x a => rput x a.2.1 a.2.2) []
theorem puts_snoc (la : List (Int × Int × Int)) (a : Int × Int × Int) : puts (la ++ [a]) = rput (puts la) a.2.1 a.2.2 := by simp [puts]
theorem puts_take {la : List (Int × Int × Int)} {k : Nat} {a : Int × Int × Int} (h : la[k]? = some a) : puts (la.take (k + 1)) = rput (puts (la.take k)) a.2.1 a.2.2 := by
  have hk := (List.getElem?_eq_some_iff.1 h).1
  rw [← puts_snoc]
  congr 1
  rw [List.take_add_one, h]; rfl
theorem puts_length (la : List (Int × Int × Int)) : ∀ k, k ≤ la.length → (puts (la.take k)).length ≤ k := by
  intro k
  induction k with
  | zero => intro _; simp [puts]
  | succ k ih =>
    intro hk
    obtain ⟨a, ha⟩ : ∃ a, la[k]? = some a := ⟨_, List.getElem?_eq_getElem (by omega)⟩
    rw [puts_take ha, length_rput]
    have := ih (by omega)
    split <;> omega

theorem made_any (A : Option Addr) (c : Nat) (la : List (Int × Int × Int)) (W : World) (hr : RdA W A la) (hl : la.length ≤ 100) :
    Calls Try.prog 18 #[.slice A la.length c] W fun r w' => ∃ hb v m vx, r = .returned (.tuple #[.pointer (some ⟨hb, 0, none⟩), vx]) ∧ RepI w' hb v m (puts la) 30000 ∧ Lines w' vx (puts la) ∧ Keep W w' hb v m := by
  go_enter Try.func18, Try.ntmps18
  go_wp2_with fail
  refine (new_anyI W).mono ?_
  rintro r w1 ⟨rfl, H1, b1⟩
  have K1 := Keep.new (Below.refl _ W) b1
  obtain ⟨hb, hhb⟩ : ∃ hb, W.heap.size = hb := ⟨_, rfl⟩
  rw [hhb] at H1 K1 ⊢
  have H1 := Lib.hid H1
  have hr' := Lib.hid hr
  clear hr hhb
  go_wp2_with fail
  go_loopw [11, 5] (fun i vx w' => ∃ (k : Nat) (v : Value) (m : Option Nat), i = .int .i64 k ∧ k ≤ la.length ∧ RepI w' hb v m (puts (la.take k)) (300 * k) ∧ Lines w' vx (puts (la.take k)) ∧ Keep W w' hb v m) (fun i _ _ => la.length - (intOf i).toNat)
  case atStart => exact ⟨0, _, _, rfl, by omega, H1.out, World.ownsRow_nil _ _ _ _, K1⟩
  case round =>
    obtain ⟨k, v, m, rfl, hk, H2, L2, K2⟩ := hrel
    by_cases hlt : k < la.length
    · obtain ⟨a, ha⟩ : ∃ a, la[k]? = some a := ⟨_, List.getElem?_eq_getElem hlt⟩
      have hrr := hr'.out.below K2.bel
      obtain ⟨ad, rfl, _, hc⟩ := hrr.1 (by omega)
      obtain ⟨c0, c1, c2⟩ := hc k a ha
      obtain ⟨_, _, hfa, _⟩ := hrr.2 a (List.mem_of_getElem? ha)
      have hpl := puts_length la k (by omega)
      have e1 : (k : Int) < (la.length : Int) := by omega
      have e2 : (0 : Int) ≤ (k : Int) := by omega
      have H2 := Lib.hid H2
      have L2 := Lib.hid L2
      clear hc hrr
      go_wp2_with (refine wpList_load_act rfl _ rfl ad k rfl a c0 c1 c2 ?_)
      have hb1 : Below wr.heap.size wr (wr.alloc (.cells #[.int .u8 a.1, .int .i64 a.2.1, .int .i64 a.2.2] 28)) := (Below.refl _ _).alloc (Nat.le_refl _) _
      refine (put_anyI hb v m _ (300 * k) a.2.1 a.2.2 _ (H2.out.below hb1) hfa (by omega) (by omega)).mono ?_
      rintro r w2 ⟨⟨u2, rfl⟩, v2, m2, H3, M3⟩
      have K3 := (K2.below hb1).moved M3
      have L3 := (L2.out.below hb1).moved (apart_linesI (H2.out.below hb1) (L2.out.below hb1)) M3
      have hbx : w2.heap[wr.heap.size]? = some (.cells #[.int .u8 a.1, .int .i64 a.2.1, .int .i64 a.2.2] 28 (0, 0)) :=
        M3.chg.at (heap_alloc_new wr _) (fun h => by have := (H2.out.lt _ h); omega)
      have d1 : w2.cell? ⟨wr.heap.size, 1, none⟩ = some (.int .i64 a.2.1) := by rw [cell_of_row _ _ 1 _ _ _ hbx]; rfl
      have d2 : w2.cell? ⟨wr.heap.size, 2, none⟩ = some (.int .i64 a.2.2) := by rw [cell_of_row _ _ 2 _ _ _ hbx]; rfl
      have H3 := Lib.hid H3
      have L3 := Lib.hid L3
      clear M3 hbx hb1 H2 L2 c0 c1 c2
      go_wp2_with fail
      refine (rput_any _ _ a.2.1 a.2.2 w2 L3.out (by omega)).mono ?_
      rintro r w3 ⟨vx, rfl, L4, b3⟩
      have K4 := K3.below b3
      have H4 := Lib.hid (H3.out.below b3)
      clear H3 d1 d2
      go_wp2
      go_roundw
      case rel =>
        exact ⟨k + 1, v2, m2, by go_num, by omega, by rw [puts_take ha]; exact H4.out.mono (by omega), by rw [puts_take ha]; exact L4.1, K4⟩
      case measure => simp [intOf]; omega
    · obtain rfl : k = la.length := by omega
      rw [List.take_length] at H2 L2
      have H2 := Lib.hid H2
      have L2 := Lib.hid L2
      go_wp2
      go_ret2
      exact ⟨hb, v, m, _, rfl, H2.out.mono (by omega), L2.out, K2⟩
end Go.Proofs.Ytkdabnhhjjmibaa
