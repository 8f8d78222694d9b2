/- The heap in memory; its smallest functions. -/
import Derived.Test.YtkdabnhhjjmibaaW0
namespace Go.Proofs.Ytkdabnhhjjmibaa
open Go.RowKit Go.Lib Hp

abbrev KS := List UInt8
abbrev ltS : KS → KS → Bool := Op.bytesLess
theorem less_irr : ∀ a : List UInt8, Op.bytesLess a a = false
  | [] => rfl
  | a :: t => by simp [Op.bytesLess, less_irr t]
theorem less_tri : ∀ a b : List UInt8, a ≠ b → Op.bytesLess a b = false → Op.bytesLess b a = true
  | [], [], h, _ => absurd rfl h
  | [], _ :: _, _, h => by simp [Op.bytesLess] at h
  | _ :: _, [], _, _ => rfl
  | a :: t, b :: u, h, h2 => by
    simp only [Op.bytesLess] at h2 ⊢
    by_cases e : a = b
    · subst e
      have := less_tri t u (fun e => h (by rw [e]))
      simp_all
    · have hne : a.toNat ≠ b.toNat := fun h => e (UInt8.toNat_inj.1 h)
      simp_all [UInt8.lt_iff_toNat_lt]
      omega
theorem less_tr : ∀ a b c : List UInt8, Op.bytesLess a b = true → Op.bytesLess b c = true → Op.bytesLess a c = true
  | [], [], _, h, _ => by simp [Op.bytesLess] at h
  | [], _ :: _, [], _, h => by simp [Op.bytesLess] at h
  | [], _ :: _, _ :: _, _, _ => rfl
  | _ :: _, [], _, h, _ => by simp [Op.bytesLess] at h
  | _ :: _, _ :: _, [], _, h => by simp [Op.bytesLess] at h
  | a :: t, b :: u, c :: v, h1, h2 => by
    simp [Op.bytesLess] at h1 h2 ⊢
    rw [UInt8.lt_iff_toNat_lt] at *
    rcases h1 with h1 | ⟨rfl, h1⟩
    · rcases h2 with h2 | ⟨rfl, h2⟩
      · left; omega
      · left; exact h1
    · rcases h2 with h2 | ⟨rfl, h2⟩
      · left; exact h2
      · right; exact ⟨rfl, less_tr t u v h1 h2⟩
theorem strictS : Strict ltS := ⟨less_irr, less_tri, less_tr⟩
def ecsS (l : List (Int × KS)) : List Value := l.flatMap fun a => [.int .i64 a.1, (Value.string ⟨List.toArray (a.2)⟩)]
theorem ecs_nilS : ecsS [] = [] := rfl
theorem ecs_consS (a : Int × KS) (l : List (Int × KS)) : ecsS (a :: l) = .int .i64 a.1 :: (Value.string ⟨List.toArray (a.2)⟩) :: ecsS l := rfl
theorem ecs_lengthS (l : List (Int × KS)) : (ecsS l).length = l.length * 2 := by
  induction l with
  | nil => rfl
  | cons a l ih => rw [ecs_consS]; simp [ih]; omega
theorem ecs_atS {l : List (Int × KS)} {i : Nat} {a : Int × KS} (h : l[i]? = some a) : (ecsS l)[i * 2]? = some (.int .i64 a.1) ∧ (ecsS l)[i * 2 + 1]? = some (Value.string ⟨List.toArray (a.2)⟩) := by
  induction l generalizing i with
  | nil => simp at h
  | cons b l ih =>
    rw [ecs_consS]
    cases i with
    | zero => simp at h; subst h; exact ⟨rfl, rfl⟩
    | succ i =>
      have := ih (by simpa using h)
      rw [show (i + 1) * 2 = i * 2 + 1 + 1 by omega]
      simpa using this
theorem ecs_setS (l : List (Int × KS)) (i : Nat) (e : Int × KS) : ((ecsS l).set (i * 2) (.int .i64 e.1)).set (i * 2 + 1) (Value.string ⟨List.toArray (e.2)⟩) = ecsS (l.set i e) := by
  induction l generalizing i with
  | nil => rfl
  | cons b l ih =>
    cases i with
    | zero => rfl
    | succ i =>
      rw [show (i + 1) * 2 = i * 2 + 1 + 1 by omega, List.set_cons_succ, ecs_consS, ecs_consS, List.set_cons_succ, List.set_cons_succ, List.set_cons_succ, List.set_cons_succ, ih]
theorem ecs_appendS (l m : List (Int × KS)) : ecsS (l ++ m) = ecsS l ++ ecsS m := by simp [ecsS]
theorem ecs_takeS (l : List (Int × KS)) (k : Nat) : (ecsS l).take (k * 2) = ecsS (l.take k) := by
  induction l generalizing k with
  | nil => simp [ecsS]
  | cons b l ih =>
    cases k with
    | zero => rfl
    | succ k => rw [show (k + 1) * 2 = k * 2 + 1 + 1 by omega, List.take_succ_cons, ecs_consS, ecs_consS, List.take_succ_cons, List.take_succ_cons, ih]

/-! ### The entries -/

def EntsS (w : World) (v : Value) (l : List (Int × KS)) : Prop := w.ownsRow 0 73 2 v l.length (ecsS l)

section
variable {w w' : World} {v : Value} {l : List (Int × KS)}
theorem EntsS.form (h : EntsS w v l) : ∃ A cap, v = .slice A l.length cap := by
  rcases h.2 with ⟨e, h0⟩ | ⟨g, cap, cur, e, _⟩
  · exact ⟨none, 0, by rw [e, h0]⟩
  · exact ⟨_, cap, e⟩
theorem EntsS.form' (h : EntsS w v l) (hn : 0 < l.length) : ∃ g cap, v = .slice (some ⟨g, 0, none⟩) l.length cap := by
  obtain ⟨g, cap, e, _⟩ := World.ownsRow.form h hn
  exact ⟨g, cap, e⟩
theorem EntsS.obj (h : EntsS w v l) {g : Nat} (hg : v.ownBlock = some g) : ∃ cur, w.heap[g]? = some (.cells cur 73 (0, 0)) := by
  rcases h.2 with ⟨e, _⟩ | ⟨g', cap, cur, e, _, hb, _⟩
  · subst e; simp [Value.ownBlock] at hg
  · subst e; simp [Value.ownBlock] at hg; subst hg; exact ⟨cur, hb⟩
theorem EntsS.kept (h : EntsS w v l) (hk : ∀ g, v.ownBlock = some g → w'.heap[g]? = w.heap[g]?) : EntsS w' v l := by
  refine ⟨h.1, ?_⟩
  rcases h.2 with e | ⟨g, cap, cur, e, h1, hb, r⟩
  · exact .inl e
  · exact .inr ⟨g, cap, cur, e, h1, (hk g (by rw [e]; rfl)).trans hb, r⟩
theorem EntsS.cell {g cap : Nat} (h : EntsS w (.slice (some ⟨g, 0, none⟩) l.length cap) l) {i : Nat} {a : Int × KS} (ha : l[i]? = some a) : w.cell? ⟨g, i * 2, none⟩ = some (.int .i64 a.1) ∧ w.cell? ⟨g, i * 2 + 1, none⟩ = some (Value.string ⟨List.toArray (a.2)⟩) := by
  have hi := (List.getElem?_eq_some_iff.1 ha).1
  obtain ⟨h1, h2⟩ := ecs_atS ha
  exact ⟨(World.ownsRow.cellAt h _ (by omega)).trans h1, (World.ownsRow.cellAt h _ (by omega)).trans h2⟩
theorem EntsS.set {g cap : Nat} (h : EntsS w (.slice (some ⟨g, 0, none⟩) l.length cap) l) (i : Nat) (e : Int × KS) : EntsS ((w.setCell ⟨g, i * 2, none⟩ (.int .i64 e.1)).setCell ⟨g, i * 2 + 1, none⟩ (Value.string ⟨List.toArray (e.2)⟩)) (.slice (some ⟨g, 0, none⟩) l.length cap) (l.set i e) := by
  have h1 := World.ownsRow.stored h (i * 2) (.int .i64 e.1)
  have h2 := World.ownsRow.stored h1.1 (i * 2 + 1) (Value.string ⟨List.toArray (e.2)⟩)
  have h2 := h2.1
  rw [ecs_setS] at h2
  unfold EntsS
  rw [List.length_set]
  exact h2
theorem EntsS.take {g cap : Nat} (h : EntsS w (.slice (some ⟨g, 0, none⟩) l.length cap) l) {k : Nat} (hk : k ≤ l.length) : EntsS w (.slice (some ⟨g, 0, none⟩) k cap) (l.take k) := by
  have hl : (l.take k).length = k := by simp; omega
  unfold EntsS
  rw [hl]
  rcases h.2 with ⟨e, _⟩ | ⟨g', cap', cur, e, h1, hb, h2, h3, h4, h5⟩
  · cases e
  · refine ⟨by rw [ecs_lengthS, hl], .inr ⟨g, cap, cur, rfl, Nat.zero_le _, ?_, ?_, ?_, ?_, ?_⟩⟩
    all_goals (simp only [Value.slice.injEq, Option.some.injEq, Addr.mk.injEq, and_true, true_and] at e; obtain ⟨rfl, rfl⟩ := e)
    · exact hb
    · omega
    · exact h3
    · exact h4
    · rw [← ecs_takeS, ← h5, List.take_take]; congr 1; omega

/-- A whole entry. -/
theorem run_load_entS {g cap : Nat} (h : EntsS w (.slice (some ⟨g, 0, none⟩) l.length cap) l) {i : Nat} {a : Int × KS} (ha : l[i]? = some a) : (loadVar 73 ⟨g, i * 2, none⟩).run Try.prog w = .ok (.agg #[.int .i64 a.1, (Value.string ⟨List.toArray (a.2)⟩)]) w := by
  obtain ⟨c0, c1⟩ := h.cell ha
  have hl : (loadCells ⟨g, i * 2, none⟩ 2).run Try.prog w = .ok #[.int .i64 a.1, (Value.string ⟨List.toArray (a.2)⟩)] w :=
    run_loadCells_list (P := Try.prog) w ⟨g, i * 2, none⟩ [.int .i64 a.1, (Value.string ⟨List.toArray (a.2)⟩)] (fun j v hv => by
      have hadd : (⟨g, i * 2, none⟩ : Addr).add j = ⟨g, i * 2 + j, none⟩ := by unfold Addr.add; split <;> simp_all
      rw [hadd]
      match j, hv with
      | 0, hv => simp at hv; subst hv; exact c0
      | 1, hv => simp at hv; subst hv; exact c1
      | j + 2, hv => simp at hv)
  have hagg : (isAgg 73).run Try.prog w = .ok true w := by kernel_rfl
  have hsz : (sizeOf 73).run Try.prog w = .ok 2 w := by kernel_rfl
  simp [loadVar, Sem.run_bind, hagg, hsz, hl]
end

theorem precedesS (a b : Int × KS) (w : World) : Calls Try.prog 40 #[.agg #[.int .i64 a.1, (Value.string ⟨List.toArray (a.2)⟩)], .agg #[.int .i64 b.1, (Value.string ⟨List.toArray (b.2)⟩)]] w fun e w' => e = .returned (.bool (prec ltS a b)) ∧ Below w.heap.size w w' := by
  unfold prec ltS
  by_cases h : a.2 = b.2
  · have h1 : (a.2 == b.2) = true := by simpa using h
    rw [if_pos h]
    go_enter Try.func40, Try.ntmps40
    go_wp2
    go_ret
    exact ⟨rfl, ((Below.refl _ _).alloc (Nat.le_refl _) _).alloc (by simp) _⟩
  · have h1 : (a.2 == b.2) = false := by simpa using h
    rw [if_neg h]
    go_enter Try.func40, Try.ntmps40
    go_wp2
    go_ret
    exact ⟨rfl, ((Below.refl _ _).alloc (Nat.le_refl _) _).alloc (by simp) _⟩

/-! ### The heap -/


structure HeapAtS (w : World) (hb : Nat) (v : Value) (m : Option Nat) (s : St KS) (n : Nat) : Prop where
  hd : w.heap[hb]? = some (.cells #[v, .map m] 71 (0, 0))
  row : EntsS w v s.l
  map : MapIs w m n s.f

section
variable {w w' : World} {hb : Nat} {v : Value} {m : Option Nat} {s : St KS} {n : Nat}
theorem HeapAtS.lt (h : HeapAtS w hb v m s n) : ∀ k, foot hb v m k → k < w.heap.size := by
  rintro k (rfl | h1 | h1)
  · exact (Array.getElem?_eq_some_iff.1 h.hd).1
  · exact (World.ownsRow.lt h.row k h1).2
  · obtain ⟨es, c, h2⟩ := h.map.lt k h1
    exact (Array.getElem?_eq_some_iff.1 h2).1
theorem HeapAtS.kept (h : HeapAtS w hb v m s n) (hk : ∀ k, foot hb v m k → w'.heap[k]? = w.heap[k]?) : HeapAtS w' hb v m s n :=
  ⟨(hk hb (.inl rfl)).trans h.hd, h.row.kept fun g hg => hk g (.inr (.inl hg)), h.map.kept fun b hb => hk b (.inr (.inr hb))⟩
theorem HeapAtS.chg {S : Nat → Prop} (h : HeapAtS w hb v m s n) (hc : Chg S w w') (hs : ∀ k, foot hb v m k → ¬ S k) : HeapAtS w' hb v m s n :=
  h.kept fun k hk => hc.block k (h.lt k hk) (hs k hk)
theorem HeapAtS.below (h : HeapAtS w hb v m s n) (hc : Below w.heap.size w w') : HeapAtS w' hb v m s n := h.kept fun k hk => hc.block k (h.lt k hk)
theorem HeapAtS.mono (h : HeapAtS w hb v m s n) {n' : Nat} (hn : n ≤ n') : HeapAtS w hb v m s n' := ⟨h.hd, h.row, h.map.mono hn⟩
theorem HeapAtS.ne_row (h : HeapAtS w hb v m s n) : v.ownBlock ≠ some hb := by
  intro e
  obtain ⟨cur, h1⟩ := h.row.obj e
  have := h1.symm.trans h.hd
  injection this with this
  injection this with _ this
  exact absurd this (by decide)
theorem HeapAtS.ne_map (h : HeapAtS w hb v m s n) : m ≠ some hb := by
  intro e
  obtain ⟨es, c, h1⟩ := h.map.lt hb e
  have := h1.symm.trans h.hd
  injection this with this
  cases this
theorem HeapAtS.ne_rm (h : HeapAtS w hb v m s n) {g : Nat} (hg : v.ownBlock = some g) : m ≠ some g := by
  intro e
  obtain ⟨es, c, h1⟩ := h.map.lt g e
  obtain ⟨cur, h2⟩ := h.row.obj hg
  have := h1.symm.trans h2
  injection this with this
  cases this
theorem HeapAtS.c0 (h : HeapAtS w hb v m s n) : w.cell? ⟨hb, 0, none⟩ = some v := by rw [cell_of_row w hb 0 _ _ _ h.hd]; rfl
theorem HeapAtS.c1 (h : HeapAtS w hb v m s n) : w.cell? ⟨hb, 1, none⟩ = some (.map m) := by rw [cell_of_row w hb 1 _ _ _ h.hd]; rfl
theorem HeapAtS.fr (h : HeapAtS w hb v m s n) (i : Nat) : w.frozen? ⟨hb, i, none⟩ = false := frozen_of_row w hb i _ _ h.hd
end

end Go.Proofs.Ytkdabnhhjjmibaa
