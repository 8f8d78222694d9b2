/- Bytes in memory. -/
import Derived.Test.YtmmfkepkdmmmkaaRows
import Derived.Test.YtmmfkepkdmmmkaaMath
import Derived.WalkKit
import Derived.ProofKit
import Derived.WalkLawsBesides
import Derived.WalkSpells
import Derived.Outline
import Derived.LoopTactic
import Derived.RegionTactic
import Derived.ChangeAlike
import Derived.Laws.Rows
import Derived.Laws.Bits64
import Derived.Laws.BytesString
import Derived.Laws.IdiomStrings
import Derived.Lib.AppendStr
import Derived.Lib.Hide
import Derived.Deep.Draws
import Derived.Deep.RegionHeld3
import Derived.Deep.AppendLies
import Derived.Laws.CopyOwn
import Derived.Laws.OwnMore
import Derived.StillTailTactics
import Derived.BigQuiet
import Derived.Maps.AppendAt
set_option linter.unusedVariables false
set_option linter.unusedSimpArgs false
namespace Go.Proofs.Ytmmfkepkdmmmkaa
open Go.RowKit Go.Lib Wr

abbrev Bs := List UInt8
theorem ret_i {k : IntKind} {a b : Int} (h : a = b) : Ending.returned (.int k a) = .returned (.int k b) := by rw [h]
theorem ret_b {a b : Bool} (h : a = b) : Ending.returned (.bool a) = .returned (.bool b) := by rw [h]
theorem then_ {w a b : World} (h : Below w.heap.size w a) (k : Below a.heap.size a b) : Below w.heap.size w b := h.trans (k.mono h.size)
theorem cell_keep {w a : World} {p : Addr} {v : Value} (h : w.cell? p = some v) (k : Below w.heap.size w a) : a.cell? p = some v := (k.cell (World.block_lt_of_cell? w p h)).trans h
theorem block_add' (a : Addr) (n : Nat) : (a.add n).block = a.block := by unfold Addr.add; split <;> rfl
theorem addr_add (a : Addr) (i j : Nat) : (a.add i).add j = a.add (i + j) := by
  unfold Addr.add
  by_cases hj : j = 0
  · subst hj; simp
  · by_cases hi : i = 0
    · subst hi; simp [hj]
    · rw [if_neg hj, if_neg hi, if_neg (by omega)]
      simp [Nat.add_assoc]

/-! ### Reading -/

/-- The value v reads as the bytes l. -/
def RB (w : World) (v : Value) (l : Bs) : Prop :=
  (v = .slice none 0 0 ∧ l = []) ∨ ∃ ad c, v = .slice (some ad) l.length c ∧ l.length ≤ c ∧ (0 < c → ad.block < w.heap.size) ∧ ∀ (j : Nat) (b : UInt8), l[j]? = some b → w.cell? (ad.add j) = some (.int .u8 (b.toNat : Int))
section
variable {w w' : World} {v : Value} {l : Bs}
theorem RB.below (h : RB w v l) (hb : Below w.heap.size w w') : RB w' v l := by
  rcases h with h | ⟨ad, c, e, hc, hl, hr⟩
  · exact .inl h
  · exact .inr ⟨ad, c, e, hc, fun h => Nat.lt_of_lt_of_le (hl h) hb.size, fun j b hj => cell_keep (hr j b hj) hb⟩
theorem RB.form (h : RB w v l) : ∃ A c, v = .slice A l.length c := by
  rcases h with ⟨e, hl⟩ | ⟨ad, c, e, _⟩
  · exact ⟨none, 0, by rw [e, hl]; rfl⟩
  · exact ⟨_, c, e⟩
theorem RB.at_ {A : Option Addr} {c : Nat} (h : RB w (.slice A l.length c) l) {j : Nat} {b : UInt8} (hj : l[j]? = some b) : ∃ ad, A = some ad ∧ w.cell? (ad.add j) = some (.int .u8 (b.toNat : Int)) := by
  rcases h with ⟨_, hl⟩ | ⟨ad, c', e, _, _, hc⟩
  · subst hl; simp at hj
  · simp only [Value.slice.injEq, true_and] at e
    exact ⟨ad, e.1, hc j b hj⟩
theorem RB.nil (w : World) : RB w (.slice none 0 0) [] := .inl ⟨rfl, rfl⟩
theorem RB.conv (h : RB w v l) : (convert 22 9 v).run Try.prog w = .ok (.string ⟨l.toArray⟩) w := by
  rcases h with ⟨rfl, rfl⟩ | ⟨ad, c, rfl, _, _, hc⟩
  · rw [run_convert_bytes_string w 22 9 5 none 0 0 Try.underlying22 Try.underlying5 Try.underlying9]
    rfl
  · refine run_convert_bytes_back (P := Try.prog) w 22 9 5 ad c l Try.underlying22 Try.underlying5 Try.underlying9 fun j hj => ?_
    have := hc j l[j] (by simp [hj])
    simpa using this
theorem RB.cap {A : Option Addr} {c : Nat} (h : RB w (.slice A l.length c) l) : l.length ≤ c := by
  rcases h with ⟨e, hl⟩ | ⟨ad, c', e, h1, h2, h3⟩
  · subst hl; simp
  · injection e with e1 e2 e3
    omega
/-- s[k:] -/
theorem RB.drop {ad : Addr} {c : Nat} (h : RB w (.slice (some ad) l.length c) l) {k : Nat} (hk : k ≤ l.length) : RB w (.slice (some (ad.add k)) (l.length - k) (c - k)) (l.drop k) := by
  rcases h with ⟨e, _⟩ | ⟨ad', c', e, h1, h2, h3⟩
  · cases e
  · simp only [Value.slice.injEq, Option.some.injEq, true_and] at e
    obtain ⟨rfl, rfl⟩ := e
    refine .inr ⟨ad.add k, c - k, by simp, by simp; omega, fun h => by rw [block_add']; exact h2 (by omega), fun j b hj => ?_⟩
    rw [addr_add]
    exact h3 (k + j) b (by rw [← hj]; simp)
/-- s[:k] -/
theorem RB.take {ad : Addr} {c : Nat} (h : RB w (.slice (some ad) l.length c) l) {k : Nat} (hk : k ≤ l.length) : RB w (.slice (some ad) k c) (l.take k) := by
  rcases h with ⟨e, _⟩ | ⟨ad', c', e, h1, h2, h3⟩
  · cases e
  · simp only [Value.slice.injEq, Option.some.injEq, true_and] at e
    obtain ⟨rfl, rfl⟩ := e
    refine .inr ⟨ad, c, by rw [List.length_take, Nat.min_eq_left hk], by simp; omega, h2, fun j b hj => ?_⟩
    rw [List.getElem?_take] at hj
    split at hj
    · exact h3 j b hj
    · cases hj
end

/-! ### Rows of one's own -/

def bcs (l : Bs) : List Value := l.map fun b => Value.int .u8 (b.toNat : Int)
def OwnB (w : World) (base : Nat) (v : Value) (l : Bs) : Prop := w.ownsRow base 5 1 v l.length (bcs l)
theorem infoU8 : (Try.prog.info? 5).map (fun i => (i.zero, i.size, i.bytes)) = some (some (.int .u8 0), 1, 1) := by kernel_rfl
theorem one_bcs (l : Bs) : ∀ u ∈ bcs l, u.oneCell' = true := by
  intro u hu
  simp [bcs] at hu
  obtain ⟨a, _, rfl⟩ := hu
  rfl
theorem bcs_app (l m : Bs) : bcs (l ++ m) = bcs l ++ bcs m := by simp [bcs]
theorem strCells_bcs (l : Bs) : strCells (⟨l.toArray⟩ : ByteArray) = bcs l := by simp [strCells, bcs]
section
variable {w w' : World} {base : Nat} {v : Value} {l : Bs}
theorem OwnB.nil (w : World) (base : Nat) : OwnB w base (.slice none 0 0) [] := World.ownsRow_nil _ _ _ _
theorem OwnB.form (h : OwnB w base v l) : ∃ A c, v = .slice A l.length c := by
  rcases h.2 with ⟨h1, h2⟩ | ⟨g, cap, _, h1, _⟩
  · exact ⟨none, 0, by rw [h1, h2]⟩
  · exact ⟨_, _, h1⟩
theorem OwnB.rb (h : OwnB w base v l) : RB w v l := by
  rcases h.2 with ⟨h1, h2⟩ | ⟨g, cap, cur, e, h1, hb, h2, h3, h4, h5⟩
  · exact .inl ⟨h1, List.eq_nil_of_length_eq_zero h2⟩
  · refine .inr ⟨⟨g, 0, none⟩, cap, e, h2, fun _ => (Array.getElem?_eq_some_iff.1 hb).1, fun j b hj => ?_⟩
    refine World.ownsRow.cells h (g := g) (by rw [e]; rfl) j _ ?_
    simp [bcs, hj]
theorem OwnB.kept (h : OwnB w base v l) (hk : ∀ g, v.ownBlock = some g → w'.heap[g]? = w.heap[g]?) : OwnB w' base v l := by
  refine ⟨h.1, ?_⟩
  rcases h.2 with h2 | ⟨g, cap, cur, hv, hg, hh, r⟩
  · exact .inl h2
  · exact .inr ⟨g, cap, cur, hv, hg, by rw [hk g (by rw [hv]; rfl)]; exact hh, r⟩
theorem OwnB.below (h : OwnB w base v l) (hb : Below w.heap.size w w') : OwnB w' base v l := h.kept fun g hg => hb.block g ((World.ownsRow.lt h g hg).2)
theorem OwnB.alloc (h : OwnB w base v l) (o : Obj) : OwnB (w.alloc o) base v l := World.ownsRow.alloc h o
theorem OwnB.mono (h : OwnB w base v l) {b : Nat} (hb : b ≤ base) : OwnB w b v l := by
  refine ⟨h.1, ?_⟩
  rcases h.2 with h2 | ⟨g, cap, cur, hv, hg, r⟩
  · exact .inl h2
  · exact .inr ⟨g, cap, cur, hv, by omega, r⟩
theorem OwnB.empty (w : World) {base : Nat} (hb : base ≤ w.heap.size) : OwnB (w.alloc (.cells #[] 5)) base (.slice (some ⟨w.heap.size, 0, none⟩) 0 0) [] := World.ownsRow_lit w #[] 0 hb (by unfold maxLen; omega) rfl
theorem OwnB.one (w : World) {base : Nat} (hb : base ≤ w.heap.size) (b : UInt8) : OwnB (w.alloc (.cells #[.int .u8 (b.toNat : Int)] 5)) base (.slice (some ⟨w.heap.size, 0, none⟩) 1 1) [b] := World.ownsRow_lit w #[.int .u8 (b.toNat : Int)] 1 hb (by unfold maxLen; omega) rfl
theorem OwnB.len (h : OwnB w base v l) : l.length ≤ maxLen := by
  rcases h.2 with ⟨_, h2⟩ | ⟨g, cap, cur, e, h1, hb, h2, h3, h4, h5⟩
  · unfold maxLen; omega
  · omega
theorem grown_below {w0 : World} (hb : Below base w0 w) (ho : OwnB w base v l) (hB : base ≤ w.heap.size) (hg : w.grownBy w' v.ownBlock) : Below base w0 w' :=
  hb.grown hg hB fun k hk => (World.ownsRow.lt ho k hk).1
end

/-- append: where the new row lies. -/
theorem run_append_bytes (w : World) (ty : TypeId) (base : Nat) (v : Value) (l : Bs) (hown : OwnB w base v l) (y : Value) (m : Bs) (hy : RB w y m) (h63 : l.length + m.length ≤ 100000000) (hbase : base ≤ w.heap.size) :
    ∃ v' w', (Builtin.append_ #[22, 22] ty #[v, y]).run Try.prog w = .ok v' w' ∧ OwnB w' base v' (l ++ m) ∧ w.grownBy w' v.ownBlock ∧ ∀ g, v'.ownBlock = some g → v.ownBlock = some g ∨ g = w.heap.size := by
  obtain ⟨i0, hi, hz0, hz1, hz2⟩ := info_parts infoU8
  rcases hy with ⟨rfl, rfl⟩ | ⟨ad, c, rfl, _, _, hnews⟩
  · exact ⟨v, w, run_append_owned_none w base 22 ty 5 i0 1 Try.underlying22 hi v l.length (bcs l) hown, by simpa using hown, World.grownBy.refl _ _, fun g hg => .inl hg⟩
  · obtain ⟨v', w', h1, h2, h3, _, h5⟩ := run_append_own_at (P := Try.prog) w base 22 ty 5 i0 _ 1 1 Try.underlying22 hi hz0 hz1 hz2 rfl (by decide) v l.length (bcs l) hown ad m.length c (bcs m) (by simp [bcs]) (fun j u hu => by
      simp only [bcs, List.getElem?_map, Option.map_eq_some_iff] at hu
      obtain ⟨b, hb, rfl⟩ := hu
      exact hnews j b hb) (one_bcs m) (by unfold maxLen; omega) (by omega) hbase
    refine ⟨v', w', h1, ?_, h3, fun g hg => ?_⟩
    · unfold OwnB
      rw [bcs_app, List.length_append]
      exact h2
    · rcases h5 with h5 | h5
      · exact .inl (h5 ▸ hg)
      · rw [h5] at hg; injection hg with hg; exact .inr hg.symm
theorem run_append_str (w : World) (ty : TypeId) (base : Nat) (v : Value) (l : Bs) (hown : OwnB w base v l) (m : Bs) (h63 : l.length + m.length ≤ 100000000) (hbase : base ≤ w.heap.size) :
    ∃ v' w', (Builtin.append_ #[22, 9] ty #[v, .string ⟨m.toArray⟩]).run Try.prog w = .ok v' w' ∧ OwnB w' base v' (l ++ m) ∧ w.grownBy w' v.ownBlock := by
  obtain ⟨i0, hi, hz0, hz1, hz2⟩ := info_parts infoU8
  have hs : (⟨m.toArray⟩ : ByteArray).size = m.length := by simp [ByteArray.size]
  obtain ⟨v', w', h1, h2, h3, _⟩ := run_append_own_string (P := Try.prog) w base 22 9 ty 5 i0 Try.underlying22 Try.underlying9 hi hz0 hz1 hz2 v l.length (bcs l) hown ⟨m.toArray⟩ (by unfold maxLen; omega) (by omega) hbase
  refine ⟨v', w', h1, ?_, h3⟩
  unfold OwnB
  rw [bcs_app, List.length_append]
  rw [hs, strCells_bcs] at h2
  exact h2

section
variable {ops : Array Oper} {rest : List Oper} {o : Oper} {a : Act} {w : World} {Q : Exit → Act → World → Prop}
theorem wpList_append_bytes (hgd : o.guard = none) (s x : Operand) (ho : o.op = .call { callee := .builtin .append, args := #[s, x], argTypes := #[22, 22] }) (base : Nat) (v : Value) (l : Bs) (hs : a.eval s = v) (hown : OwnB w base v l)
    (y : Value) (m : Bs) (hx : a.eval x = y) (hy : RB w y m) (h63 : l.length + m.length ≤ 100000000) (hbase : base ≤ w.heap.size)
    (h : ∀ v' w', OwnB w' base v' (l ++ m) → w.grownBy w' v.ownBlock → (∀ g, v'.ownBlock = some g → v.ownBlock = some g ∨ g = w.heap.size) → wpList Try.prog ops Q rest (a.put o.dst v') w') : wpList Try.prog ops Q (o :: rest) a w :=
  wpList_plain hgd fun _ hK => by
    obtain ⟨v', w', hr, h2, h3, h4⟩ := run_append_bytes w o.type base v l hown y m hy h63 hbase
    unfold Oper.wp execOp
    simp only [ho, resolve, invoke, builtin, Sem.run_bind, Sem.run_pure, Result.andThen_ok, List.map_toArray, List.map_cons, List.map_nil, hs, hx, hr]
    exact hK _ _ (h v' w' h2 h3 h4)
theorem wpList_append_str (hgd : o.guard = none) (s x : Operand) (ho : o.op = .call { callee := .builtin .append, args := #[s, x], argTypes := #[22, 9] }) (base : Nat) (v : Value) (l : Bs) (hs : a.eval s = v) (hown : OwnB w base v l)
    (m : Bs) (hx : a.eval x = .string ⟨m.toArray⟩) (h63 : l.length + m.length ≤ 100000000) (hbase : base ≤ w.heap.size)
    (h : ∀ v' w', OwnB w' base v' (l ++ m) → w.grownBy w' v.ownBlock → wpList Try.prog ops Q rest (a.put o.dst v') w') : wpList Try.prog ops Q (o :: rest) a w :=
  wpList_plain hgd fun _ hK => by
    obtain ⟨v', w', hr, h2, h3⟩ := run_append_str w o.type base v l hown m h63 hbase
    unfold Oper.wp execOp
    simp only [ho, resolve, invoke, builtin, Sem.run_bind, Sem.run_pure, Result.andThen_ok, List.map_toArray, List.map_cons, List.map_nil, hs, hx, hr]
    exact hK _ _ (h v' w' h2 h3)
theorem step_append_bytes {K : Act → World → Prop} {E : Prop} (hgd : o.guard = none) (s x : Operand) (ho : o.op = .call { callee := .builtin .append, args := #[s, x], argTypes := #[22, 22] }) (base : Nat) (v : Value) (l : Bs) (hs : a.eval s = v) (hown : OwnB w base v l)
    (y : Value) (m : Bs) (hx : a.eval x = y) (hy : RB w y m) (h63 : l.length + m.length ≤ 100000000) (hbase : base ≤ w.heap.size)
    (h : ∀ v' w', OwnB w' base v' (l ++ m) → w.grownBy w' v.ownBlock → (∀ g, v'.ownBlock = some g → v.ownBlock = some g ∨ g = w.heap.size) → K (a.put o.dst v') w') :
    if Region.wanted o (yielded ops a.tmps) = true then Oper.wp Try.prog o a w K Q else E := by
  have hw : Region.wanted o (yielded ops a.tmps) = true := by simp [Region.wanted, hgd]
  rw [if_pos hw]
  obtain ⟨v', w', hr, h2, h3, h4⟩ := run_append_bytes w o.type base v l hown y m hy h63 hbase
  unfold Oper.wp execOp
  simp only [ho, resolve, invoke, builtin, Sem.run_bind, Sem.run_pure, Result.andThen_ok, List.map_toArray, List.map_cons, List.map_nil, hs, hx, hr]
  exact h v' w' h2 h3 h4
theorem step_append_str {K : Act → World → Prop} {E : Prop} (hgd : o.guard = none) (s x : Operand) (ho : o.op = .call { callee := .builtin .append, args := #[s, x], argTypes := #[22, 9] }) (base : Nat) (v : Value) (l : Bs) (hs : a.eval s = v) (hown : OwnB w base v l)
    (m : Bs) (hx : a.eval x = .string ⟨m.toArray⟩) (h63 : l.length + m.length ≤ 100000000) (hbase : base ≤ w.heap.size)
    (h : ∀ v' w', OwnB w' base v' (l ++ m) → w.grownBy w' v.ownBlock → K (a.put o.dst v') w') :
    if Region.wanted o (yielded ops a.tmps) = true then Oper.wp Try.prog o a w K Q else E := by
  have hw : Region.wanted o (yielded ops a.tmps) = true := by simp [Region.wanted, hgd]
  rw [if_pos hw]
  obtain ⟨v', w', hr, h2, h3⟩ := run_append_str w o.type base v l hown m h63 hbase
  unfold Oper.wp execOp
  simp only [ho, resolve, invoke, builtin, Sem.run_bind, Sem.run_pure, Result.andThen_ok, List.map_toArray, List.map_cons, List.map_nil, hs, hx, hr]
  exact h v' w' h2 h3
theorem wpList_conv (hgd : o.guard = none) (x : Operand) (ho : o.op = .convert 22 9 x) (v : Value) (l : Bs) (hx : a.eval x = v) (hv : RB w v l)
    (h : wpList Try.prog ops Q rest (a.put o.dst (.string ⟨l.toArray⟩)) w) : wpList Try.prog ops Q (o :: rest) a w :=
  wpList_plain hgd fun _ hK => by
    have hr := hv.conv
    unfold Oper.wp execOp
    simp only [ho, hx, Sem.run_bind, Sem.run_pure, Result.andThen_ok, hr]
    exact hK _ _ h
end
end Go.Proofs.Ytmmfkepkdmmmkaa
