/- Worlds, and the map of the positions. -/
import Derived.Test.YtkdabnhhjjmibaaRows
import Derived.Test.YtkdabnhhjjmibaaMath
import Derived.WalkKit
import Derived.ProofKit
import Derived.WalkLawsBesides
import Derived.WalkSpells
import Derived.Outline
import Derived.LoopTactic
import Derived.RegionTactic
import Derived.ChangeAlike
import Derived.Laws.Rows
import Derived.Lib.Hide
import Derived.Deep.Draws
import Derived.Laws.CopyOwn
import Derived.Laws.OwnMore
import Derived.StillTailTactics
import Derived.BigQuiet
import Derived.Maps.OwnSet
import Derived.Deep.AppendLies
import Derived.Deep.RegionHeld3
namespace Go.Proofs.Ytkdabnhhjjmibaa
open Go.RowKit Go.Lib Hp

theorem ret_i {k : IntKind} {a b : Int} (h : a = b) : Ending.returned (.int k a) = .returned (.int k b) := by rw [h]
theorem ret_b {a b : Bool} (h : a = b) : Ending.returned (.bool a) = .returned (.bool b) := by rw [h]
theorem then_ {w a b : World} (h : Below w.heap.size w a) (k : Below a.heap.size a b) : Below w.heap.size w b := h.trans (k.mono h.size)

theorem cell_keep {w a : World} {p : Addr} {v : Value} (h : w.cell? p = some v) (k : Below w.heap.size w a) : a.cell? p = some v := (k.cell (World.block_lt_of_cell? w p h)).trans h
theorem keep5 {w0 w a : World} {p0 p1 p2 p3 p4 : Addr} {v0 v1 v2 v3 v4 : Value} (h : w.cell? p0 = some v0 ∧ w.cell? p1 = some v1 ∧ w.cell? p2 = some v2 ∧ w.cell? p3 = some v3 ∧ w.cell? p4 = some v4 ∧ Below w0.heap.size w0 w) (k : Below w.heap.size w a) :
    a.cell? p0 = some v0 ∧ a.cell? p1 = some v1 ∧ a.cell? p2 = some v2 ∧ a.cell? p3 = some v3 ∧ a.cell? p4 = some v4 ∧ Below w0.heap.size w0 a :=
  ⟨cell_keep h.1 k, cell_keep h.2.1 k, cell_keep h.2.2.1 k, cell_keep h.2.2.2.1 k, cell_keep h.2.2.2.2.1 k, then_ h.2.2.2.2.2 k⟩

/-- A number that fits an int. -/
def Fits (y : Int) : Prop := (Lit.int .i64 y).wf = true

/-! ### What has changed -/

/-- Of the blocks of w, only those of S may have changed. -/
structure Chg (S : Nat → Prop) (w w' : World) : Prop where
  os : w'.os = w.os
  tape : w'.tape = w.tape
  output : w'.output = w.output
  size : w.heap.size ≤ w'.heap.size
  block : ∀ k, k < w.heap.size → ¬ S k → w'.heap[k]? = w.heap[k]?

section
variable {S T : Nat → Prop} {w a b : World}
theorem Chg.refl (S : Nat → Prop) (w : World) : Chg S w w := ⟨rfl, rfl, rfl, Nat.le_refl _, fun _ _ _ => rfl⟩
theorem Chg.trans (h : Chg S w a) (k : Chg T a b) (hs : ∀ i, i < w.heap.size → T i → S i) : Chg S w b :=
  ⟨k.os.trans h.os, k.tape.trans h.tape, k.output.trans h.output, Nat.le_trans h.size k.size, fun i hi hn => (k.block i (Nat.lt_of_lt_of_le hi h.size) (fun ht => hn (hs i hi ht))).trans (h.block i hi hn)⟩
theorem Chg.of_below (S : Nat → Prop) (h : Below w.heap.size w a) : Chg S w a := ⟨h.os, h.tape, h.output, h.size, fun k hk _ => h.block k hk⟩
theorem Chg.below (h : Chg S w a) (hs : ∀ k, S k → w.heap.size ≤ k) : Below w.heap.size w a := ⟨h.os, h.tape, h.output, h.size, fun k hk => h.block k hk (fun h2 => by have := hs k h2; omega)⟩
theorem Chg.belowAt {B : Nat} (h : Chg S w a) (hB : B ≤ w.heap.size) (hs : ∀ k, S k → B ≤ k) : Below B w a := ⟨h.os, h.tape, h.output, h.size, fun k hk => h.block k (by omega) (fun h2 => by have := hs k h2; omega)⟩
theorem Chg.mono (h : Chg S w a) (hs : ∀ k, S k → T k) : Chg T w a := ⟨h.os, h.tape, h.output, h.size, fun k hk hn => h.block k hk fun h2 => hn (hs k h2)⟩
theorem Chg.then (h : Chg S w a) (k : Below a.heap.size a b) : Chg S w b := h.trans (Chg.of_below S k) fun _ _ h => h
theorem Chg.drew (h : Chg S w a) : Chg S w a.drew := ⟨h.os, h.tape, h.output, h.size, h.block⟩
theorem Chg.alloc (h : Chg S w a) (o : Obj) : Chg S w (a.alloc o) := h.then ((Below.refl _ _).alloc (Nat.le_refl _) o)
theorem Chg.setCell (h : Chg S w a) {p : Addr} (hp : p.block < w.heap.size → S p.block) (u : Value) : Chg S w (a.setCell p u) :=
  ⟨h.os, h.tape, h.output, by simpa using h.size, fun k hk hn => (Below.heap_setCell a p u k (fun e => hn (e ▸ hp (e ▸ hk)))).trans (h.block k hk hn)⟩
theorem Chg.grown {row : Option Nat} (h : Chg S w a) (k : a.grownBy b row) (hr : ∀ i, row = some i → i < w.heap.size → S i) : Chg S w b :=
  ⟨k.os.trans h.os, k.tape.trans h.tape, k.output.trans h.output, Nat.le_trans h.size k.size, fun i hi hn => (k.block i (Nat.lt_of_lt_of_le hi h.size) (fun e => hn (hr i e.symm hi))).trans (h.block i hi hn)⟩
theorem Chg.at (h : Chg S w a) {g : Nat} {o : Obj} (hg : w.heap[g]? = some o) (hn : ¬ S g) : a.heap[g]? = some o := (h.block g (Array.getElem?_eq_some_iff.1 hg).1 hn).trans hg
end

/-! ### The map of the positions -/

def MapIs (w : World) (m : Option Nat) (n : Nat) (f : Int → Option Nat) : Prop :=
  match m with
  | none => ∀ y, f y = none
  | some b => ∃ D : DataW Unit, w.ownsMap Try.prog 3 (plainElem Try.prog 3) b n D ∧ ∀ y : Int, Maps.has D (.int .i64 y) = (f y).isSome ∧ ∀ j, f y = some j → D.atKey (.int .i64 y) (.lit (.int .i64 0)) = .lit (.int .i64 (j : Int))

theorem keyedI : Maps.Keyed Try.prog 3 := Maps.int_keyed Try.underlying3
theorem keyI {y : Int} (h : Fits y) : keyOf Try.prog 3 (.int .i64 y) = some (.int .i64 y) := Maps.keyOf_int_mk Try.underlying3 h

section
variable {w w' : World} {m : Option Nat} {n : Nat} {f : Int → Option Nat}

theorem MapIs.mono (h : MapIs w m n f) {n' : Nat} (hn : n ≤ n') : MapIs w m n' f := by
  cases m with
  | none => exact h
  | some b => obtain ⟨D, h1, h2⟩ := h; exact ⟨D, h1.mono hn, h2⟩
theorem MapIs.lt (h : MapIs w m n f) : ∀ b, m = some b → ∃ es c, w.heap[b]? = some (.map es c) := by
  rintro b rfl
  obtain ⟨D, ⟨es, c, hb, _⟩, _⟩ := h
  exact ⟨es, c, hb⟩
theorem MapIs.kept (h : MapIs w m n f) (hk : ∀ b, m = some b → w'.heap[b]? = w.heap[b]?) : MapIs w' m n f := by
  cases m with
  | none => exact h
  | some b =>
    obtain ⟨D, ⟨es, c, hb, r⟩, h2⟩ := h
    exact ⟨D, ⟨es, c, (hk b rfl).trans hb, r⟩, h2⟩

theorem zeroInt (w : World) : (zeroValue 3).run Try.prog w = .ok (.int .i64 0) w := by kernel_rfl

/-- 'i, found := m[y]'. -/
theorem MapIs.look (h : MapIs w m n f) {y : Int} (hy : Fits y) : ∃ c : Int, (Instr.lookup 62 (.map m) (.int .i64 y) true).run Try.prog w = .ok (.tuple #[.int .i64 c, .bool (f y).isSome]) w ∧ ∀ j, f y = some j → c = (j : Int) := by
  cases m with
  | none =>
    have h' : ∀ y, f y = none := h
    refine ⟨0, ?_, fun j hj => by rw [h' y] at hj; cases hj⟩
    rw [h' y]
    have := Maps.look_nil (w := w) (t := 62) true keyedI Try.underlying62 (zeroInt w) (keyI hy)
    exact this
  | some b =>
    obtain ⟨D, h1, h2⟩ := h
    obtain ⟨e1, e2⟩ := h2 y
    obtain ⟨v, ps, hrun, hv⟩ := h1.look_ok (t := 62) keyedI Try.underlying62 (zeroInt w) (plainElem_int Try.underlying3 (by decide)) (keyI hy)
    obtain ⟨c, rfl, hc, _⟩ := plainElem_int_inv Try.underlying3 hv
    refine ⟨c, by rw [hrun, e1], fun j hj => ?_⟩
    have h3 := e2 j hj
    have h4 := (Prod.mk.inj hc).1
    rw [h4] at h3
    injection h3 with h3
    injection h3

/-- 'm[y] = j'. -/
theorem MapIs.store {b : Nat} (h : MapIs w (some b) n f) {y : Int} (hy : Fits y) {j : Nat} (hj : Fits (j : Int)) (hn : n < maxLen) :
    ∃ w', (Instr.mapUpdate 62 (.map (some b)) (.int .i64 y) (.int .i64 (j : Int))).run Try.prog w = .ok () w' ∧ MapIs w' (some b) (n + 1) (upd f y j) ∧ w.grownBy w' (some b) := by
  obtain ⟨D, h1, h2⟩ := h
  obtain ⟨w', hrun, h3, h4⟩ := h1.update (t := 62) keyedI Try.underlying62 hn (keyI hy) (plainElem_int Try.underlying3 hj)
  refine ⟨w', hrun, ⟨_, h3, fun z => ?_⟩, h4⟩
  have hD := h1.isMap
  have hk : WideAt.IsKeyLit (.int .i64 y) := trivial
  unfold upd
  by_cases e : z = y
  · subst e
    rw [if_pos rfl]
    refine ⟨Maps.has_put_same hD hk _, fun i hi => ?_⟩
    injection hi with hi; subst hi
    exact Maps.atKey_put_same hD hk _ _
  · rw [if_neg e]
    have hne : (Lit.int .i64 z) ≠ (Lit.int .i64 y) := fun e2 => by injection e2 with _ e2; exact e e2
    rw [Maps.has_put_other hne]
    refine ⟨(h2 z).1, fun i hi => ?_⟩
    rw [Maps.atKey_put_other hne]
    exact (h2 z).2 i hi

/-- 'delete(m, y)'. -/
theorem MapIs.drop {b : Nat} (h : MapIs w (some b) n f) {y : Int} (hy : Fits y) (ty : TypeId) :
    ∃ w', (Builtin.delete_ #[62, 3] ty #[.map (some b), .int .i64 y]).run Try.prog w = .ok (.tuple #[]) w' ∧ MapIs w' (some b) n (del f y) ∧ w.grownBy w' (some b) := by
  obtain ⟨D, h1, h2⟩ := h
  obtain ⟨w', hrun, h3, h4⟩ := h1.drop (t := 62) keyedI Try.underlying62 (keyI hy) ty
  refine ⟨w', hrun, ⟨_, h3, fun z => ?_⟩, h4.grown⟩
  unfold del
  by_cases e : z = y
  · subst e
    rw [if_pos rfl]
    exact ⟨Maps.has_del_same, fun i hi => by cases hi⟩
  · rw [if_neg e]
    have hne : (Lit.int .i64 z) ≠ (Lit.int .i64 y) := fun e2 => by injection e2 with _ e2; exact e e2
    rw [Maps.has_del_other hne]
    refine ⟨(h2 z).1, fun i hi => ?_⟩
    rw [Maps.atKey_del_other hne]
    exact (h2 z).2 i hi

theorem run_make_pos (w : World) : (Instr.makeMap 62 none).run Try.prog w = .ok (.map (some w.heap.size)) (w.alloc (.map #[] 0)) := by kernel_rfl
theorem map_eql (m : Option Nat) (w : World) : (binOp .eql 62 (.map m) (.map none)).run Try.prog w = .ok (.bool m.isNone) w := by
  cases m <;> kernel_rfl

theorem MapIs.made (w : World) : MapIs (w.alloc (.map #[] 0)) (some w.heap.size) 0 (fun _ => none) :=
  ⟨_, World.ownsMap_made w Try.prog 3 _, fun y => ⟨rfl, fun j h => by cases h⟩⟩
end

section
variable {ops : Array Oper} {rest : List Oper} {o : Oper} {a : Act} {w : World} {Q : Exit → Act → World → Prop}
theorem wpList_store_pos {m n : _} {f : Int → Option Nat} (hg : o.guard = none) (x1 x2 x3 : Operand) (hop : o.op = Op.mapUpdate 62 x1 x2 x3) (b : Nat) (hm : m = some b) (h : MapIs w m n f) {y : Int} {j : Nat} (hy : Fits y) (hj : Fits (j : Int)) (hn : n < maxLen)
    (e1 : a.eval x1 = .map m) (e2 : a.eval x2 = .int .i64 y) (e3 : a.eval x3 = .int .i64 (j : Int))
    (hK : ∀ w', MapIs w' m (n + 1) (upd f y j) → w.grownBy w' m → wpList Try.prog ops Q rest (a.put o.dst undef) w') : wpList Try.prog ops Q (o :: rest) a w := by
  subst hm
  refine wpList_plain hg fun K' hK' => ?_
  obtain ⟨w', hrun, r1, r2⟩ := h.store hy hj hn
  unfold Oper.wp
  simp [execOp, hop, e1, e2, e3, hrun, Result.andThen]
  exact hK' _ _ (hK w' r1 r2)
theorem wpList_del_pos {m n : _} {f : Int → Option Nat} (hg : o.guard = none) (x1 x2 : Operand) (hop : o.op = Op.call { callee := Callee.builtin Builtin.delete, args := #[x1, x2], argTypes := #[62, 3] }) (b : Nat) (hm : m = some b) (h : MapIs w m n f) {y : Int} (hy : Fits y)
    (e1 : a.eval x1 = .map m) (e2 : a.eval x2 = .int .i64 y)
    (hK : ∀ w', MapIs w' m n (del f y) → w.grownBy w' m → wpList Try.prog ops Q rest (a.put o.dst (.tuple #[])) w') : wpList Try.prog ops Q (o :: rest) a w := by
  subst hm
  refine wpList_plain hg fun K' hK' => ?_
  obtain ⟨w', hrun, r1, r2⟩ := h.drop hy o.type
  unfold Oper.wp
  simp [execOp, hop, resolve, invoke, builtin, e1, e2, hrun, Result.andThen]
  exact hK' _ _ (hK w' r1 r2)
end

/-! ### The blocks of a heap -/

def foot (hb : Nat) (v : Value) (m : Option Nat) (k : Nat) : Prop := k = hb ∨ v.ownBlock = some k ∨ m = some k

/-- What an operation on a heap does to memory. -/
structure Moved (hb : Nat) (v : Value) (m : Option Nat) (v' : Value) (m' : Option Nat) (w w' : World) : Prop where
  chg : Chg (foot hb v m) w w'
  sub : ∀ k, foot hb v' m' k → foot hb v m k ∨ w.heap.size ≤ k
theorem Moved.refl (hb : Nat) (v : Value) (m : Option Nat) (w : World) : Moved hb v m v m w w := ⟨Chg.refl _ _, fun _ h => .inl h⟩
theorem Moved.trans {hb : Nat} {v v1 v2 : Value} {m m1 m2 : Option Nat} {w a b : World} (h : Moved hb v m v1 m1 w a) (k : Moved hb v1 m1 v2 m2 a b) : Moved hb v m v2 m2 w b :=
  ⟨h.chg.trans k.chg fun i hi ht => by rcases h.sub i ht with h1 | h1; exact h1; omega, fun i hi => by rcases k.sub i hi with h1 | h1; exact h.sub i h1; exact .inr (Nat.le_trans h.chg.size h1)⟩
theorem Moved.of_below {hb : Nat} {v : Value} {m : Option Nat} {w a : World} (h : Below w.heap.size w a) : Moved hb v m v m w a := ⟨Chg.of_below _ h, fun _ h => .inl h⟩
theorem Moved.not {hb : Nat} {v v' : Value} {m m' : Option Nat} {w a : World} (h : Moved hb v m v' m' w a) {g : Nat} (hg : g < w.heap.size) (hn : ¬ foot hb v m g) : ¬ foot hb v' m' g := fun h1 => by
  rcases h.sub g h1 with h2 | h2
  · exact hn h2
  · omega
end Go.Proofs.Ytkdabnhhjjmibaa
