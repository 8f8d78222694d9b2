/- Configurations in memory. -/
import Derived.Test.YtjklpikopgihgaaGreatDoorRows
import Derived.Test.YtjklpikopgihgaaGreatDoorMath
import Derived.WalkKit
import Derived.ProofKit
import Derived.WalkLawsBesides
import Derived.WalkSpells
import Derived.Outline
import Derived.LoopTactic
import Derived.RegionTactic
import Derived.ChangeAlike
import Derived.Laws.Rows
import Derived.Laws.Bits64
import Derived.Laws.BytesString
import Derived.Laws.IdiomStrings
import Derived.Lib.AppendStr
import Derived.Lib.Hide
import Derived.Deep.Draws
import Derived.Deep.RegionHeld3
import Derived.Deep.AppendLies
import Derived.Laws.CopyOwn
import Derived.Laws.OwnMore
import Derived.StillTailTactics
import Derived.BigQuiet
import Derived.Maps.AppendAt
set_option linter.unusedVariables false
set_option linter.unusedSimpArgs false
namespace Go.Proofs.YtjklpikopgihgaaGreatDoor
open Go.RowKit Go.Lib Cf

theorem ret_i {k : IntKind} {a b : Int} (h : a = b) : Ending.returned (.int k a) = .returned (.int k b) := by rw [h]
theorem ret_b {a b : Bool} (h : a = b) : Ending.returned (.bool a) = .returned (.bool b) := by rw [h]
theorem then_ {w a b : World} (h : Below w.heap.size w a) (k : Below a.heap.size a b) : Below w.heap.size w b := h.trans (k.mono h.size)
theorem cell_keep {w a : World} {p : Addr} {v : Value} (h : w.cell? p = some v) (k : Below w.heap.size w a) : a.cell? p = some v := (k.cell (World.block_lt_of_cell? w p h)).trans h
theorem block_add' (a : Addr) (n : Nat) : (a.add n).block = a.block := by unfold Addr.add; split <;> rfl
theorem add_zero' (p : Addr) : p.add 0 = p := by unfold Addr.add; rw [if_pos rfl]
theorem addr_add (a : Addr) (i j : Nat) : (a.add i).add j = a.add (i + j) := by
  unfold Addr.add
  by_cases hj : j = 0
  · subst hj; simp
  · by_cases hi : i = 0
    · subst hi; simp [hj]
    · rw [if_neg hj, if_neg hi, if_neg (by omega)]
      simp [Nat.add_assoc]
def I64 (n : Int) : Prop := -9223372036854775808 ≤ n ∧ n ≤ 9223372036854775807

/-! ### Numbers, triples, plans -/

/-- The value v reads as the numbers l. -/
def RN (w : World) (v : Value) (l : List Int) : Prop :=
  (v = .slice none 0 0 ∧ l = []) ∨ ∃ ad c, v = .slice (some ad) l.length c ∧ ∀ (j : Nat) (z : Int), l[j]? = some z → w.cell? (ad.add j) = some (.int .i64 z)
/-- The cells at p are a triple. -/
def T3 (w : World) (p : Addr) (e : Int × Int × Int) : Prop := w.cell? p = some (.int .i64 e.1) ∧ w.cell? (p.add 1) = some (.int .i64 e.2.1) ∧ w.cell? (p.add 2) = some (.int .i64 e.2.2)
/-- The value v reads as the triples l. -/
def R3 (w : World) (v : Value) (l : List (Int × Int × Int)) : Prop :=
  (v = .slice none 0 0 ∧ l = []) ∨ ∃ ad c, v = .slice (some ad) l.length c ∧ ∀ (j : Nat) (e : Int × Int × Int), l[j]? = some e → T3 w (ad.add (j * 3)) e
/-- The cells at p are a plan whose kinds are the value u. -/
def PAt (w : World) (p : Addr) (q : Plan) (u : Value) : Prop := w.cell? p = some (.string ⟨q.code.toArray⟩) ∧ w.cell? (p.add 1) = some (.int .i64 q.urg) ∧ w.cell? (p.add 2) = some u
/-- The value v reads as the plans l. -/
def RP (w : World) (v : Value) (l : List Plan) : Prop :=
  (v = .slice none 0 0 ∧ l = []) ∨ ∃ ad c, v = .slice (some ad) l.length c ∧ l.length ≤ c ∧ ∀ (j : Nat) (q : Plan), l[j]? = some q → ∃ u, PAt w (ad.add (j * 3)) q u ∧ RN w u q.kinds
section
variable {w w' : World} {v : Value}
theorem RN.below {l : List Int} (h : RN w v l) (hb : Below w.heap.size w w') : RN w' v l := by
  rcases h with h | ⟨ad, c, e, hc⟩
  · exact .inl h
  · exact .inr ⟨ad, c, e, fun j b hj => cell_keep (hc j b hj) hb⟩
theorem RN.form {l : List Int} (h : RN w v l) : ∃ A c, v = .slice A l.length c := by
  rcases h with ⟨e, hl⟩ | ⟨ad, c, e, _⟩
  · exact ⟨none, 0, by rw [e, hl]; rfl⟩
  · exact ⟨_, c, e⟩
theorem RN.at_ {l : List Int} {A : Option Addr} {c : Nat} (h : RN w (.slice A l.length c) l) {j : Nat} {z : Int} (hj : l[j]? = some z) : ∃ ad, A = some ad ∧ w.cell? (ad.add j) = some (.int .i64 z) := by
  rcases h with ⟨_, hl⟩ | ⟨ad, c', e, hc⟩
  · subst hl; simp at hj
  · simp only [Value.slice.injEq, true_and] at e
    exact ⟨ad, e.1, hc j z hj⟩
theorem RN.nil (w : World) : RN w (.slice none 0 0) [] := .inl ⟨rfl, rfl⟩
theorem T3.below {p : Addr} {e : Int × Int × Int} (h : T3 w p e) (hb : Below w.heap.size w w') : T3 w' p e := ⟨cell_keep h.1 hb, cell_keep h.2.1 hb, cell_keep h.2.2 hb⟩
theorem R3.below {l : List (Int × Int × Int)} (h : R3 w v l) (hb : Below w.heap.size w w') : R3 w' v l := by
  rcases h with h | ⟨ad, c, e, hc⟩
  · exact .inl h
  · exact .inr ⟨ad, c, e, fun j b hj => (hc j b hj).below hb⟩
theorem R3.form {l : List (Int × Int × Int)} (h : R3 w v l) : ∃ A c, v = .slice A l.length c := by
  rcases h with ⟨e, hl⟩ | ⟨ad, c, e, _⟩
  · exact ⟨none, 0, by rw [e, hl]; rfl⟩
  · exact ⟨_, c, e⟩
theorem R3.at_ {l : List (Int × Int × Int)} {A : Option Addr} {c : Nat} (h : R3 w (.slice A l.length c) l) {j : Nat} {z : Int × Int × Int} (hj : l[j]? = some z) : ∃ ad, A = some ad ∧ T3 w (ad.add (j * 3)) z := by
  rcases h with ⟨_, hl⟩ | ⟨ad, c', e, hc⟩
  · subst hl; simp at hj
  · simp only [Value.slice.injEq, true_and] at e
    exact ⟨ad, e.1, hc j z hj⟩
theorem R3.nil (w : World) : R3 w (.slice none 0 0) [] := .inl ⟨rfl, rfl⟩
theorem PAt.below {p : Addr} {q : Plan} {u : Value} (h : PAt w p q u) (hb : Below w.heap.size w w') : PAt w' p q u := ⟨cell_keep h.1 hb, cell_keep h.2.1 hb, cell_keep h.2.2 hb⟩
theorem RP.below {l : List Plan} (h : RP w v l) (hb : Below w.heap.size w w') : RP w' v l := by
  rcases h with h | ⟨ad, c, e, hl, hc⟩
  · exact .inl h
  · exact .inr ⟨ad, c, e, hl, fun j b hj => by obtain ⟨u, h1, h2⟩ := hc j b hj; exact ⟨u, h1.below hb, h2.below hb⟩⟩
theorem RP.form {l : List Plan} (h : RP w v l) : ∃ A c, v = .slice A l.length c := by
  rcases h with ⟨e, hl⟩ | ⟨ad, c, e, _⟩
  · exact ⟨none, 0, by rw [e, hl]; rfl⟩
  · exact ⟨_, c, e⟩
theorem RP.cap {l : List Plan} {A : Option Addr} {c : Nat} (h : RP w (.slice A l.length c) l) : l.length ≤ c := by
  rcases h with ⟨e, hl⟩ | ⟨ad, c', e, h1, _⟩
  · subst hl; simp
  · injection e with e1 e2 e3; omega
theorem RP.at_ {l : List Plan} {A : Option Addr} {c : Nat} (h : RP w (.slice A l.length c) l) {j : Nat} {q : Plan} (hj : l[j]? = some q) : ∃ ad u, A = some ad ∧ PAt w (ad.add (j * 3)) q u ∧ RN w u q.kinds := by
  rcases h with ⟨_, hl⟩ | ⟨ad, c', e, _, hc⟩
  · subst hl; simp at hj
  · simp only [Value.slice.injEq, true_and] at e
    obtain ⟨u, h1, h2⟩ := hc j q hj
    exact ⟨ad, u, e.1, h1, h2⟩
theorem RP.nil (w : World) : RP w (.slice none 0 0) [] := .inl ⟨rfl, rfl⟩
end

/-! ### Whole loads and new blocks -/

theorem run_load_list (w : World) (T : TypeId) (p : Addr) (cs : List Value) (hagg : (isAgg T).run Tryz.prog w = .ok true w) (hsz : (sizeOf T).run Tryz.prog w = .ok cs.length w) (hc : ∀ j v, cs[j]? = some v → w.cell? (p.add j) = some v) : (loadVar T p).run Tryz.prog w = .ok (.agg cs.toArray) w := by
  have hl : (loadCells p cs.length).run Tryz.prog w = .ok cs.toArray w := run_loadCells_list (P := Tryz.prog) w p cs hc
  simp [loadVar, Sem.run_bind, hagg, hsz, hl]
/-- A load of a whole struct. -/
theorem wpList_load_list {ops : Array Oper} {rest : List Oper} {o : Oper} {a : Act} {w : World} {Q : Exit → Act → World → Prop} (hgd : o.guard = none) (T : TypeId) (x : Operand) (ho : o.op = .load T x) (p : Addr) (hx : a.eval x = .pointer (some p)) (cs : List Value)
    (hr : (loadVar T p).run Tryz.prog w = .ok (.agg cs.toArray) w) (h : wpList Tryz.prog ops Q rest (a.put o.dst (.agg cs.toArray)) w) : wpList Tryz.prog ops Q (o :: rest) a w :=
  wpList_plain hgd fun K hK => by
    unfold Oper.wp execOp
    simp only [ho, hx, Instr.loadAt, Instr.sureAddr, Sem.run_bind, Sem.run_pure, Result.andThen_ok, hr]
    exact hK _ _ h
/-- A load of a whole plan. -/
theorem load_plan {w : World} {p : Addr} {q : Plan} {u : Value} (h : PAt w p q u) : (loadVar 43 p).run Tryz.prog w = .ok (.agg #[.string ⟨q.code.toArray⟩, .int .i64 q.urg, u]) w :=
  run_load_list w 43 p [.string ⟨q.code.toArray⟩, .int .i64 q.urg, u] (by kernel_rfl) (by kernel_rfl) fun j v hv => by
    match j, hv with
    | 0, hv => simp at hv; subst hv; rw [add_zero']; exact h.1
    | 1, hv => simp at hv; subst hv; exact h.2.1
    | 2, hv => simp at hv; subst hv; exact h.2.2
    | j + 3, hv => simp at hv
theorem load_edge {w : World} {p : Addr} {e : Int × Int × Int} (h : T3 w p e) : (loadVar 47 p).run Tryz.prog w = .ok (.agg #[.int .i64 e.1, .int .i64 e.2.1, .int .i64 e.2.2]) w :=
  run_load_list w 47 p [.int .i64 e.1, .int .i64 e.2.1, .int .i64 e.2.2] (by kernel_rfl) (by kernel_rfl) fun j v hv => by
    match j, hv with
    | 0, hv => simp at hv; subst hv; rw [add_zero']; exact h.1
    | 1, hv => simp at hv; subst hv; exact h.2.1
    | 2, hv => simp at hv; subst hv; exact h.2.2
    | j + 3, hv => simp at hv
theorem load_unit {w : World} {p : Addr} {e : Int × Int × Int} (h : T3 w p e) : (loadVar 50 p).run Tryz.prog w = .ok (.agg #[.int .i64 e.1, .int .i64 e.2.1, .int .i64 e.2.2]) w :=
  run_load_list w 50 p [.int .i64 e.1, .int .i64 e.2.1, .int .i64 e.2.2] (by kernel_rfl) (by kernel_rfl) fun j v hv => by
    match j, hv with
    | 0, hv => simp at hv; subst hv; rw [add_zero']; exact h.1
    | 1, hv => simp at hv; subst hv; exact h.2.1
    | 2, hv => simp at hv; subst hv; exact h.2.2
    | j + 3, hv => simp at hv

/-- The cells of a configuration. -/
def cfgCells (c : Cfg) (vd ve vu vp : Value) : List Value := [.int .i64 c.ce, vd, ve, vu, vp, .int .i64 c.n0, .int .i64 c.n1, .int .i64 c.n2, .int .i64 c.n3, .int .i64 c.n4, .int .i64 c.n5, .int .i64 c.n6, .int .i64 c.n7, .int .i64 c.n8, .int .i64 c.n9]
/-- The value v reads as the configuration c. -/
def CfgV (w : World) (v : Value) (c : Cfg) : Prop := ∃ vd ve vu vp, v = .agg (cfgCells c vd ve vu vp).toArray ∧ RN w vd c.ds ∧ R3 w ve c.es ∧ R3 w vu c.us ∧ RP w vp c.ps
theorem CfgV.below {w w' : World} {v : Value} {c : Cfg} (h : CfgV w v c) (hb : Below w.heap.size w w') : CfgV w' v c := by
  obtain ⟨vd, ve, vu, vp, e, h1, h2, h3, h4⟩ := h
  exact ⟨vd, ve, vu, vp, e, h1.below hb, h2.below hb, h3.below hb, h4.below hb⟩
/-- A block that holds a configuration. -/
def CB (w : World) (g : Nat) (c : Cfg) (vd ve vu vp : Value) : Prop := w.heap[g]? = some (.cells (cfgCells c vd ve vu vp).toArray 27 (0, 0))
section
variable {w w' : World} {g : Nat} {c : Cfg} {vd ve vu vp : Value}
theorem CB.lt (h : CB w g c vd ve vu vp) : g < w.heap.size := (Array.getElem?_eq_some_iff.1 h).1
theorem CB.below (h : CB w g c vd ve vu vp) (hb : Below w.heap.size w w') : CB w' g c vd ve vu vp := (hb.block g h.lt).trans h
theorem CB.at_ (h : CB w g c vd ve vu vp) (i : Nat) (v : Value) (hv : (cfgCells c vd ve vu vp)[i]? = some v) : w.cell? ⟨g, i, none⟩ = some v := by
  rw [cell_of_row _ _ i _ _ _ h]; simpa using hv
theorem CB.frozen (h : CB w g c vd ve vu vp) (i : Nat) : w.frozen? ⟨g, i, none⟩ = false := by unfold World.frozen?; rw [h]; rfl
theorem CB.load (h : CB w g c vd ve vu vp) : (loadVar 27 ⟨g, 0, none⟩).run Tryz.prog w = .ok (.agg (cfgCells c vd ve vu vp).toArray) w :=
  run_load_list w 27 ⟨g, 0, none⟩ (cfgCells c vd ve vu vp) (by kernel_rfl) (by kernel_rfl) fun j v hv => by
    have : (⟨g, 0, none⟩ : Addr).add j = ⟨g, j, none⟩ := by unfold Addr.add; split <;> simp_all
    rw [this]; exact h.at_ j v hv
theorem cb_new (w : World) (c : Cfg) (vd ve vu vp : Value) : CB (w.alloc (.cells (cfgCells c vd ve vu vp).toArray 27)) w.heap.size c vd ve vu vp := heap_alloc_new w _
end
end Go.Proofs.YtjklpikopgihgaaGreatDoor
