/- Rows of one's own; the code: appendLine, planWords. -/
import Derived.Test.YtjklpikopgihgaaGreatDoorK5
import Derived.Test.YtjklpikopgihgaaGreatDoorK4
set_option linter.unusedVariables false
set_option maxRecDepth 100000
set_option linter.unusedSimpArgs false
namespace Go.Proofs.YtjklpikopgihgaaGreatDoor
open Go.RowKit Go.Lib Cf

/-! ### What has changed -/

/-- Of the blocks of w, only those of S may have changed. -/
structure Chg (S : Nat → Prop) (w w' : World) : Prop where
  os : w'.os = w.os
  tape : w'.tape = w.tape
  output : w'.output = w.output
  size : w.heap.size ≤ w'.heap.size
  block : ∀ k, k < w.heap.size → ¬ S k → w'.heap[k]? = w.heap[k]?
section
variable {S T : Nat → Prop} {w a b : World}
theorem Chg.refl (S : Nat → Prop) (w : World) : Chg S w w := ⟨rfl, rfl, rfl, Nat.le_refl _, fun _ _ _ => rfl⟩
theorem Chg.trans (h : Chg S w a) (k : Chg T a b) (hs : ∀ i, i < w.heap.size → T i → S i) : Chg S w b :=
  ⟨k.os.trans h.os, k.tape.trans h.tape, k.output.trans h.output, Nat.le_trans h.size k.size, fun i hi hn => (k.block i (Nat.lt_of_lt_of_le hi h.size) (fun ht => hn (hs i hi ht))).trans (h.block i hi hn)⟩
theorem Chg.of_below (S : Nat → Prop) (h : Below w.heap.size w a) : Chg S w a := ⟨h.os, h.tape, h.output, h.size, fun k hk _ => h.block k hk⟩
theorem Chg.belowAt {B : Nat} (h : Chg S w a) (hB : B ≤ w.heap.size) (hs : ∀ k, S k → B ≤ k) : Below B w a := ⟨h.os, h.tape, h.output, h.size, fun k hk => h.block k (by omega) (fun h2 => by have := hs k h2; omega)⟩
theorem Chg.mono (h : Chg S w a) (hs : ∀ k, S k → T k) : Chg T w a := ⟨h.os, h.tape, h.output, h.size, fun k hk hn => h.block k hk fun h2 => hn (hs k h2)⟩
theorem Chg.then (h : Chg S w a) (k : Below a.heap.size a b) : Chg S w b := h.trans (Chg.of_below S k) fun _ _ h => h
theorem Chg.drew (h : Chg S w a) : Chg S w a.drew := ⟨h.os, h.tape, h.output, h.size, h.block⟩
theorem Chg.alloc (h : Chg S w a) (o : Obj) : Chg S w (a.alloc o) := h.then ((Below.refl _ _).alloc (Nat.le_refl _) o)
theorem Chg.setCell (h : Chg S w a) {p : Addr} (hp : p.block < w.heap.size → S p.block) (u : Value) : Chg S w (a.setCell p u) :=
  ⟨h.os, h.tape, h.output, by simpa using h.size, fun k hk hn => (Below.heap_setCell a p u k (fun e => hn (e ▸ hp (e ▸ hk)))).trans (h.block k hk hn)⟩
theorem Chg.grown {row : Option Nat} (h : Chg S w a) (k : a.grownBy b row) (hr : ∀ i, row = some i → i < w.heap.size → S i) : Chg S w b :=
  ⟨k.os.trans h.os, k.tape.trans h.tape, k.output.trans h.output, Nat.le_trans h.size k.size, fun i hi hn => (k.block i (Nat.lt_of_lt_of_le hi h.size) (fun e => hn (hr i e.symm hi))).trans (h.block i hi hn)⟩
theorem Chg.at (h : Chg S w a) {g : Nat} {o : Obj} (hg : w.heap[g]? = some o) (hn : ¬ S g) : a.heap[g]? = some o := (h.block g (Array.getElem?_eq_some_iff.1 hg).1 hn).trans hg
end

/-! ### append of one element -/

theorem run_append1 (w : World) (ty Ts T : TypeId) (k bytes : Nat) (z : Value) (hu : Tryz.prog.underlying Ts = some (.slice T)) (hinfo : (Tryz.prog.info? T).map (fun i => (i.zero, i.size, i.bytes)) = some (some z, k, bytes)) (hz : z.cells.size = k) (hk : 0 < k) (hby : bytes ≤ 100)
    (base : Nat) (v : Value) (n : Nat) (xs : List Value) (hown : w.ownsRow base T k v n xs) (g : Nat) (news : List Value) (hl : news.length = k) (hc : ∀ j u, news[j]? = some u → w.cell? ⟨g, j, none⟩ = some u) (h1 : ∀ u ∈ news, u.oneCell' = true) (h63 : n ≤ 10000000) (hbase : base ≤ w.heap.size) :
    ∃ v' w', (Builtin.append_ #[Ts, Ts] ty #[v, .slice (some ⟨g, 0, none⟩) 1 1]).run Tryz.prog w = .ok v' w' ∧ w'.ownsRow base T k v' (n + 1) (xs ++ news) ∧ w.grownBy w' v.ownBlock ∧ ∀ b, v'.ownBlock = some b → v.ownBlock = some b ∨ b = w.heap.size := by
  obtain ⟨i0, hi, hz0, hz1, hz2⟩ := info_parts hinfo
  obtain ⟨v', w', h1, h2, h3, _, h5⟩ := run_append_own_at (P := Tryz.prog) w base Ts ty T i0 z k bytes hu hi hz0 hz1 hz2 hz hk v n xs hown ⟨g, 0, none⟩ 1 1 news (by omega) (fun j u hj => by
    have hadd : (⟨g, 0, none⟩ : Addr).add j = ⟨g, j, none⟩ := by unfold Addr.add; split <;> simp_all
    rw [hadd]; exact hc j u hj) h1 (by unfold maxLen; omega) (by
      have : (n + 1) * bytes ≤ (n + 1) * 100 := Nat.mul_le_mul_left _ hby
      omega) hbase
  refine ⟨v', w', h1, h2, h3, fun b hb => ?_⟩
  rcases h5 with h5 | h5
  · exact .inl (h5 ▸ hb)
  · rw [h5] at hb; injection hb with hb; exact .inr hb.symm
section
variable {ops : Array Oper} {rest : List Oper} {o : Oper} {a : Act} {w : World} {Q : Exit → Act → World → Prop}
theorem wpList_append1 (hgd : o.guard = none) (s x : Operand) (Ts T : TypeId) (ho : o.op = .call { callee := .builtin .append, args := #[s, x], argTypes := #[Ts, Ts] }) (k bytes : Nat) (z : Value) (hu : Tryz.prog.underlying Ts = some (.slice T)) (hinfo : (Tryz.prog.info? T).map (fun i => (i.zero, i.size, i.bytes)) = some (some z, k, bytes)) (hz : z.cells.size = k) (hk : 0 < k) (hby : bytes ≤ 100)
    (base : Nat) (v : Value) (n : Nat) (xs : List Value) (hs : a.eval s = v) (hown : w.ownsRow base T k v n xs) (g : Nat) (hx : a.eval x = .slice (some ⟨g, 0, none⟩) 1 1) (news : List Value) (hl : news.length = k) (hc : ∀ j u, news[j]? = some u → w.cell? ⟨g, j, none⟩ = some u) (h1 : ∀ u ∈ news, u.oneCell' = true) (h63 : n ≤ 10000000) (hbase : base ≤ w.heap.size)
    (h : ∀ v' w', w'.ownsRow base T k v' (n + 1) (xs ++ news) → w.grownBy w' v.ownBlock → (∀ b, v'.ownBlock = some b → v.ownBlock = some b ∨ b = w.heap.size) → wpList Tryz.prog ops Q rest (a.put o.dst v') w') : wpList Tryz.prog ops Q (o :: rest) a w :=
  wpList_plain hgd fun _ hK => by
    obtain ⟨v', w', hr, h2, h3, h4⟩ := run_append1 w o.type Ts T k bytes z hu hinfo hz hk hby base v n xs hown g news hl hc h1 h63 hbase
    unfold Oper.wp execOp
    simp only [ho, resolve, invoke, builtin, Sem.run_bind, Sem.run_pure, Result.andThen_ok, List.map_toArray, List.map_cons, List.map_nil, hs, hx, hr]
    exact hK _ _ (h v' w' h2 h3 h4)
theorem step_append1 {K : Act → World → Prop} {E : Prop} (hgd : o.guard = none) (s x : Operand) (Ts T : TypeId) (ho : o.op = .call { callee := .builtin .append, args := #[s, x], argTypes := #[Ts, Ts] }) (k bytes : Nat) (z : Value) (hu : Tryz.prog.underlying Ts = some (.slice T)) (hinfo : (Tryz.prog.info? T).map (fun i => (i.zero, i.size, i.bytes)) = some (some z, k, bytes)) (hz : z.cells.size = k) (hk : 0 < k) (hby : bytes ≤ 100)
    (base : Nat) (v : Value) (n : Nat) (xs : List Value) (hs : a.eval s = v) (hown : w.ownsRow base T k v n xs) (g : Nat) (hx : a.eval x = .slice (some ⟨g, 0, none⟩) 1 1) (news : List Value) (hl : news.length = k) (hc : ∀ j u, news[j]? = some u → w.cell? ⟨g, j, none⟩ = some u) (h1 : ∀ u ∈ news, u.oneCell' = true) (h63 : n ≤ 10000000) (hbase : base ≤ w.heap.size)
    (h : ∀ v' w', w'.ownsRow base T k v' (n + 1) (xs ++ news) → w.grownBy w' v.ownBlock → (∀ b, v'.ownBlock = some b → v.ownBlock = some b ∨ b = w.heap.size) → K (a.put o.dst v') w') :
    if Region.wanted o (yielded ops a.tmps) = true then Oper.wp Tryz.prog o a w K Q else E := by
  have hw : Region.wanted o (yielded ops a.tmps) = true := by simp [Region.wanted, hgd]
  rw [if_pos hw]
  obtain ⟨v', w', hr, h2, h3, h4⟩ := run_append1 w o.type Ts T k bytes z hu hinfo hz hk hby base v n xs hown g news hl hc h1 h63 hbase
  unfold Oper.wp execOp
  simp only [ho, resolve, invoke, builtin, Sem.run_bind, Sem.run_pure, Result.andThen_ok, List.map_toArray, List.map_cons, List.map_nil, hs, hx, hr]
  exact h v' w' h2 h3 h4
end
theorem own_kept {w w' : World} {base : Nat} {T : TypeId} {k : Nat} {v : Value} {n : Nat} {xs : List Value} (h : w.ownsRow base T k v n xs) (hk : ∀ g, v.ownBlock = some g → w'.heap[g]? = w.heap[g]?) : w'.ownsRow base T k v n xs := by
  refine ⟨h.1, ?_⟩
  rcases h.2 with h2 | ⟨g, cap, cur, hv, hg, hh, r⟩
  · exact .inl h2
  · exact .inr ⟨g, cap, cur, hv, hg, by rw [hk g (by rw [hv]; rfl)]; exact hh, r⟩
theorem own_below {w w' : World} {base : Nat} {T : TypeId} {k : Nat} {v : Value} {n : Nat} {xs : List Value} (h : w.ownsRow base T k v n xs) (hb : Below w.heap.size w w') : w'.ownsRow base T k v n xs := own_kept h fun g hg => hb.block g ((World.ownsRow.lt h g hg).2)
theorem own_form {w : World} {base : Nat} {T : TypeId} {k : Nat} {v : Value} {n : Nat} {xs : List Value} (h : w.ownsRow base T k v n xs) : ∃ A c, v = .slice A n c := by
  rcases h.2 with ⟨h1, h2⟩ | ⟨g, cap, _, h1, _⟩
  · exact ⟨none, 0, by rw [h1, h2]⟩
  · exact ⟨_, _, h1⟩
theorem own_form3 {w : World} {base : Nat} {T : TypeId} {k : Nat} {v : Value} {n : Nat} {xs : List Value} (h : w.ownsRow base T k v n xs) : ∃ A m c, v = .slice A m c := by
  obtain ⟨A, c, e⟩ := own_form h
  exact ⟨A, n, c, e⟩
/-- The block of a row has the row's type. -/
theorem own_type {w : World} {base : Nat} {T : TypeId} {k : Nat} {v : Value} {n : Nat} {xs : List Value} (h : w.ownsRow base T k v n xs) {g : Nat} (hg : v.ownBlock = some g) : ∃ cur, w.heap[g]? = some (.cells cur T (0, 0)) := by
  rcases h.2 with ⟨h1, h2⟩ | ⟨g', cap, cur, h1, _, hh, _⟩
  · rw [h1] at hg; cases hg
  · rw [h1] at hg; injection hg with hg; simp only at hg; subst hg; exact ⟨cur, hh⟩

/-! ### Rows of bytes -/

def bcs (l : Bs) : List Value := l.map fun b => Value.int .u8 (b.toNat : Int)
def OwnB (w : World) (base : Nat) (v : Value) (l : Bs) : Prop := w.ownsRow base 5 1 v l.length (bcs l)
theorem infoU8 : (Tryz.prog.info? 5).map (fun i => (i.zero, i.size, i.bytes)) = some (some (.int .u8 0), 1, 1) := by kernel_rfl
theorem bcs_app (l m : Bs) : bcs (l ++ m) = bcs l ++ bcs m := by simp [bcs]
theorem strCells_bcs (l : Bs) : strCells (⟨l.toArray⟩ : ByteArray) = bcs l := by simp [strCells, bcs]
theorem OwnB.nil (w : World) (base : Nat) : OwnB w base (.slice none 0 0) [] := World.ownsRow_nil _ _ _ _
theorem OwnB.conv {w : World} {base : Nat} {v : Value} {l : Bs} (h : OwnB w base v l) : (convert 56 9 v).run Tryz.prog w = .ok (.string ⟨l.toArray⟩) w := by
  rcases h.2 with ⟨h1, h2⟩ | ⟨g, cap, cur, e, h1, hb, h2, h3, h4, h5⟩
  · obtain rfl := List.eq_nil_of_length_eq_zero h2
    rw [h1, run_convert_bytes_string w 56 9 5 none 0 0 Tryz.underlying56 Tryz.underlying5 Tryz.underlying9]
    rfl
  · rw [e]
    refine run_convert_bytes_back (P := Tryz.prog) w 56 9 5 ⟨g, 0, none⟩ cap l Tryz.underlying56 Tryz.underlying5 Tryz.underlying9 fun j hj => ?_
    refine World.ownsRow.cells h (g := g) (by rw [e]; rfl) j _ ?_
    simp [bcs, hj]
theorem run_append_str (w : World) (ty : TypeId) (base : Nat) (v : Value) (l : Bs) (hown : OwnB w base v l) (m : Bs) (h63 : l.length + m.length ≤ 100000000) (hbase : base ≤ w.heap.size) :
    ∃ v' w', (Builtin.append_ #[56, 9] ty #[v, .string ⟨m.toArray⟩]).run Tryz.prog w = .ok v' w' ∧ OwnB w' base v' (l ++ m) ∧ w.grownBy w' v.ownBlock := by
  obtain ⟨i0, hi, hz0, hz1, hz2⟩ := info_parts infoU8
  have hs : (⟨m.toArray⟩ : ByteArray).size = m.length := by simp [ByteArray.size]
  obtain ⟨v', w', h1, h2, h3, _⟩ := run_append_own_string (P := Tryz.prog) w base 56 9 ty 5 i0 Tryz.underlying56 Tryz.underlying9 hi hz0 hz1 hz2 v l.length (bcs l) hown ⟨m.toArray⟩ (by unfold maxLen; omega) (by omega) hbase
  refine ⟨v', w', h1, ?_, h3⟩
  unfold OwnB
  rw [bcs_app, List.length_append]
  rw [hs, strCells_bcs] at h2
  exact h2
theorem wpList_append_str {ops : Array Oper} {rest : List Oper} {o : Oper} {a : Act} {w : World} {Q : Exit → Act → World → Prop} (hgd : o.guard = none) (s x : Operand) (ho : o.op = .call { callee := .builtin .append, args := #[s, x], argTypes := #[56, 9] }) (base : Nat) (v : Value) (l : Bs) (hs : a.eval s = v) (hown : OwnB w base v l)
    (m : Bs) (hx : a.eval x = .string ⟨m.toArray⟩) (h63 : l.length + m.length ≤ 100000000) (hbase : base ≤ w.heap.size)
    (h : ∀ v' w', OwnB w' base v' (l ++ m) → w.grownBy w' v.ownBlock → wpList Tryz.prog ops Q rest (a.put o.dst v') w') : wpList Tryz.prog ops Q (o :: rest) a w :=
  wpList_plain hgd fun _ hK => by
    obtain ⟨v', w', hr, h2, h3⟩ := run_append_str w o.type base v l hown m h63 hbase
    unfold Oper.wp execOp
    simp only [ho, resolve, invoke, builtin, Sem.run_bind, Sem.run_pure, Result.andThen_ok, List.map_toArray, List.map_cons, List.map_nil, hs, hx, hr]
    exact hK _ _ (h v' w' h2 h3)

/-! ### Rows of strings -/

def sv (x : Bs) : Value := .string ⟨x.toArray⟩
/-- The words ws, in the slice v. -/
def WS (w : World) (v : Value) (ws : List Bs) : Prop := ∃ g c, v = .slice (some ⟨g, 0, none⟩) ws.length c ∧ ws.length ≤ c ∧ g < w.heap.size ∧ ∀ j x, ws[j]? = some x → w.cell? ⟨g, j, none⟩ = some (sv x)
theorem ws_lit (w : World) (ws : List Bs) : WS (w.alloc (.cells (ws.map sv).toArray 9)) (.slice (some ⟨w.heap.size, 0, none⟩) ws.length ws.length) ws :=
  ⟨_, _, rfl, Nat.le_refl _, by rw [World.size_alloc]; omega, fun j x hx => by rw [cell_of_row _ _ j _ _ _ (heap_alloc_new _ _)]; simp [hx]⟩
theorem infoStr : (Tryz.prog.info? 9).map (fun i => (i.zero, i.size, i.bytes)) = some (some (.string ⟨#[]⟩), 1, 16) := by kernel_rfl
def OwnS (w : World) (base : Nat) (v : Value) (ws : List Bs) : Prop := w.ownsRow base 9 1 v ws.length (ws.map sv)
theorem OwnS.ws {w : World} {base : Nat} {v : Value} {ws : List Bs} (h : OwnS w base v ws) (hn : ws ≠ []) : WS w v ws := by
  rcases h.2 with ⟨h1, h2⟩ | ⟨g, cap, cur, e, h1, hb, h2, h3, h4, h5⟩
  · exact absurd (List.eq_nil_of_length_eq_zero h2) hn
  · refine ⟨g, cap, e, h2, (Array.getElem?_eq_some_iff.1 hb).1, fun j x hx => ?_⟩
    have := World.ownsRow.cells h (g := g) (by rw [e]; rfl) j (sv x) (by simp [hx])
    have hadd : (⟨g, 0, none⟩ : Addr).add j = ⟨g, j, none⟩ := by unfold Addr.add; split <;> simp_all
    rwa [hadd] at this
theorem OwnS.lit (w : World) (ws : List Bs) (hl : ws.length ≤ 1000) : OwnS (w.alloc (.cells (ws.map sv).toArray 9)) w.heap.size (.slice (some ⟨w.heap.size, 0, none⟩) ws.length ws.length) ws := by
  have := World.ownsRow_lit (size := 1) w (ws.map sv).toArray (e := 9) ws.length (Nat.le_refl w.heap.size) (by unfold maxLen; omega) (by simp)
  unfold OwnS
  simpa using this
theorem join_any (v : Value) (ws : List Bs) (w : World) (h : WS w v ws) (hl : ws.length ≤ 1000) (hj : (join ws [32]).length ≤ 1000000) :
    Calls Tryz.prog 55 #[v, .string ⟨#[32]⟩] w fun e w' => e = .returned (.string ⟨(join ws [32]).toArray⟩) ∧ Below w.heap.size w w' := by
  obtain ⟨g, c, rfl, hcap, hg, hcell⟩ := h
  have key := Tryz.strings_Join g 0 c (ws.map (fun l => (⟨l.toArray⟩ : ByteArray))) ⟨#[32]⟩ w (fun j x hx => by
    rw [List.getElem?_map] at hx
    obtain ⟨y, hy, rfl⟩ := Option.map_eq_some_iff.1 hx
    rw [Nat.zero_add]; exact hcell j y hy) hg (by simp; omega) (by simpa using hcap)
  have e1 : (ws.map (fun l => (⟨l.toArray⟩ : ByteArray))).map (·.data.toList) = ws := by
    rw [List.map_map]; exact List.map_id'' (fun _ => rfl) ws
  rw [e1, List.length_map] at key
  exact key (Nat.le_trans hj (by decide))

/-- All blocks that hold no bytes are as they were. -/
def Kb (w w' : World) : Prop := ∀ (g : Nat) (cs : Array Value) (T : TypeId) (fz : Nat × Nat), w.heap[g]? = some (Obj.cells cs T fz) → T ≠ 5 → w'.heap[g]? = some (Obj.cells cs T fz)
theorem Kb.refl (w : World) : Kb w w := fun _ _ _ _ h _ => h
theorem Kb.trans {a b c : World} (h : Kb a b) (k : Kb b c) : Kb a c := fun g cs T fz e ht => k g cs T fz (h g cs T fz e ht) ht
theorem Kb.of_below {a b : World} (h : Below a.heap.size a b) : Kb a b := fun g cs T fz e _ => (h.block g (Array.getElem?_eq_some_iff.1 e).1).trans e
theorem Kb.then {a b c : World} (h : Kb a b) (k : Below b.heap.size b c) : Kb a c := h.trans (Kb.of_below k)
theorem Kb.alloc {a b : World} (h : Kb a b) (o : Obj) : Kb a (b.alloc o) := h.then ((Below.refl _ _).alloc (Nat.le_refl _) o)
theorem Kb.grown {w w' : World} {B : Nat} {v : Value} {n : Nat} {xs : List Value} (hO : w.ownsRow B 5 1 v n xs) (hg : w.grownBy w' v.ownBlock) : Kb w w' := fun g cs T fz e ht => by
  rw [hg.block g (Array.getElem?_eq_some_iff.1 e).1 (fun e2 => by
    obtain ⟨cur, hc⟩ := own_type hO e2.symm
    rw [hc] at e; injection e with e; injection e with _ e; exact ht e.symm)]
  exact e
theorem le_alloc {B : Nat} {w : World} {o : Obj} (h : B ≤ w.heap.size) : B ≤ (w.alloc o).heap.size := by rw [World.size_alloc]; omega
theorem one_new (w : World) (T : TypeId) (x : Value) : ∀ j u, ([x] : List Value)[j]? = some u → (w.alloc (.cells #[x] T)).cell? ⟨w.heap.size, j, none⟩ = some u := fun j u hj => by
  rw [cell_of_row _ _ j _ _ _ (heap_alloc_new _ _)]; simpa using hj
theorem one_u8 : ∀ u ∈ ([.int .u8 10] : List Value), u.oneCell' = true := by simp [Value.oneCell']
set_option maxHeartbeats 1000000 in
theorem appendLine_any (B : Nat) (v : Value) (l : Bs) (u : Value) (ws : List Bs) (m : Bs) (w : World) (hO : OwnB w B v l) (hB : B ≤ w.heap.size) (h : WS w u ws) (hm : join ws [32] = m) (hl : ws.length ≤ 1000) (hml : m.length ≤ 100000) (hll : l.length ≤ 9000000) :
    Calls Tryz.prog 31 #[v, u] w fun e w' => ∃ v', e = .returned v' ∧ OwnB w' B v' (l ++ m ++ [10]) ∧ Below B w w' ∧ Kb w w' := by
  subst hm
  have hO' := Lib.hid hO
  have HJ := Lib.hid (join_any u ws w h hl (by omega))
  obtain ⟨vA, vn, vc, rfl⟩ := own_form3 hO
  obtain ⟨g, c, rfl, _, _, _⟩ := h
  have h63 := Lib.hid (show l.length + (join ws [32]).length ≤ 100000000 from by omega)
  have h64 := Lib.hid (show (l ++ join ws [32]).length ≤ 10000000 from by rw [List.length_append]; omega)
  generalize join ws [32] = m at *
  clear hO hml
  go_enter Tryz.func31, Tryz.ntmps31
  go_wp2_with fail
  refine HJ.out.mono ?_
  rintro r w1 ⟨rfl, b1⟩
  have O1 := Lib.hid (own_below hO'.out b1)
  have hB1 : B ≤ w1.heap.size := Nat.le_trans hB b1.size
  have b1' := Lib.hid (b1.mono hB)
  have k1 := Lib.hid (Kb.of_below b1)
  clear b1
  go_wp2_with (at_builtin; first
    | (refine wpList_append_str rfl _ _ rfl B (.slice vA vn vc) l rfl O1.out m rfl h63.out hB1 ?_; intro v2 w2 hO2 hg2; obtain ⟨A2, n2, cap2, rfl⟩ := own_form3 hO2; have O2a := Lib.hid hO2; have b2 := Lib.hid (b1'.out.grown hg2 hB1 (fun k hk => (World.ownsRow.lt O1.out k hk).1)); have k2 := Lib.hid (k1.out.trans (Kb.grown O1.out hg2)); have hB2 : B ≤ w2.heap.size := Nat.le_trans hB1 hg2.size; have hnew' := Lib.hid (one_new w2 5 (.int .u8 10)); have O2 := Lib.hid (World.ownsRow.alloc O2a.out (.cells #[.int .u8 10] 5)); have hsz := le_alloc (o := .cells #[.int .u8 10] 5) hB2; clear hO2 hg2)
    | (refine wpList_append1 rfl _ _ 56 5 rfl 1 1 _ Tryz.underlying56 infoU8 rfl (by decide) (by decide) B (.slice A2 n2 cap2) _ _ rfl O2.out w2.heap.size rfl [.int .u8 10] rfl hnew'.out one_u8 h64.out hsz ?_; intro v3 w3 hO3 hg3 _; obtain ⟨A3, n3, cap3, rfl⟩ := own_form3 hO3; have b3 := Lib.hid ((b2.out.alloc hB2 _).grown hg3 hsz (fun k hk => (World.ownsRow.lt O2.out k hk).1)); have k3 := Lib.hid ((k2.out.alloc _).trans (Kb.grown O2.out hg3)); have O3 := Lib.hid hO3; clear hO3 hg3))
  go_wp2
  go_ret
  refine ⟨_, rfl, ?_, b3.out, k3.out⟩
  have O3' := O3.out
  unfold OwnB
  rw [bcs_app, List.length_append]
  exact O3'

theorem join2 (a b : Bs) : join [a, b] [32] = a ++ [32] ++ b := by simp [join, List.intercalate]
theorem join4 (a b c d : Bs) : join [a, b, c, d] [32] = a ++ [32] ++ b ++ [32] ++ c ++ [32] ++ d := by simp [join, List.intercalate]
theorem join_snoc : ∀ (ws : List Bs) (x : Bs), ws ≠ [] → join (ws ++ [x]) [32] = join ws [32] ++ [32] ++ x
  | [], _, h => absurd rfl h
  | [a], x, _ => by simp [join, List.intercalate]
  | a :: b :: r, x, _ => by
    have ih := join_snoc (b :: r) x (by simp)
    have e : ∀ (y : Bs) (z : Bs) (l : List Bs), join (y :: z :: l) [32] = y ++ [32] ++ join (z :: l) [32] := fun y z l => by simp [join, List.intercalate]
    rw [List.cons_append, List.cons_append, e, e]
    rw [List.cons_append] at ih
    rw [ih]; simp
/-- The words of a plan. -/
def wordsP (p : Plan) : List Bs := [wdPlan, p.code, dig p.urg] ++ p.kinds.map kindName
theorem join_kinds : ∀ (l : List Int) (ws : List Bs), ws ≠ [] → join (ws ++ l.map kindName) [32] = join ws [32] ++ tKinds l
  | [], ws, _ => by simp [tKinds]
  | k :: l, ws, h => by
    have := join_kinds l (ws ++ [kindName k]) (by simp)
    rw [List.map_cons, show ws ++ kindName k :: l.map kindName = ws ++ [kindName k] ++ l.map kindName from by simp, this, join_snoc ws _ h]
    simp [tKinds]
theorem join_plan (p : Plan) : join (wordsP p) [32] ++ [10] = lPlan p := by
  unfold wordsP
  rw [join_kinds _ _ (by simp)]
  simp [join, List.intercalate, lPlan, wPlan, wdPlan]
end Go.Proofs.YtjklpikopgihgaaGreatDoor
