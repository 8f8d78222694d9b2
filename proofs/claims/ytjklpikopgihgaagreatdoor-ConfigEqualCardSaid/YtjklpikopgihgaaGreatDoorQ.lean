/- Plain mathematics of layer 6: Parse takes back the text of a right configuration. -/
import Derived.Test.YtjklpikopgihgaaGreatDoorP
set_option linter.unusedVariables false
set_option linter.unusedSimpArgs false
namespace Cf
open Go Go.Lib

/-- A number that a text may hold. -/
def N18 (z : Int) : Prop := 0 ≤ z ∧ z < 1000000000000000000
theorem numGood_dig {z : Int} (h : N18 z) : numGood (dig z) = true ∧ num (dig z) = z := by
  obtain ⟨n, rfl⟩ : ∃ n : Nat, z = (n : Int) := ⟨z.toNat, by have := h.1; omega⟩
  have hn : n < 1000000000000000000 := by have := h.2; omega
  have e : num (dig (n : Int)) = (n : Int) := by unfold dig; rw [Int.toNat_natCast, num_dd n (by omega)]
  have hl : (dig (n : Int)).length ≤ 18 := by unfold dig; rw [Int.toNat_natCast]; exact dd_len 17 n (by omega)
  refine ⟨?_, e⟩
  unfold numGood
  rw [e]
  simp [hl]
theorem dig_no (z : Int) (c : UInt8) (h : c.toNat < 48 ∨ 57 < c.toNat) : c ∉ dig z := by
  unfold dig; intro hc; have := dd_bytes _ c hc; omega
theorem dig_32 (z : Int) : (32 : UInt8) ∉ dig z := dig_no z 32 (by decide)
theorem dig_10 (z : Int) : (10 : UInt8) ∉ dig z := dig_no z 10 (by decide)
theorem code_no {s : Bs} (h : codeOk s = true) (c : UInt8) (hc : c.toNat < 33) : c ∉ s := by
  unfold codeOk at h
  simp only [Bool.and_eq_true, List.all_eq_true] at h
  intro hm
  have := h.1 c hm
  unfold byteOk at this
  simp at this
  omega
theorem mNum_dig {z : Int} (h : N18 z) (r : List Bs) (b : Bool) : mNum (dig z :: r, b) = (z, (r, b)) := by
  obtain ⟨h1, h2⟩ := numGood_dig h
  unfold mNum mNumOf
  simp [hd, tl, h1, h2]
theorem never_digits (z : Int) : dig z ≠ never := by
  intro e
  have h : (110 : UInt8) ∈ dig z := by rw [e]; decide
  exact dig_no z 110 (by decide) h
theorem mTime_time {z : Int} (h : N18 z ∨ z = 4611686018427387904) (r : List Bs) (b : Bool) : mTime (time z :: r, b) = (z, (r, b)) := by
  unfold mTime time
  by_cases e : z = 4611686018427387904
  · simp [e, hd, tl]
  · have hz : N18 z := by rcases h with h | h; exact h; exact absurd h e
    obtain ⟨h1, h2⟩ := numGood_dig hz
    rw [if_neg e]
    have hn := never_digits z
    simp [hd, tl, hn, mNumOf, h1, h2]
theorem kindOf_name {k : Int} (h : kndOk k = true) : kindOf (kindName k) = k := by
  unfold kndOk inR at h
  simp at h
  obtain rfl | rfl | rfl | rfl : k = 1 ∨ k = 2 ∨ k = 3 ∨ k = 4 := by omega
  all_goals decide
theorem kind_ne0 {k : Int} (h : kndOk k = true) : k ≠ 0 := by
  unfold kndOk inR at h
  simp at h
  omega
theorem kind_no (k : Int) (c : UInt8) (h : c.toNat < 33) : c ∉ kindName k := by
  have hb : ∀ b ∈ kindName k, 97 ≤ b.toNat := by
    unfold kindName
    repeat' split
    all_goals decide
  intro hc
  have := hb c hc
  omega
theorem time_no (z : Int) (c : UInt8) (h : c.toNat < 48) : c ∉ time z := by
  unfold time
  split
  · unfold never
    simp only [List.mem_cons, List.not_mem_nil, or_false, not_or]
    refine ⟨?_, ?_, ?_, ?_, ?_⟩ <;> (intro e; subst e; revert h; decide)
  · exact dig_no z c (.inl h)

/-! ### Lines -/

theorem lines_step {c c' : Cfg} {n : Nat} {last p : Int} {L R : Bs} (h10 : (10 : UInt8) ∉ L) (hm : mLine c L = (c', p)) (hf : mayF p last = true) : mLines c n last (L ++ 10 :: R) = mLines c' (n + 1) p R := by
  have hc := cut_at 10 L R h10
  have hne : L ++ 10 :: R ≠ [] := by simp
  rw [mLines_step hne (by rw [hc]) (by rw [hc]; simp only; rw [hm]; exact hf), hc]
  simp only
  rw [hm]
/-- A line that a section may hold: what it adds, at its place. -/
def LineOf (f : Bs) (add : Cfg → Cfg) (p : Int) : Prop := ∃ L, f = L ++ [10] ∧ (10 : UInt8) ∉ L ∧ ∀ c, mLine c L = (add c, p)
theorem sec {α : Type} (f : α → Bs) (p : Int) (hp1 : 1 < p) (hp6 : p < 6) (add : α → Cfg → Cfg) : ∀ (l : List α), (∀ x ∈ l, LineOf (f x) (add x) p) → ∀ (c : Cfg) (n : Nat) (last : Int) (R : Bs), 1 ≤ last → last ≤ p →
    ∃ n' last', mLines c n last (l.flatMap f ++ R) = mLines (l.foldl (fun c x => add x c) c) n' last' R ∧ 1 ≤ last' ∧ last' ≤ p := by
  intro l
  induction l with
  | nil => intro _ c n last R h1 h2; exact ⟨n, last, by simp, h1, h2⟩
  | cons x l ih =>
    intro h c n last R h1 h2
    obtain ⟨L, e, h10, hm⟩ := h x (by simp)
    have hf : mayF p last = true := by
      unfold mayF
      rw [if_neg (by omega)]
      split
      · simp [hp1, hp6]
      · simp; omega
    have e2 : (x :: l).flatMap f ++ R = L ++ 10 :: (l.flatMap f ++ R) := by
      rw [List.flatMap_cons, e]; simp
    obtain ⟨n', last', h3, h4, h5⟩ := ih (fun y hy => h y (List.mem_cons_of_mem _ hy)) (add x c) (n + 1) p R (by omega) (by omega)
    exact ⟨n', last', by rw [e2, lines_step h10 (hm c) hf, h3]; rfl, h4, h5⟩

theorem sp2 {a b : Bs} (ha : (32 : UInt8) ∉ a) (hb : (32 : UInt8) ∉ b) : sp (a ++ 32 :: b) = [a, b] := by rw [sp_at a b ha, sp_none b hb]
theorem line_node {d : Int} (h : N18 d) : LineOf (lNode d) (fun c => { c with ds := c.ds ++ [d] }) 2 := by
  refine ⟨wdNode ++ 32 :: dig d, by simp [lNode, wNode, wdNode], by have := dig_10 d; simp [wdNode, this], fun c => ?_⟩
  unfold mLine
  rw [sp2 (by decide) (dig_32 d)]
  have hn := mNum_dig h [] false
  simp [mWords, hd, tl, hn, wdNode, wdCentres]
theorem line_edge {e : Int × Int × Int} (h1 : N18 e.1) (h2 : N18 e.2.1) (h3 : N18 e.2.2 ∨ e.2.2 = 4611686018427387904) : LineOf (lEdge e) (fun c => { c with es := c.es ++ [e] }) 3 := by
  have t32 := time_no e.2.2 32 (by decide)
  have t10 := time_no e.2.2 10 (by decide)
  have d1 := dig_10 e.1
  have d2 := dig_10 e.2.1
  refine ⟨wdEdge ++ 32 :: (dig e.1 ++ 32 :: (dig e.2.1 ++ 32 :: time e.2.2)), by simp [lEdge, wEdge, wdEdge], by simp [wdEdge, t10, d1, d2], fun c => ?_⟩
  unfold mLine
  rw [sp_at _ _ (by decide), sp_at _ _ (dig_32 _), sp_at _ _ (dig_32 _), sp_none _ t32]
  have n1 := mNum_dig h1 [dig e.2.1, time e.2.2] false
  have n2 := mNum_dig h2 [time e.2.2] false
  have n3 := mTime_time h3 [] false
  simp [mWords, hd, tl, n1, n2, n3, wdNode, wdCentres, wdEdge]
theorem mKind_name {k : Int} (h : kndOk k = true) (r : List Bs) (b : Bool) : mKind (kindName k :: r, b) = (k, (r, b)) := by
  unfold mKind
  simp [hd, tl, kindOf_name h, kind_ne0 h]
theorem line_unit {e : Int × Int × Int} (h1 : kndOk e.1 = true) (h2 : N18 e.2.1) (h3 : N18 e.2.2) : LineOf (lUnit e) (fun c => { c with us := c.us ++ [e] }) 4 := by
  have k32 := kind_no e.1 32 (by decide)
  have k10 := kind_no e.1 10 (by decide)
  have d1 := dig_10 e.2.1
  have d2 := dig_10 e.2.2
  refine ⟨wdUnit ++ 32 :: (kindName e.1 ++ 32 :: (dig e.2.1 ++ 32 :: dig e.2.2)), by simp [lUnit, wUnit, wdUnit], by simp [wdUnit, k10, d1, d2], fun c => ?_⟩
  unfold mLine
  rw [sp_at _ _ (by decide), sp_at _ _ k32, sp_at _ _ (dig_32 _), sp_none _ (dig_32 _)]
  have n1 := mKind_name h1 [dig e.2.1, dig e.2.2] false
  have n2 := mNum_dig h2 [dig e.2.2] false
  have n3 := mNum_dig h3 [] false
  simp [mWords, hd, tl, n1, n2, n3, wdNode, wdCentres, wdEdge, wdUnit]
theorem sp_kinds : ∀ (a : Bs) (l : List Int), (32 : UInt8) ∉ a → sp (a ++ tKinds l) = a :: l.map kindName
  | a, [], h => by simp [tKinds, sp_none a h]
  | a, k :: l, h => by
    have e : a ++ tKinds (k :: l) = a ++ 32 :: (kindName k ++ tKinds l) := by simp [tKinds]
    rw [e, sp_at _ _ h, sp_kinds (kindName k) l (kind_no k 32 (by decide))]
    rfl
theorem tKinds_10 (l : List Int) : (10 : UInt8) ∉ tKinds l := by
  unfold tKinds
  rw [List.mem_flatMap]
  rintro ⟨k, _, h⟩
  rcases List.mem_cons.1 h with h | h
  · revert h; decide
  · exact kind_no k 10 (by decide) h
theorem mKinds_names {l : List Int} (h : ∀ k ∈ l, kndOk k = true) (hne : l ≠ []) : mKinds (l.map kindName, false) = (l, ([], false)) := by
  have e : orOne (l.map kindName) = l.map kindName := by
    cases l with
    | nil => exact absurd rfl hne
    | cons k l => rfl
  have e2 : (l.map kindName).map kindOf = l := by
    rw [List.map_map]
    conv => rhs; rw [← List.map_id l]
    exact List.map_congr_left fun k hk => kindOf_name (h k hk)
  have e3 : (l.map kindName).any (fun x => decide (kindOf x = 0)) = false := by
    rw [List.any_map, List.any_eq_false]
    intro k hk
    simp only [Function.comp, kindOf_name (h k hk), decide_eq_true_eq]
    exact kind_ne0 (h k hk)
  unfold mKinds
  simp only [e, e2, e3, Bool.false_or]
theorem line_plan {p : Plan} (h1 : codeOk p.code = true) (h2 : N18 p.urg) (h3 : ∀ k ∈ p.kinds, kndOk k = true) (h4 : p.kinds ≠ []) : LineOf (lPlan p) (fun c => { c with ps := c.ps ++ [p] }) 5 := by
  have c32 := code_no h1 32 (by decide)
  have c10 := code_no h1 10 (by decide)
  have d1 := dig_10 p.urg
  have t10 := tKinds_10 p.kinds
  refine ⟨wdPlan ++ 32 :: (p.code ++ 32 :: (dig p.urg ++ tKinds p.kinds)), by simp [lPlan, wPlan, wdPlan], by simp [wdPlan, c10, d1, t10], fun c => ?_⟩
  unfold mLine
  rw [sp_at _ _ (by decide), sp_at _ _ c32, sp_kinds _ _ (dig_32 _)]
  have n1 : mCode (p.code :: dig p.urg :: p.kinds.map kindName, false) = (p.code, (dig p.urg :: p.kinds.map kindName, false)) := by unfold mCode; simp [hd, tl, h1]
  have n2 := mNum_dig h2 (p.kinds.map kindName) false
  have n3 := mKinds_names h3 h4
  simp [mWords, hd, tl, n1, n2, n3, wdNode, wdCentres, wdEdge, wdUnit, wdPlan]
theorem word_facts (i : Nat) (h : i < 10) : word i ≠ wdCentres ∧ word i ≠ wdNode ∧ word i ≠ wdEdge ∧ word i ≠ wdUnit ∧ word i ≠ wdPlan ∧ paramOf (word i) = i ∧ (32 : UInt8) ∉ word i ∧ (10 : UInt8) ∉ word i := by
  match i, h with
  | 0, _ | 1, _ | 2, _ | 3, _ | 4, _ | 5, _ | 6, _ | 7, _ | 8, _ | 9, _ => refine ⟨?_, ?_, ?_, ?_, ?_, ?_, ?_, ?_⟩ <;> decide
theorem line_param {i : Nat} (hi : i < 10) {z : Int} (h : N18 z) (c : Cfg) : mLine c (word i ++ 32 :: dig z) = (setN c i z, 6 + (i : Int)) := by
  obtain ⟨a1, a2, a3, a4, a5, a6, a7, a8⟩ := word_facts i hi
  unfold mLine
  rw [sp2 a7 (dig_32 z)]
  have hn := mNum_dig h [] false
  have hi' : paramOf (word i) < 10 := by rw [a6]; exact hi
  rw [a6] at hi'
  simp [mWords, hd, tl, a1, a2, a3, a4, a5, hi', a6, hn]
theorem setN_same (c : Cfg) (i : Nat) : setN c i (c.nums.getD i 0) = c := by
  unfold setN
  split <;> rfl
theorem num_step {i : Nat} (hi : i < 10) {z : Int} (hz : N18 z) (c : Cfg) (hc : c.nums.getD i 0 = dflt.nums.getD i 0) {last : Int} (h1 : 1 ≤ last) (h2 : last < 6 + (i : Int)) (R : Bs) (n : Nat) :
    ∃ n' last', mLines c n last (lNum i z ++ R) = mLines (setN c i z) n' last' R ∧ 1 ≤ last' ∧ last' < 6 + (i : Int) + 1 := by
  unfold lNum
  by_cases e : z = dflt.nums.getD i 0
  · rw [if_pos e]
    have : setN c i z = c := by rw [e, ← hc]; exact setN_same c i
    rw [this]
    exact ⟨n, last, rfl, h1, by omega⟩
  · rw [if_neg e]
    have hf : mayF (6 + (i : Int)) last = true := by
      unfold mayF
      rw [if_neg (by omega), if_neg (by omega)]
      simp; omega
    have e2 : word i ++ [32] ++ dig z ++ [10] ++ R = (word i ++ 32 :: dig z) ++ 10 :: R := by simp
    have h10 : (10 : UInt8) ∉ word i ++ 32 :: dig z := by
      have := (word_facts i hi).2.2.2.2.2.2.2
      have := dig_10 z
      simp [*]
    exact ⟨n + 1, 6 + (i : Int), by rw [e2, lines_step h10 (line_param hi hz c) hf], by omega, by omega⟩

theorem fold_ds (l : List Int) : ∀ c : Cfg, l.foldl (fun c d => { c with ds := c.ds ++ [d] }) c = { c with ds := c.ds ++ l } := by
  induction l with
  | nil => intro c; simp
  | cons d l ih => intro c; rw [List.foldl_cons, ih]; simp
theorem fold_es (l : List (Int × Int × Int)) : ∀ c : Cfg, l.foldl (fun c d => { c with es := c.es ++ [d] }) c = { c with es := c.es ++ l } := by
  induction l with
  | nil => intro c; simp
  | cons d l ih => intro c; rw [List.foldl_cons, ih]; simp
theorem fold_us (l : List (Int × Int × Int)) : ∀ c : Cfg, l.foldl (fun c d => { c with us := c.us ++ [d] }) c = { c with us := c.us ++ l } := by
  induction l with
  | nil => intro c; simp
  | cons d l ih => intro c; rw [List.foldl_cons, ih]; simp
theorem fold_ps (l : List Plan) : ∀ c : Cfg, l.foldl (fun c d => { c with ps := c.ps ++ [d] }) c = { c with ps := c.ps ++ l } := by
  induction l with
  | nil => intro c; simp
  | cons d l ih => intro c; rw [List.foldl_cons, ih]; simp

/-- What a text's configuration may hold. -/
structure Fit (c : Cfg) : Prop where
  ce : N18 c.ce
  ds : ∀ d ∈ c.ds, N18 d
  es : ∀ e ∈ c.es, N18 e.1 ∧ N18 e.2.1 ∧ (N18 e.2.2 ∨ e.2.2 = 4611686018427387904)
  us : ∀ e ∈ c.us, kndOk e.1 = true ∧ N18 e.2.1 ∧ N18 e.2.2
  ps : ∀ p ∈ c.ps, codeOk p.code = true ∧ N18 p.urg ∧ (∀ k ∈ p.kinds, kndOk k = true) ∧ p.kinds ≠ []
  nums : ∀ i, i < 10 → N18 (c.nums.getD i 0)
/-- c's lists and its first k parameters; the rest as usual. -/
def part (c : Cfg) (k : Nat) : Cfg := ⟨c.ce, c.ds, c.es, c.us, c.ps, if 0 < k then c.n0 else 2, if 1 < k then c.n1 else 10, if 2 < k then c.n2 else 12, if 3 < k then c.n3 else 20, if 4 < k then c.n4 else 30, if 5 < k then c.n5 else 4, if 6 < k then c.n6 else 10, if 7 < k then c.n7 else 50, if 8 < k then c.n8 else 1, if 9 < k then c.n9 else 8⟩
theorem part_step (c : Cfg) (k : Nat) (h : k < 10) : setN (part c k) k (c.nums.getD k 0) = part c (k + 1) ∧ (part c k).nums.getD k 0 = dflt.nums.getD k 0 := by
  match k, h with
  | 0, _ | 1, _ | 2, _ | 3, _ | 4, _ | 5, _ | 6, _ | 7, _ | 8, _ | 9, _ => exact ⟨rfl, rfl⟩
theorem nums_lines (c : Cfg) (h : ∀ i, i < 10 → N18 (c.nums.getD i 0)) : ∀ (m k : Nat), k + m = 10 → ∀ (n : Nat) (last : Int), 1 ≤ last → last < 6 + (k : Int) →
    ∃ n', mLines (part c k) n last ((List.range' k m).flatMap fun i => lNum i (c.nums.getD i 0)) = (part c 10, n', true) := by
  intro m
  induction m with
  | zero => intro k hk n last _ _; obtain rfl : k = 10 := by omega
            exact ⟨n, by rw [List.range'_zero, List.flatMap_nil, mLines_nil]⟩
  | succ m ih =>
    intro k hk n last h1 h2
    obtain ⟨e1, e2⟩ := part_step c k (by omega)
    obtain ⟨n1, p1, e3, h3, h4⟩ := num_step (i := k) (by omega) (h k (by omega)) (part c k) e2 h1 h2 ((List.range' (k + 1) m).flatMap fun i => lNum i (c.nums.getD i 0)) n
    obtain ⟨n', e4⟩ := ih (k + 1) (by omega) n1 p1 h3 (by omega)
    exact ⟨n', by rw [List.range'_succ, List.flatMap_cons, e3, e1, e4]⟩
set_option maxHeartbeats 2000000 in
theorem lines_text (c : Cfg) (h : Fit c) : ∃ n, mLines dflt 0 0 (text c) = (c, n, true) := by
  have e : text c = (wdCentres ++ 32 :: dig c.ce) ++ 10 :: (c.ds.flatMap lNode ++ (c.es.flatMap lEdge ++ (c.us.flatMap lUnit ++ (c.ps.flatMap lPlan ++ tNums c)))) := by
    unfold text lCentres
    simp [wCentres, wdCentres]
  have h10 : (10 : UInt8) ∉ wdCentres ++ 32 :: dig c.ce := by have := dig_10 c.ce; simp [wdCentres, this]
  have hm : mLine dflt (wdCentres ++ 32 :: dig c.ce) = ({ dflt with ce := c.ce }, 1) := by
    unfold mLine
    rw [sp2 (by decide) (dig_32 _)]
    have hn := mNum_dig h.ce [] false
    simp [mWords, hd, tl, hn, wdCentres]
  rw [e, lines_step h10 hm (by decide)]
  obtain ⟨n1, p1, e1, a1, b1⟩ := sec lNode 2 (by decide) (by decide) (fun d c => { c with ds := c.ds ++ [d] }) c.ds (fun d hd => line_node (h.ds d hd)) { dflt with ce := c.ce } (0 + 1) 1 (c.es.flatMap lEdge ++ (c.us.flatMap lUnit ++ (c.ps.flatMap lPlan ++ tNums c))) (by decide) (by decide)
  rw [e1, fold_ds]
  obtain ⟨n2, p2, e2, a2, b2⟩ := sec lEdge 3 (by decide) (by decide) (fun d c => { c with es := c.es ++ [d] }) c.es (fun d hd => line_edge (h.es d hd).1 (h.es d hd).2.1 (h.es d hd).2.2) { dflt with ce := c.ce, ds := dflt.ds ++ c.ds } n1 p1 (c.us.flatMap lUnit ++ (c.ps.flatMap lPlan ++ tNums c)) a1 (by omega)
  rw [e2, fold_es]
  obtain ⟨n3, p3, e3, a3, b3⟩ := sec lUnit 4 (by decide) (by decide) (fun d c => { c with us := c.us ++ [d] }) c.us (fun d hd => line_unit (h.us d hd).1 (h.us d hd).2.1 (h.us d hd).2.2) { dflt with ce := c.ce, ds := dflt.ds ++ c.ds, es := dflt.es ++ c.es } n2 p2 (c.ps.flatMap lPlan ++ tNums c) a2 (by omega)
  rw [e3, fold_us]
  obtain ⟨n4, p4, e4, a4, b4⟩ := sec lPlan 5 (by decide) (by decide) (fun d c => { c with ps := c.ps ++ [d] }) c.ps (fun d hd => line_plan (h.ps d hd).1 (h.ps d hd).2.1 (h.ps d hd).2.2.1 (h.ps d hd).2.2.2) { dflt with ce := c.ce, ds := dflt.ds ++ c.ds, es := dflt.es ++ c.es, us := dflt.us ++ c.us } n3 p3 (tNums c) a3 (by omega)
  rw [e4, fold_ps]
  have e0 : ({ dflt with ce := c.ce, ds := dflt.ds ++ c.ds, es := dflt.es ++ c.es, us := dflt.us ++ c.us, ps := dflt.ps ++ c.ps } : Cfg) = part c 0 := rfl
  obtain ⟨n', e5⟩ := nums_lines c h.nums 10 0 rfl n4 p4 a4 (by omega)
  rw [e0]
  unfold tNums
  rw [List.range_eq_range', e5]
  exact ⟨n', rfl⟩

/-! ### A right configuration fits -/

theorem right_parts {c : Cfg} (h : right c = 0) : (1 ≤ c.ce ∧ c.ce ≤ 9) ∧ (1 ≤ c.ds.length ∧ c.ds.length ≤ 4096) ∧ c.ds.all (fun d => inR d 0 (c.ce - 1)) = true ∧ (c.es.all (edgeOk c.ds.length) = true ∧ c.es.length ≤ 16384) ∧ (c.us.all (unitOk c.ce c.ds.length) = true ∧ c.us.length ≤ 256) ∧ plansOk [] c.ps = true ∧ numsOk c = true := by
  unfold right at h
  split at h
  · cases h
  · rename_i h1
    split at h
    · cases h
    · rename_i h2
      split at h
      · cases h
      · rename_i h3
        split at h
        · cases h
        · rename_i h4
          split at h
          · cases h
          · rename_i h5
            split at h
            · cases h
            · rename_i h6
              split at h
              · cases h
              · rename_i h7
                simp only [Bool.not_eq_false, Decidable.not_not, not_or, Nat.not_lt] at h1 h2 h3 h4 h5 h6 h7
                exact ⟨h1, h2, h3, h4, h5, h6, h7⟩
theorem plansOk_all : ∀ (l b : List Plan), plansOk b l = true → ∀ p ∈ l, planOk p = true
  | [], _, _, p, hp => by cases hp
  | q :: l, b, h, p, hp => by
    unfold plansOk at h
    simp only [Bool.and_eq_true] at h
    rcases List.mem_cons.1 hp with rfl | hp
    · exact h.1.1.2
    · exact plansOk_all l _ h.2 p hp
theorem plansOk_len : ∀ (l b : List Plan), plansOk b l = true → b.length ≤ 64 → b.length + l.length ≤ 64
  | [], b, h, hb => by simpa using hb
  | q :: l, b, h, hb => by
    unfold plansOk at h
    simp only [Bool.and_eq_true, decide_eq_true_eq] at h
    have := plansOk_len l (b ++ [q]) h.2 (by have := h.1.1.1; simp; omega)
    simp at this ⊢
    omega
theorem fit_of {c : Cfg} (h : right c = 0) : Fit c := by
  obtain ⟨h1, h2, h3, ⟨h4, _⟩, ⟨h5, _⟩, h6, h7⟩ := right_parts h
  rw [List.all_eq_true] at h3 h4 h5
  refine ⟨⟨by omega, by omega⟩, fun d hd => ?_, fun e he => ?_, fun e he => ?_, fun p hp => ?_, fun i hi => ?_⟩
  · have := h3 d hd; unfold inR at this; simp at this; exact ⟨by omega, by omega⟩
  · have := h4 e he; unfold edgeOk inR at this; simp at this
    refine ⟨⟨by omega, by omega⟩, ⟨by omega, by omega⟩, ?_⟩
    rcases this.2 with h | h
    · exact .inl ⟨by omega, by omega⟩
    · exact .inr h
  · have := h5 e he; unfold unitOk inR at this; simp at this
    exact ⟨this.1.1, ⟨by omega, by omega⟩, ⟨by omega, by omega⟩⟩
  · have := plansOk_all _ _ h6 p hp
    unfold planOk at this
    simp only [Bool.and_eq_true, List.all_eq_true, decide_eq_true_eq] at this
    obtain ⟨a, ⟨⟨b, u⟩, k1⟩, k2⟩ := this
    unfold inR at u
    simp at u
    refine ⟨b, ⟨by omega, by omega⟩, a, fun e => ?_⟩
    rw [e] at k1; simp at k1
  · have hn : ∀ j ∈ List.range 10, inR (c.nums.getD j 0) (bounds j).1 (bounds j).2 = true := by
      unfold numsOk at h7; rwa [List.all_eq_true] at h7
    have := hn i (by simpa using hi)
    have hb : 0 ≤ (bounds i).1 ∧ (bounds i).2 ≤ 1099511627776 := by
      unfold bounds
      repeat' split
      all_goals decide
    unfold inR at this
    simp only [Bool.and_eq_true, decide_eq_true_eq] at this
    exact ⟨by omega, by omega⟩
theorem parse_text {c : Cfg} (h : right c = 0) (hl : (text c).length ≤ 65536) : mParse (text c) = (c, 0, .ok) := by
  obtain ⟨n, e⟩ := lines_text c (fit_of h)
  unfold mParse
  rw [if_neg (by omega), e]
  simp only
  simp [h, hl]
end Cf
