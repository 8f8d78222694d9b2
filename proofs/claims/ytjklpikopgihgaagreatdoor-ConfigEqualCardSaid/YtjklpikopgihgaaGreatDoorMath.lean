/- Plain mathematics of layer 6: configurations, their problems and their texts. -/
import Derived.Lib.Hide
import Derived.Lib.ItoaNum
set_option linter.unusedVariables false
namespace Cf
open Go Go.Lib

abbrev Bs := List UInt8

structure Plan where
  code : List UInt8
  urg : Int
  kinds : List Int
deriving DecidableEq

/-- A configuration: centres, districts, edges (from, to, time), units (kind, home, node), plans, the ten parameters. -/
structure Cfg where
  ce : Int
  ds : List Int
  es : List (Int × Int × Int)
  us : List (Int × Int × Int)
  ps : List Plan
  n0 : Int
  n1 : Int
  n2 : Int
  n3 : Int
  n4 : Int
  n5 : Int
  n6 : Int
  n7 : Int
  n8 : Int
  n9 : Int
deriving DecidableEq

def Cfg.nums (c : Cfg) : List Int := [c.n0, c.n1, c.n2, c.n3, c.n4, c.n5, c.n6, c.n7, c.n8, c.n9]
def zeroC : Cfg := ⟨0, [], [], [], [], 0, 0, 0, 0, 0, 0, 0, 0, 0, 0⟩
def dflt : Cfg := ⟨0, [], [], [], [], 2, 10, 12, 20, 30, 4, 10, 50, 1, 8⟩
/-- c with another value of parameter i. -/
def setN (c : Cfg) (i : Nat) (n : Int) : Cfg :=
  match i with
  | 0 => { c with n0 := n } | 1 => { c with n1 := n } | 2 => { c with n2 := n } | 3 => { c with n3 := n } | 4 => { c with n4 := n }
  | 5 => { c with n5 := n } | 6 => { c with n6 := n } | 7 => { c with n7 := n } | 8 => { c with n8 := n } | 9 => { c with n9 := n }
  | _ => c

/-! ### Problems -/

def inR (n lo hi : Int) : Bool := decide (lo ≤ n) && decide (n ≤ hi)
def byteOk (b : UInt8) : Bool := decide (33 ≤ b.toNat) && decide (b.toNat ≤ 126)
def codeOk (s : Bs) : Bool := s.all byteOk && (decide (1 ≤ s.length) && decide (s.length ≤ 40))
def kndOk (k : Int) : Bool := inR k 1 4
def planOk (p : Plan) : Bool := p.kinds.all kndOk && (codeOk p.code && inR p.urg 1 5 && decide (1 ≤ p.kinds.length) && decide (p.kinds.length ≤ 8))
def edgeOk (n : Nat) (e : Int × Int × Int) : Bool := inR e.1 0 ((n : Int) - 1) && inR e.2.1 0 ((n : Int) - 1) && (inR e.2.2 1 1048576 || decide (e.2.2 = 4611686018427387904))
def unitOk (ce : Int) (n : Nat) (u : Int × Int × Int) : Bool := kndOk u.1 && inR u.2.1 0 (ce - 1) && inR u.2.2 0 ((n : Int) - 1)
/-- Two plans with the same code and urgency. -/
def twin (p q : Plan) : Bool := q.code == p.code && decide (q.urg = p.urg)
/-- Each plan, from the first on: few, right, and like none before. -/
def plansOk (before : List Plan) : List Plan → Bool
  | [] => true
  | p :: r => decide (before.length < 64) && planOk p && !(before.any (twin p)) && plansOk (before ++ [p]) r
def bounds (i : Nat) : Int × Int := if i = 6 ∨ i = 7 then (0, 1099511627776) else if i = 8 then (0, 256) else if i = 9 then (1, 4096) else (1, 1048576)
def numsOk (c : Cfg) : Bool := (List.range 10).all fun i => inR (c.nums.getD i 0) (bounds i).1 (bounds i).2
/-- The number of the first problem; 0 if there is none. -/
def right (c : Cfg) : Int :=
  if ¬ (1 ≤ c.ce ∧ c.ce ≤ 9) then 1
  else if ¬ (1 ≤ c.ds.length ∧ c.ds.length ≤ 4096) then 2
  else if c.ds.all (fun d => inR d 0 (c.ce - 1)) = false then 3
  else if c.es.all (edgeOk c.ds.length) = false ∨ 16384 < c.es.length then 4
  else if c.us.all (unitOk c.ce c.ds.length) = false ∨ 256 < c.us.length then 5
  else if plansOk [] c.ps = false then 6
  else if numsOk c = false then 7
  else 0

/-! ### Texts -/

def dig (n : Int) : Bs := decDigits n.toNat
def kindName (k : Int) : Bs :=
  if k = 1 then [98, 97, 115, 105, 99] else if k = 2 then [100, 111, 99, 116, 111, 114] else if k = 3 then [99, 97, 114] else if k = 4 then [97, 105, 114] else []
def never : Bs := [110, 101, 118, 101, 114]
def wCentres : Bs := [99, 101, 110, 116, 114, 101, 115, 32]
def wNode : Bs := [110, 111, 100, 101, 32]
def wEdge : Bs := [101, 100, 103, 101, 32]
def wUnit : Bs := [117, 110, 105, 116, 32]
def wPlan : Bs := [112, 108, 97, 110, 32]
/-- The names of the parameters. -/
def word (i : Nat) : Bs :=
  match i with
  | 0 => [98, 101, 97, 116] | 1 => [112, 97, 116, 105, 101, 110, 99, 101] | 2 => [101, 108, 101, 99, 116, 105, 111, 110] | 3 => [108, 101, 97, 115, 101] | 4 => [115, 105, 108, 101, 110, 99, 101]
  | 5 => [97, 103, 97, 105, 110] | 6 => [110, 101, 97, 114] | 7 => [119, 105, 110, 100, 111, 119] | 8 => [114, 101, 115, 101, 114, 118, 101] | 9 => [114, 111, 111, 109]
  | _ => []
def lCentres (n : Int) : Bs := wCentres ++ dig n ++ [10]
def lNode (d : Int) : Bs := wNode ++ dig d ++ [10]
def time (t : Int) : Bs := if t = 4611686018427387904 then never else dig t
def lEdge (e : Int × Int × Int) : Bs := wEdge ++ dig e.1 ++ [32] ++ dig e.2.1 ++ [32] ++ time e.2.2 ++ [10]
def lUnit (u : Int × Int × Int) : Bs := wUnit ++ kindName u.1 ++ [32] ++ dig u.2.1 ++ [32] ++ dig u.2.2 ++ [10]
def tKinds (l : List Int) : Bs := l.flatMap fun k => 32 :: kindName k
def lPlan (p : Plan) : Bs := wPlan ++ p.code ++ [32] ++ dig p.urg ++ tKinds p.kinds ++ [10]
def lNum (i : Nat) (n : Int) : Bs := if n = dflt.nums.getD i 0 then [] else word i ++ [32] ++ dig n ++ [10]
def tNums (c : Cfg) : Bs := (List.range 10).flatMap fun i => lNum i (c.nums.getD i 0)
def text (c : Cfg) : Bs := lCentres c.ce ++ c.ds.flatMap lNode ++ c.es.flatMap lEdge ++ c.us.flatMap lUnit ++ c.ps.flatMap lPlan ++ tNums c

/-! ### How great -/

def planCost (ps : List Plan) : Nat := (ps.map fun p => p.code.length + p.kinds.length).sum
def great (c : Cfg) : Bool := decide (4000 < planCost c.ps) || (decide (60 < c.ds.length) || decide (60 < c.es.length) || decide (60 < c.us.length) || decide (70 < c.ps.length))
theorem planCost_take {ps : List Plan} {k : Nat} {p : Plan} (h : ps[k]? = some p) : planCost (ps.take (k + 1)) = planCost (ps.take k) + (p.code.length + p.kinds.length) := by
  unfold planCost; rw [List.take_add_one, h]; simp
theorem planCost_le (ps : List Plan) (k : Nat) : planCost (ps.take k) ≤ planCost ps := by
  have h : planCost ps = planCost (ps.take k) + planCost (ps.drop k) := by
    unfold planCost; rw [← List.sum_append, ← List.map_append, List.take_append_drop]
  omega
theorem planCost_mem {ps : List Plan} {k : Nat} {p : Plan} (h : ps[k]? = some p) : p.code.length + p.kinds.length ≤ planCost ps := by
  have h1 := planCost_take h
  have h2 := planCost_le ps (k + 1)
  omega
theorem plansOk_step {before : List Plan} {p : Plan} {r : List Plan} : plansOk before (p :: r) = (decide (before.length < 64) && planOk p && !(before.any (twin p)) && plansOk (before ++ [p]) r) := rfl
/-- The plans from k on, those before being right. -/
theorem plansOk_at {ps : List Plan} {k : Nat} {p : Plan} (h : ps[k]? = some p) : plansOk (ps.take k) (ps.drop k) = (decide (k < 64) && planOk p && !((ps.take k).any (twin p)) && plansOk (ps.take (k + 1)) (ps.drop (k + 1))) := by
  have hk := (List.getElem?_eq_some_iff.1 h).1
  have hd : ps.drop k = p :: ps.drop (k + 1) := by rw [List.drop_eq_getElem_cons hk]; congr 1; exact (List.getElem?_eq_some_iff.1 h).2
  have ht : ps.take k ++ [p] = ps.take (k + 1) := by rw [List.take_add_one, h]; rfl
  rw [hd, plansOk_step, ht, List.length_take, Nat.min_eq_left (by omega)]
theorem text_dflt0 (c : Cfg) : text c = lCentres c.ce ++ c.ds.flatMap lNode ++ c.es.flatMap lEdge ++ c.us.flatMap lUnit ++ c.ps.flatMap lPlan ++ tNums c := rfl
theorem flatMap_take {α : Type} (f : α → Bs) {l : List α} {k : Nat} {a : α} (h : l[k]? = some a) : (l.take (k + 1)).flatMap f = (l.take k).flatMap f ++ f a := by
  rw [List.take_add_one, h]; simp
theorem all_take_succ {α : Type} (f : α → Bool) {l : List α} {k : Nat} {a : α} (h : l[k]? = some a) : (l.take (k + 1)).all f = ((l.take k).all f && f a) := by
  rw [List.take_add_one, h]; simp
theorem all_of_bad {α : Type} (f : α → Bool) {l : List α} {k : Nat} {a : α} (h : l[k]? = some a) (hf : f a = false) : l.all f = false := by
  rw [List.all_eq_false]; exact ⟨a, List.mem_of_getElem? h, by simp [hf]⟩
end Cf
