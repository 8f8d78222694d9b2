/- What has changed in memory; a graph in memory. -/
import Derived.Test.YtabciepnbmliiaaDoorEnv
import Derived.Test.YtabciepnbmliiaaDoorW6
import Derived.Test.YtabciepnbmliiaaDoorV0
import Derived.Test.YtabciepnbmliiaaDoorN7
import Derived.Test.YtabciepnbmliiaaDoorMath2
set_option linter.unusedVariables false
set_option linter.unusedSimpArgs false
set_option maxRecDepth 100000
namespace Go.Proofs.YtabciepnbmliiaaDoor
open Go.RowKit Go.Lib Rg

/-- Below block n₀ only the blocks of X may have changed. -/
structure Kept (X : Nat → Prop) (n₀ : Nat) (w w' : World) : Prop where
  os : w'.os = w.os
  tape : w'.tape = w.tape
  output : w'.output = w.output
  size : w.heap.size ≤ w'.heap.size
  block : ∀ k, k < n₀ → ¬ X k → w'.heap[k]? = w.heap[k]?
section
variable {X Y : Nat → Prop} {n₀ : Nat} {w a b : World}
theorem Kept.refl (X : Nat → Prop) (n₀ : Nat) (w : World) : Kept X n₀ w w := ⟨rfl, rfl, rfl, Nat.le_refl _, fun _ _ _ => rfl⟩
theorem Kept.trans (h : Kept X n₀ w a) (k : Kept X n₀ a b) : Kept X n₀ w b :=
  ⟨k.os.trans h.os, k.tape.trans h.tape, k.output.trans h.output, Nat.le_trans h.size k.size, fun i hi hn => (k.block i hi hn).trans (h.block i hi hn)⟩
theorem Kept.of_below (X : Nat → Prop) (h : Below n₀ w a) : Kept X n₀ w a := ⟨h.os, h.tape, h.output, h.size, fun k hk _ => h.block k hk⟩
theorem Kept.below (h : Kept X n₀ w a) {m : Nat} (hm : m ≤ n₀) (hs : ∀ k, k < m → ¬ X k) : Below m w a := ⟨h.os, h.tape, h.output, h.size, fun k hk => h.block k (Nat.lt_of_lt_of_le hk hm) (hs k hk)⟩
theorem Kept.mono (h : Kept X n₀ w a) {m : Nat} (hm : m ≤ n₀) (hs : ∀ k, k < m → X k → Y k) : Kept Y m w a := ⟨h.os, h.tape, h.output, h.size, fun k hk hn => h.block k (Nat.lt_of_lt_of_le hk hm) fun h2 => hn (hs k hk h2)⟩
theorem Kept.then (h : Kept X n₀ w a) (k : Below n₀ a b) : Kept X n₀ w b := h.trans (.of_below X k)
theorem Kept.drew (h : Kept X n₀ w a) : Kept X n₀ w a.drew := ⟨h.os, h.tape, h.output, h.size, h.block⟩
theorem Kept.alloc (h : Kept X n₀ w a) (hn : n₀ ≤ a.heap.size) (o : Obj) : Kept X n₀ w (a.alloc o) := h.then ((Below.refl _ _).alloc hn o)
theorem Kept.setCell (h : Kept X n₀ w a) {p : Addr} (hp : p.block < n₀ → X p.block) (u : Value) : Kept X n₀ w (a.setCell p u) :=
  ⟨h.os, h.tape, h.output, by simpa using h.size, fun k hk hn => (Below.heap_setCell a p u k (fun e => hn (e ▸ hp (e ▸ hk)))).trans (h.block k hk hn)⟩
theorem Kept.grown {row : Option Nat} (h : Kept X n₀ w a) (k : a.grownBy b row) (hn : n₀ ≤ a.heap.size) (hr : ∀ i, row = some i → i < n₀ → X i) : Kept X n₀ w b :=
  ⟨k.os.trans h.os, k.tape.trans h.tape, k.output.trans h.output, Nat.le_trans h.size k.size, fun i hi hx => (k.block i (Nat.lt_of_lt_of_le hi hn) (fun e => hx (hr i e.symm hi))).trans (h.block i hi hx)⟩
theorem Kept.at (h : Kept X n₀ w a) {g : Nat} {o : Obj} (hg : w.heap[g]? = some o) (hl : g < n₀) (hn : ¬ X g) : a.heap[g]? = some o := (h.block g hl hn).trans hg
theorem Kept.cell (h : Kept X n₀ w a) {p : Addr} {v : Value} (hp : w.cell? p = some v) (hl : p.block < n₀) (hn : ¬ X p.block) : a.cell? p = some v := by
  have := h.block p.block hl hn
  unfold World.cell? at hp ⊢
  rw [this]; exact hp
theorem Kept.putObj (h : Kept X n₀ w a) {l : Nat} {o : Obj} (o' : Obj) (hl : n₀ ≤ l) (ho : a.heap[l]? = some o) : Kept X n₀ w (a.putObj l o') :=
  h.trans ⟨(grownBy_putObj' a l o').os, (grownBy_putObj' a l o').tape, (grownBy_putObj' a l o').output, (grownBy_putObj' a l o').size, fun i hi _ => (grownBy_putObj' a l o').block i (by have := (Array.getElem?_eq_some_iff.1 ho).1; omega) (fun e => by cases e; omega)⟩
theorem keptK_t {A B C : World} (h : Kept X n₀ A B) (k : Kept X n₀ B C) : Kept X n₀ A C := h.trans k
theorem keptK_b (hn : n₀ ≤ w.heap.size) (W : World) (l : Nat) (o o' : Obj) (hl : w.heap.size ≤ l) (h : W.heap[l]? = some o) (_ : o.isCells = false) (_ : o.isWalk = false) : Kept X n₀ W (W.putObj l o') :=
  (Kept.refl X n₀ W).putObj o' (by omega) h
theorem Kept.own {base : Nat} {T : TypeId} {k : Nat} {v : Value} {n : Nat} {xs : List Value} (hk : Kept X n₀ w a) (h : w.ownsRow base T k v n xs) (hl : ∀ g, v.ownBlock = some g → g < n₀ ∧ ¬ X g) : a.ownsRow base T k v n xs :=
  own_kept h fun g hg => hk.block g (hl g hg).1 (hl g hg).2
theorem Kept.rd {A : Option Addr} {n : Nat} {xs : List Int} (hk : Kept X n₀ w a) (h : Rd w A n xs) (hl : ∀ ad, A = some ad → 0 < n → ad.block < n₀ ∧ ¬ X ad.block) : Rd a A n xs :=
  ⟨h.1, fun hn => by
    obtain ⟨ad, e, h1, h2⟩ := h.2 hn
    obtain ⟨l1, l2⟩ := hl ad e hn
    exact ⟨ad, e, Nat.lt_of_lt_of_le h1 hk.size, fun j hj => hk.cell (h2 j hj) (by rw [block_add']; exact l1) (by rw [block_add']; exact l2)⟩⟩
/-- A block that is no cells, beyond B, lies as it lay. -/
theorem Kept.keepsFrom {B : Nat} (h : Kept X n₀ w a) (hn : n₀ = w.heap.size) (hX : ∀ k, X k → ∀ o, w.heap[k]? = some o → o.isCells = true) : KeepsFrom B w a :=
  ⟨h.size, fun k o _ hk ho => (h.block k (by have := (Array.getElem?_eq_some_iff.1 hk).1; omega) (fun hx => by rw [hX k hx o hk] at ho; cases ho)).trans hk⟩
end

/-! ### A graph to be read -/

/-- v is a slice of N lists: the lists f j; all lies from block lo on, ahead of block hi. -/
structure RwP (w : World) (lo hi : Nat) (v : Value) (N : Nat) (f : Nat → List Int) (us : List Value) : Prop where
  own : w.ownsRow lo 42 1 v N us
  top : ∀ g, v.ownBlock = some g → g < hi
  el : ∀ (j : Nat) (u : Value), us[j]? = some u → OwnI w lo u (f j) ∧ ∀ g, u.ownBlock = some g → g < hi
theorem own_ge {w : World} {base : Nat} {T : TypeId} {k : Nat} {v : Value} {n : Nat} {xs : List Value} (h : w.ownsRow base T k v n xs) {g : Nat} (hg : v.ownBlock = some g) : base ≤ g := (World.ownsRow.lt h g hg).1
theorem own_lt {w : World} {base : Nat} {T : TypeId} {k : Nat} {v : Value} {n : Nat} {xs : List Value} (h : w.ownsRow base T k v n xs) {g : Nat} (hg : v.ownBlock = some g) : g < w.heap.size := (World.ownsRow.lt h g hg).2
theorem own_to {w w' : World} {lo hi : Nat} {T : TypeId} {k : Nat} {v : Value} {n : Nat} {xs : List Value} (h : w.ownsRow lo T k v n xs) (ht : ∀ g, v.ownBlock = some g → g < hi) (hk : ∀ b, lo ≤ b → b < hi → w'.heap[b]? = w.heap[b]?) : w'.ownsRow lo T k v n xs :=
  own_kept h fun g hg => hk g (own_ge h hg) (ht g hg)
theorem RwP.to {w w' : World} {lo hi : Nat} {v : Value} {N : Nat} {f : Nat → List Int} {us : List Value} (h : RwP w lo hi v N f us) (hk : ∀ b, lo ≤ b → b < hi → w'.heap[b]? = w.heap[b]?) : RwP w' lo hi v N f us :=
  ⟨own_to h.own h.top hk, h.top, fun j u hu => ⟨own_to (h.el j u hu).1 (h.el j u hu).2 hk, (h.el j u hu).2⟩⟩
theorem own_len {w : World} {base : Nat} {T : TypeId} {v : Value} {n : Nat} {xs : List Value} (h : w.ownsRow base T 1 v n xs) : xs.length = n := by have := h.1; simpa using this
/-- The list of node j. -/
theorem RwP.at_ {w : World} {lo hi : Nat} {v : Value} {N : Nat} {f : Nat → List Int} {us : List Value} (h : RwP w lo hi v N f us) {j : Nat} (hj : j < N) :
    ∃ ab c B d, v = .slice (some ⟨ab, 0, none⟩) N c ∧ (lo ≤ ab ∧ ab < hi) ∧ w.cell? ⟨ab, j, none⟩ = some (.slice B (f j).length d) ∧ Rd w B (f j).length (f j) ∧ ∀ ad, B = some ad → 0 < (f j).length → lo ≤ ad.block ∧ ad.block < hi := by
  have hl := own_len h.own
  have hus : us[j]? = some us[j] := List.getElem?_eq_getElem (by omega)
  obtain ⟨hO, ht⟩ := h.el j _ hus
  obtain ⟨B, d, e⟩ := hO.slice
  rw [e] at hO hus ht
  obtain ⟨g, cap, hv, _, hlt⟩ := World.ownsRow.form h.own (by omega)
  have hg : v.ownBlock = some g := by rw [hv]; rfl
  refine ⟨g, cap, B, d, hv, ⟨own_ge h.own hg, h.top g hg⟩, ?_, hO.rd, fun ad hB h0 => ?_⟩
  · have := World.ownsRow.cells h.own (g := g) hg j _ hus
    rwa [show (⟨g, 0, none⟩ : Addr).add j = ⟨g, j, none⟩ by unfold Addr.add; split <;> simp_all] at this
  · obtain ⟨g2, cap2, hv2, h1, _⟩ := World.ownsRow.form hO h0
    have hA : B = some ⟨g2, 0, none⟩ := by injection hv2
    rw [hB] at hA
    injection hA with hA
    subst hA
    exact ⟨h1, ht g2 (by rw [hv2]; rfl)⟩

/-- At block G lies a graph of N nodes and the edges l; all of it lies from block lo on, ahead of block hi. -/
structure GrP (w : World) (lo hi G N : Nat) (l : List Ed3) : Prop where
  fair : FairR N l
  ge : lo ≤ G
  top : G < hi
  ex : ∃ vE vO vI us is, w.heap[G]? = some (.cells #[vE, vO, vI] 70 (0, 0)) ∧ OwnE w lo vE l ∧ (∀ g, vE.ownBlock = some g → g < hi) ∧ RwP w lo hi vO N (fun j => outs l j) us ∧ RwP w lo hi vI N (fun j => outs (back l) j) is
theorem GrP.to {w w' : World} {lo hi G N : Nat} {l : List Ed3} (h : GrP w lo hi G N l) (hk : ∀ b, lo ≤ b → b < hi → w'.heap[b]? = w.heap[b]?) : GrP w' lo hi G N l := by
  obtain ⟨vE, vO, vI, us, is, h1, h2, h3, h4, h5⟩ := h.ex
  exact ⟨h.fair, h.ge, h.top, vE, vO, vI, us, is, (hk G h.ge h.top).trans h1, own_to h2 h3 hk, h3, h4.to hk, h5.to hk⟩
theorem GrP.below {w w' : World} {lo hi G N : Nat} {l : List Ed3} (h : GrP w lo hi G N l) (hk : Below hi w w') : GrP w' lo hi G N l := h.to fun b _ hb => hk.block b hb
theorem GrP.kept {X : Nat → Prop} {n₀ : Nat} {w w' : World} {lo hi G N : Nat} {l : List Ed3} (h : GrP w lo hi G N l) (hk : Kept X n₀ w w') (hn : hi ≤ n₀) (hX : ∀ b, lo ≤ b → b < hi → ¬ X b) : GrP w' lo hi G N l := h.to fun b h1 hb => hk.block b (by omega) (hX b h1 hb)
/-- The header's three slices. -/
theorem GrP.head {w : World} {lo hi G N : Nat} {l : List Ed3} (h : GrP w lo hi G N l) : ∃ AE cE AO cO AI cI, w.cell? ⟨G, 0, none⟩ = some (.slice AE l.length cE) ∧ w.cell? ⟨G, 1, none⟩ = some (.slice (some ⟨AO, 0, none⟩) N cO) ∧ w.cell? ⟨G, 2, none⟩ = some (.slice (some ⟨AI, 0, none⟩) N cI) ∧
    Re w AE l.length l ∧ ∃ us is, RwP w lo hi (.slice (some ⟨AO, 0, none⟩) N cO) N (fun j => outs l j) us ∧ RwP w lo hi (.slice (some ⟨AI, 0, none⟩) N cI) N (fun j => outs (back l) j) is := by
  obtain ⟨vE, vO, vI, us, is, h1, h2, h3, h4, h5⟩ := h.ex
  have hN := h.fair.lo
  obtain ⟨AE, cE, rfl⟩ := h2.slice
  obtain ⟨AO, cO, _, _, rfl, _⟩ := h4.at_ (j := 0) (by omega)
  obtain ⟨AI, cI, _, _, rfl, _⟩ := h5.at_ (j := 0) (by omega)
  exact ⟨AE, cE, AO, cO, AI, cI, cell_of_row _ _ 0 _ _ _ h1, cell_of_row _ _ 1 _ _ _ h1, cell_of_row _ _ 2 _ _ _ h1, h2.re, us, is, h4, h5⟩
theorem GrP.lt {w : World} {lo hi G N : Nat} {l : List Ed3} (h : GrP w lo hi G N l) : G < w.heap.size := by
  obtain ⟨vE, vO, vI, us, is, h1, _⟩ := h.ex
  exact (Array.getElem?_eq_some_iff.1 h1).1

/-! ### What is seen -/

/-- The block b holds, for each node below N, whether it is in S. -/
def SeenAt (w : World) (b N : Nat) (S : Int → Bool) : Prop := ∀ i : Nat, i < N → w.cell? ⟨b, i, none⟩ = some (.bool (S i)) ∧ w.frozen? ⟨b, i, none⟩ = false
theorem cell_heap {w w' : World} {p : Addr} (h : w'.heap[p.block]? = w.heap[p.block]?) : w'.cell? p = w.cell? p := by unfold World.cell?; rw [h]
theorem frozen_heap {w w' : World} {p : Addr} (h : w'.heap[p.block]? = w.heap[p.block]?) : w'.frozen? p = w.frozen? p := by unfold World.frozen?; rw [h]
theorem SeenAt.to {w w' : World} {b N : Nat} {S : Int → Bool} (h : SeenAt w b N S) (hk : w'.heap[b]? = w.heap[b]?) : SeenAt w' b N S :=
  fun i hi => ⟨(cell_heap (p := ⟨b, i, none⟩) hk).trans (h i hi).1, (frozen_heap (p := ⟨b, i, none⟩) hk).trans (h i hi).2⟩
theorem SeenAt.below {w w' : World} {b N n₀ : Nat} {S : Int → Bool} (h : SeenAt w b N S) (hk : Below n₀ w w') (hb : b < n₀) : SeenAt w' b N S := h.to (hk.block b hb)
/-- A node is seen. -/
theorem SeenAt.set {w : World} {b N v : Nat} {S : Int → Bool} (h : SeenAt w b N S) (hv : v < N) : SeenAt (w.setCell ⟨b, v, none⟩ (.bool true)) b N (upd S v) := by
  intro i hi
  refine ⟨?_, by rw [World.frozen?_setCell]; exact (h i hi).2⟩
  by_cases e : i = v
  · subst e
    rw [upd_self]
    exact World.cell?_setCell_same' _ _ _ (by rw [(h i hi).1]; rfl)
  · rw [upd_ne (by omega)]
    rw [World.cell?_setCell_other _ _ _ _ (by intro h2; injection h2 with _ h3 _; exact e h3.symm)]
    exact (h i hi).1
end Go.Proofs.YtabciepnbmliiaaDoor
