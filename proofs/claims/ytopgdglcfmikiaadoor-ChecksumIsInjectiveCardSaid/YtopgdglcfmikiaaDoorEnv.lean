/- What the rows' listed variables give a walk; a world that meets the list; the arguments of the laws, read. -/
import Derived.Test.YtopgdglcfmikiaaDoorW7
import Derived.Test.YtopgdglcfmikiaaDoorCards
import Derived.Test.YtopgdglcfmikiaaDoorTie
import Derived.WalkKit
import Derived.ProofKit
import Derived.OpenShut
import Derived.Carry
import Derived.Deep.Slices
import Derived.Deep.DeepHandedRow
import Derived.Deep.DeepWitnessRowRef
import Derived.Lib.LaidTab
import Derived.ShutString
namespace Go.Proofs.YtopgdglcfmikiaaDoor
open Go.ChangeShapes Go.WideShapes Go.ChangeAt Go.RowKit Go.Lib Cs

theorem own : ownKnob Tryd.prog.godebug = none := by kernel_rfl
theorem laidOut : laidOutB Tryd.prog = true := by kernel_rfl
theorem cellsInt64 : Tryd.prog.cellsOf 2 = 1 := by kernel_rfl
theorem cellsU8 : Tryd.prog.cellsOf 5 = 1 := by kernel_rfl

theorem laid_at {P : Program} {w : World} : ∀ {l : List (String × DataW Unit)} {ps : List MemPlace}, DataW.LaidVars P w l ps → ∀ {n : String} {d : DataW Unit}, (n, d) ∈ l →
    ∃ g t cs fuel p, P.globalNamed n = some g ∧ (P.globals[g]?).map (·.type) = some t ∧ w.var? P n = some cs ∧ DataW.trod (fun _ => ()) P w 0 (fun _ => true) false fuel t cs.toList = some (d, p)
  | [], _, _, _, _, hx => by cases hx
  | (m, e) :: r, ps, h, n, d, hx => by
    obtain ⟨g, t, cs, fuel, p, q, h1, h2, h3, h4, h5, _⟩ := h
    rcases List.mem_cons.1 hx with hx | hx
    · cases hx; exact ⟨g, t, cs, fuel, p, h1, h2, h3, h4⟩
    · exact laid_at h5 hx

theorem cellsDb : Tryd.prog.cellsOf 99 = 64 := by kernel_rfl
theorem gDb : Tryd.prog.globalNamed "math/bits.deBruijn64tab" = some 5 := by kernel_rfl
theorem gDbT : (Tryd.prog.globals[(5 : Nat)]?).map (·.type) = some 99 := by kernel_rfl
theorem gSyn : Tryd.prog.globalNamed "strconv.ErrSyntax" = some 1 := by kernel_rfl
theorem gSynT : (Tryd.prog.globals[(1 : Nat)]?).map (·.type) = some 47 := by kernel_rfl
theorem gRng : Tryd.prog.globalNamed "strconv.ErrRange" = some 2 := by kernel_rfl
theorem gRngT : (Tryd.prog.globals[(2 : Nat)]?).map (·.type) = some 47 := by kernel_rfl
theorem db_eq : (Rows.laid_math_bits_deBruijn64tab : DataW Unit) = tabData .u8 (deBruijn64tab.map fun (n : Nat) => (n : Int)) := by kernel_rfl

theorem env_of {W : World} (hL : laidMet Tryd.prog Rows.checksumSumsRow.laid W) : Env W := by
  obtain ⟨ps, hv, _, _⟩ := hL
  have hdb : W.cell? ⟨5, 15, none⟩ = some (.int .u8 4) := by
    obtain ⟨g, t, cs, fuel, p, a1, a2, a3, a4⟩ := laid_at hv (n := "math/bits.deBruijn64tab") (d := Rows.laid_math_bits_deBruijn64tab) (.tail _ (.head _))
    obtain rfl := Option.some.inj (gDb.symm.trans a1)
    obtain rfl := Option.some.inj (gDbT.symm.trans a2)
    rw [db_eq] at a4
    have hc := cells_of_tab Tryd.underlying99 Tryd.underlying5 cellsU8 cellsDb a4
    rw [World.var?_cell gDb a3 15, ← Array.getElem?_toList, hc]
    rfl
  have hrng : ∃ t p, W.cell? ⟨2, 0, none⟩ = some (.iface t p) := by
    obtain ⟨g, t, cs, fuel, p, a1, a2, a3, a4⟩ := laid_at hv (n := "strconv.ErrRange") (d := Rows.laid_strconv_ErrRange) (.tail _ (.tail _ (.tail _ (.head _))))
    obtain rfl := Option.some.inj (gRng.symm.trans a1)
    obtain rfl := Option.some.inj (gRngT.symm.trans a2)
    obtain ⟨_, u, v, hc, _, _⟩ := iface_of_trod Tryd.underlying47 a4
    exact ⟨u, v, by rw [World.var?_cell gRng a3 0, ← Array.getElem?_toList, hc]; rfl⟩
  have hsyn : ∃ t p, W.cell? ⟨1, 0, none⟩ = some (.iface t p) := by
    obtain ⟨g, t, cs, fuel, p, a1, a2, a3, a4⟩ := laid_at hv (n := "strconv.ErrSyntax") (d := Rows.laid_strconv_ErrSyntax) (.tail _ (.tail _ (.tail _ (.tail _ (.head _)))))
    obtain rfl := Option.some.inj (gSyn.symm.trans a1)
    obtain rfl := Option.some.inj (gSynT.symm.trans a2)
    obtain ⟨_, u, v, hc, _, _⟩ := iface_of_trod Tryd.underlying47 a4
    exact ⟨u, v, by rw [World.var?_cell gSyn a3 0, ← Array.getElem?_toList, hc]; rfl⟩
  have hsz : 6 ≤ W.heap.size := by
    have := World.block_lt_of_cell? W _ hdb
    exact this
  exact { db := hdb, syn := hsyn, rng := hrng, size := hsz }

theorem exists_list {α : Type} {P : Nat → α → Prop} : ∀ n : Nat, (∀ i, i < n → ∃ a, P i a) → ∃ l : List α, l.length = n ∧ ∀ (i : Nat) (a : α), l[i]? = some a → P i a
  | 0, _ => ⟨[], rfl, by simp⟩
  | n + 1, h => by
    obtain ⟨l, hl, hp⟩ := exists_list n fun i hi => h i (by omega)
    obtain ⟨a, ha⟩ := h n (by omega)
    refine ⟨l ++ [a], by simp [hl], fun i b hb => ?_⟩
    by_cases e : i < n
    · rw [List.getElem?_append_left (by omega)] at hb; exact hp i b hb
    · have := (List.getElem?_eq_some_iff.1 hb).1
      rw [List.length_append, List.length_singleton] at this
      obtain rfl : i = n := by omega
      rw [List.getElem?_append_right (by omega), hl] at hb
      simp at hb; subst hb; exact ha

theorem u8_fits {n : Int} (h : (Lit.int .u8 n).wf = true) : 0 ≤ n ∧ n < 256 := by
  simp [Lit.wf, IntKind.min, IntKind.max, IntKind.signed, IntKind.bits] at h; omega
theorem u16_fits {n : Int} (h : (Lit.int .u16 n).wf = true) : 0 ≤ n ∧ n < 65536 := by
  simp [Lit.wf, IntKind.min, IntKind.max, IntKind.signed, IntKind.bits] at h; omega
theorem u64_fits {n : Int} (h : (Lit.int .u64 n).wf = true) : 0 ≤ n ∧ n < 18446744073709551616 := by
  simp [Lit.wf, IntKind.min, IntKind.max, IntKind.signed, IntKind.bits] at h; omega

section
variable {H : Type} {enc : TypeId × Value → H} {W : World} {a : Option Addr} {len cap : Nat} {d : DataW H} {ps : List MemPlace}

theorem bytes_of (h : DataW.Trod enc Tryd.prog W 0 (fun _ => true) true 23 (.slice a len cap) d ps) :
    ∃ l, len = l.length ∧ RB W (.slice a len cap) l ∧ l.length ≤ 9223372036854775807 := by
  obtain ⟨fuel, hf⟩ := h
  rcases Go.Deep.open_slice1 Tryd.underlying23 cellsU8 hf with ⟨hcs, _⟩ | ⟨b, len', cap', m, n, V, D, Pl, hcs, _, hl, hm, hmm, _, hi⟩
  · simp [Value.cells] at hcs
    obtain ⟨rfl, rfl, rfl⟩ := hcs
    exact ⟨[], rfl, RB.nil W, by simp⟩
  · simp [Value.cells] at hcs
    obtain ⟨rfl, rfl, rfl⟩ := hcs
    simp only [if_true] at hmm
    subst hmm
    obtain ⟨l, hll, hp⟩ := exists_list (P := fun i (z : Nat) => W.cell? (b.add i) = some (.int .u8 (z : Int)) ∧ z < 256) len fun i hil => by
      obtain ⟨h1, h2⟩ := hi i (by omega)
      obtain ⟨z, h3, _, h4⟩ := DataW.trod_int Tryd.underlying5 h2
      simp at h3
      have h5 := u8_fits h4
      obtain ⟨z', rfl⟩ : ∃ z' : Nat, z = (z' : Int) := ⟨z.toNat, by omega⟩
      exact ⟨z', by rw [h1, h3], by omega⟩
    subst hll
    unfold maxLen at hm
    refine ⟨l, rfl, ⟨fun z hz => ?_, .inr ⟨b, m, rfl, fun j z hj => (hp j z hj).1⟩⟩, by omega⟩
    obtain ⟨i, hz⟩ := List.mem_iff_getElem?.1 hz
    exact (hp i z hz).2

theorem numbers_of (h : DataW.Trod enc Tryd.prog W 0 (fun _ => true) true 28 (.slice a len cap) d ps) :
    ∃ l, len = l.length ∧ RN W (.slice a len cap) l ∧ l.length ≤ 9223372036854775807 := by
  obtain ⟨fuel, hf⟩ := h
  rcases Go.Deep.open_slice1 Tryd.underlying28 cellsInt64 hf with ⟨hcs, _⟩ | ⟨b, len', cap', m, n, V, D, Pl, hcs, _, hl, hm, hmm, _, hi⟩
  · simp [Value.cells] at hcs
    obtain ⟨rfl, rfl, rfl⟩ := hcs
    exact ⟨[], rfl, .inl ⟨rfl, rfl⟩, by simp⟩
  · simp [Value.cells] at hcs
    obtain ⟨rfl, rfl, rfl⟩ := hcs
    simp only [if_true] at hmm
    subst hmm
    obtain ⟨l, hll, hp⟩ := exists_list (P := fun i (z : Int) => W.cell? (b.add i) = some (.int .i64 z)) len fun i hil => by
      obtain ⟨h1, h2⟩ := hi i (by omega)
      obtain ⟨z, h3, _, h4⟩ := DataW.trod_int Tryd.underlying2 h2
      simp at h3
      exact ⟨z, by rw [h1, h3]⟩
    subst hll
    unfold maxLen at hm
    exact ⟨l, rfl, .inr ⟨b, m, rfl, fun j z hj => hp j z hj⟩, by omega⟩
end
theorem size_eq (a : ByteArray) : a.size = a.data.toList.length := by cases a; simp [ByteArray.size]
theorem mk_data (a : ByteArray) : (⟨a.data.toList.toArray⟩ : ByteArray) = a := by cases a; simp
def bytesCellsOf (k : IntKind) (zs : List Int) : Array Value := (zs.map fun z => Value.int k z).toArray

/-- The witness: the settled world with two blocks more (the two errors' structs), the five listed variables holding what their initialisers lay. -/
noncomputable def laidWorld (os : Os) : World :=
  let N := (World.settled Tryd.prog os).heap.size
  let w0 := World.holding Tryd.prog os ⟨#[.cells #[.string ⟨#[118, 97, 108, 117, 101, 32, 111, 117, 116, 32, 111, 102, 32, 114, 97, 110, 103, 101]⟩] 97, .cells #[.string ⟨#[105, 110, 118, 97, 108, 105, 100, 32, 115, 121, 110, 116, 97, 120]⟩] 97], #[], []⟩
  let put (h : Array Obj) (g : Nat) (cs : Array Value) : Array Obj := h.modify g fun
    | .cells _ t frozen => .cells cs t frozen
    | o => o
  let h0 := put (put w0.heap 2 #[.iface 95 (.pointer (some ⟨N, 0, none⟩))]) 1 #[.iface 95 (.pointer (some ⟨N + 1, 0, none⟩))]
  let h1 := put h0 4 (bytesCellsOf .u8 [0, 1, 28, 2, 29, 14, 24, 3, 30, 22, 20, 15, 25, 17, 4, 8, 31, 27, 13, 23, 21, 19, 16, 7, 26, 12, 18, 6, 11, 5, 10, 9])
  let h2 := put h1 5 (bytesCellsOf .u8 [0, 1, 56, 2, 57, 49, 28, 3, 61, 58, 42, 50, 38, 29, 17, 4, 62, 47, 59, 36, 45, 43, 51, 22, 53, 39, 33, 30, 24, 18, 12, 5, 63, 55, 48, 27, 60, 41, 37, 16, 46, 35, 44, 21, 52, 32, 23, 11, 54, 26, 40, 15, 34, 20, 31, 10, 25, 14, 19, 9, 13, 8, 7, 6])
  let h3 := put h2 0 (bytesCellsOf .u64 [1, 10, 100, 1000, 10000, 100000, 1000000, 10000000, 100000000, 1000000000, 10000000000, 100000000000, 1000000000000, 10000000000000, 100000000000000, 1000000000000000, 10000000000000000, 100000000000000000, 1000000000000000000, 10000000000000000000])
  { w0 with heap := h3 }

set_option maxRecDepth 1000000 in
theorem laid_met (os : Os) (args : Array Value) : laidMet Tryd.prog Rows.checksumSumsRow.laid ((laidWorld os).forCall (fun _ _ => 0) ⟨#[], args, []⟩).memory :=
  laidMet_of_run' 8 (by kernel_rfl) (by kernel_rfl)

end Go.Proofs.YtopgdglcfmikiaaDoor
