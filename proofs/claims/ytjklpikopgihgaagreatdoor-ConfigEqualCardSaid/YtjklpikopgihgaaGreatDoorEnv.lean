/- What the rows' listed variables give a walk; a world that meets the list. -/
import Derived.Test.YtjklpikopgihgaaGreatDoorE1
import Derived.Test.YtjklpikopgihgaaGreatDoorV1
import Derived.Test.YtjklpikopgihgaaGreatDoorCards
import Derived.Test.YtjklpikopgihgaaGreatDoorTie
import Derived.WalkKit
import Derived.ProofKit
import Derived.OpenShut
import Derived.Deep.DeepHandedRow
import Derived.Deep.DeepWitnessRowRef
import Derived.Lib.LaidTab
import Derived.ShutString
namespace Go.Proofs.YtjklpikopgihgaaGreatDoor
open Go.ChangeShapes Go.WideShapes Go.ChangeAt Go.RowKit Go.Lib Cf
set_option maxRecDepth 100000
set_option linter.unusedSimpArgs false

theorem laid_at {P : Program} {w : World} : ∀ {l : List (String × DataW Unit)} {ps : List MemPlace}, DataW.LaidVars P w l ps → ∀ {n : String} {d : DataW Unit}, (n, d) ∈ l →
    ∃ g t cs fuel p, P.globalNamed n = some g ∧ (P.globals[g]?).map (·.type) = some t ∧ w.var? P n = some cs ∧ DataW.trod (fun _ => ()) P w 0 (fun _ => true) false fuel t cs.toList = some (d, p)
  | [], _, _, _, _, hx => by cases hx
  | (m, e) :: r, ps, h, n, d, hx => by
    obtain ⟨g, t, cs, fuel, p, q, h1, h2, h3, h4, h5, _⟩ := h
    rcases List.mem_cons.1 hx with hx | hx
    · cases hx; exact ⟨g, t, cs, fuel, p, h1, h2, h3, h4⟩
    · exact laid_at h5 hx

theorem gPowT : (Tryz.prog.globals[(1 : Nat)]?).map (·.type) = some 119 := by kernel_rfl
theorem cellsPow : Tryz.prog.cellsOf 119 = 20 := by kernel_rfl
theorem cellsU64 : Tryz.prog.cellsOf 104 = 1 := by kernel_rfl
theorem gSyn : Tryz.prog.globalNamed "strconv.ErrSyntax" = some 7 := by kernel_rfl
theorem gSynT : (Tryz.prog.globals[(7 : Nat)]?).map (·.type) = some 93 := by kernel_rfl
theorem gRng : Tryz.prog.globalNamed "strconv.ErrRange" = some 8 := by kernel_rfl
theorem gRngT : (Tryz.prog.globals[(8 : Nat)]?).map (·.type) = some 93 := by kernel_rfl
theorem gKin : Tryz.prog.globalNamed "samaritan/config.kindNames" = some 0 := by kernel_rfl
theorem gKinT : (Tryz.prog.globals[(0 : Nat)]?).map (·.type) = some 82 := by kernel_rfl
theorem cells4 : Tryz.prog.cellsOf 82 = 4 := by kernel_rfl
theorem pow_eq : (Rows.laid_internal_strconv_uint64pow10 : DataW Unit) = tabData .u64 pow10Tab := by kernel_rfl

theorem env_of {W : World} (hL : laidMet Tryz.prog Rows.configValidateRow.laid W) (hsh : W.ShapedOpen Tryz.prog) : Env W := by
  obtain ⟨ps, hv, _, _⟩ := hL
  have hpow : Lib.TabIs Tryz.prog W "internal/strconv.uint64pow10" .u64 Lib.pow10Tab := by
    obtain ⟨g, t, cs, fuel, p, a1, a2, a3, a4⟩ := laid_at hv (n := "internal/strconv.uint64pow10") (d := Rows.laid_internal_strconv_uint64pow10) (.tail _ (.tail _ (.head _)))
    obtain rfl := Option.some.inj (gPow.symm.trans a1)
    obtain rfl := Option.some.inj (gPowT.symm.trans a2)
    rw [pow_eq] at a4
    unfold Lib.TabIs
    rw [a3, ← cells_of_tab Tryz.underlying119 Tryz.underlying104 cellsU64 cellsPow a4]
  have hrng : ∃ t p, W.cell? ⟨8, 0, none⟩ = some (.iface t p) := by
    obtain ⟨g, t, cs, fuel, p, a1, a2, a3, a4⟩ := laid_at hv (n := "strconv.ErrRange") (d := Rows.laid_strconv_ErrRange) (.tail _ (.tail _ (.tail _ (.tail _ (.head _)))))
    obtain rfl := Option.some.inj (gRng.symm.trans a1)
    obtain rfl := Option.some.inj (gRngT.symm.trans a2)
    obtain ⟨_, u, v, hc, _, _⟩ := iface_of_trod Tryz.underlying93 a4
    exact ⟨u, v, by rw [World.var?_cell gRng a3 0, ← Array.getElem?_toList, hc]; rfl⟩
  have hsyn : ∃ t p, W.cell? ⟨7, 0, none⟩ = some (.iface t p) := by
    obtain ⟨g, t, cs, fuel, p, a1, a2, a3, a4⟩ := laid_at hv (n := "strconv.ErrSyntax") (d := Rows.laid_strconv_ErrSyntax) (.tail _ (.tail _ (.tail _ (.tail _ (.tail _ (.head _))))))
    obtain rfl := Option.some.inj (gSyn.symm.trans a1)
    obtain rfl := Option.some.inj (gSynT.symm.trans a2)
    obtain ⟨_, u, v, hc, _, _⟩ := iface_of_trod Tryz.underlying93 a4
    exact ⟨u, v, by rw [World.var?_cell gSyn a3 0, ← Array.getElem?_toList, hc]; rfl⟩
  have hkin : ∀ j, W.cell? ⟨0, j, none⟩ = ([.string ⟨#[98, 97, 115, 105, 99]⟩, .string ⟨#[100, 111, 99, 116, 111, 114]⟩, .string ⟨#[99, 97, 114]⟩, .string ⟨#[97, 105, 114]⟩] : List Value)[j]? := by
    obtain ⟨g, t, cs, fuel, p, a1, a2, a3, a4⟩ := laid_at hv (n := "samaritan/config.kindNames") (d := Rows.laid_samaritan_config_kindNames) (.tail _ (.tail _ (.tail _ (.tail _ (.tail _ (.tail _ (.head _)))))))
    obtain rfl := Option.some.inj (gKin.symm.trans a1)
    obtain rfl := Option.some.inj (gKinT.symm.trans a2)
    obtain ⟨xs, m, _, hx, hl, hxl, hall⟩ := DataW.trod_array Tryz.underlying82 a4
    rw [cells4] at hl
    obtain ⟨x0, x1, x2, x3, rfl⟩ : ∃ x0 x1 x2 x3, xs = [x0, x1, x2, x3] := by
      match xs, hxl with
      | [x0, x1, x2, x3], _ => exact ⟨x0, x1, x2, x3, rfl⟩
    simp only [Rows.laid_samaritan_config_kindNames, List.map_cons, List.map_nil, Prod.mk.injEq, DataW.agg.injEq, List.cons.injEq, and_true] at hx
    obtain ⟨⟨q0, q1, q2, q3⟩, _⟩ := hx
    have t0 := hall 0 (by omega)
    have t1 := hall 1 (by omega)
    have t2 := hall 2 (by omega)
    have t3 := hall 3 (by omega)
    simp only [cellsStr, List.getElem?_cons_zero, List.getElem?_cons_succ] at t0 t1 t2 t3
    intro j
    rw [World.var?_cell gKin a3 j, ← Array.getElem?_toList]
    congr 1
    generalize cs.toList = l at *
    match l, hl with
    | [c0, c1, c2, c3], _ =>
      simp only [Nat.zero_mul, Nat.one_mul, Nat.mul_one, List.drop_zero, List.drop_succ_cons, List.take_succ_cons, List.take_zero] at t0 t1 t2 t3
      obtain ⟨s0, e0, d0, _⟩ := DataW.trod_string Tryz.underlying9 t0
      obtain ⟨s1, e1, d1, _⟩ := DataW.trod_string Tryz.underlying9 t1
      obtain ⟨s2, e2, d2, _⟩ := DataW.trod_string Tryz.underlying9 t2
      obtain ⟨s3, e3, d3, _⟩ := DataW.trod_string Tryz.underlying9 t3
      subst d0 d1 d2 d3
      simp only [DataW.lit.injEq, Lit.string.injEq] at q0 q1 q2 q3
      have m : ∀ (s : ByteArray) (l : List UInt8), l = s.data.toList → s = ⟨l.toArray⟩ := by rintro ⟨⟨x⟩⟩ l rfl; rfl
      obtain rfl : c0 = .string s0 := by simpa using e0
      obtain rfl : c1 = .string s1 := by simpa using e1
      obtain rfl : c2 = .string s2 := by simpa using e2
      obtain rfl : c3 = .string s3 := by simpa using e3
      rw [m s0 _ q0, m s1 _ q1, m s2 _ q2, m s3 _ q3]
  have hmax : ∃ m, W.cell? ⟨2, 0, none⟩ = some (.int .i64 m) := Tryz.laysM145.s1_3 W hsh
  have hsz : 9 ≤ W.heap.size := by
    obtain ⟨t, p, h⟩ := hrng
    have := World.block_lt_of_cell? W _ h
    exact this
  exact { pow := hpow, maxlen := hmax, syn := hsyn, rng := hrng, k0 := hkin 0, k1 := hkin 1, k2 := hkin 2, k3 := hkin 3, size := hsz }

def bytesCellsOf (k : IntKind) (zs : List Int) : Array Value := (zs.map fun z => Value.int k z).toArray

/-- The witness: the settled world with two blocks more (the two errors' structs), the eight listed variables holding what their initialisers lay. -/
noncomputable def laidWorld (os : Os) : World :=
  let N := (World.settled Tryz.prog os).heap.size
  let w0 := World.holding Tryz.prog os ⟨#[.cells #[.string ⟨#[118, 97, 108, 117, 101, 32, 111, 117, 116, 32, 111, 102, 32, 114, 97, 110, 103, 101]⟩] 155, .cells #[.string ⟨#[105, 110, 118, 97, 108, 105, 100, 32, 115, 121, 110, 116, 97, 120]⟩] 155], #[], []⟩
  let put (h : Array Obj) (g : Nat) (cs : Array Value) : Array Obj := h.modify g fun
    | .cells _ t frozen => .cells cs t frozen
    | o => o
  let h0 := put (put w0.heap 8 #[.iface 153 (.pointer (some ⟨N, 0, none⟩))]) 7 #[.iface 153 (.pointer (some ⟨N + 1, 0, none⟩))]
  let h1 := put h0 3 (bytesCellsOf .u8 [0, 1, 28, 2, 29, 14, 24, 3, 30, 22, 20, 15, 25, 17, 4, 8, 31, 27, 13, 23, 21, 19, 16, 7, 26, 12, 18, 6, 11, 5, 10, 9])
  let h2 := put h1 4 (bytesCellsOf .u8 [0, 1, 56, 2, 57, 49, 28, 3, 61, 58, 42, 50, 38, 29, 17, 4, 62, 47, 59, 36, 45, 43, 51, 22, 53, 39, 33, 30, 24, 18, 12, 5, 63, 55, 48, 27, 60, 41, 37, 16, 46, 35, 44, 21, 52, 32, 23, 11, 54, 26, 40, 15, 34, 20, 31, 10, 25, 14, 19, 9, 13, 8, 7, 6])
  let h3 := put h2 1 (bytesCellsOf .u64 [1, 10, 100, 1000, 10000, 100000, 1000000, 10000000, 100000000, 1000000000, 10000000000, 100000000000, 1000000000000, 10000000000000, 100000000000000, 1000000000000000, 10000000000000000, 100000000000000000, 1000000000000000000, 10000000000000000000])
  let h4 := put h3 0 #[.string ⟨#[98, 97, 115, 105, 99]⟩, .string ⟨#[100, 111, 99, 116, 111, 114]⟩, .string ⟨#[99, 97, 114]⟩, .string ⟨#[97, 105, 114]⟩]
  let h5 := put h4 6 (bytesCellsOf .u8 ([128, 191, 160, 191, 128, 159, 144, 191, 128, 143] ++ List.replicate 22 0))
  let h6 := put h5 5 (bytesCellsOf .u8 (Go.Pinned.utf8FirstZ.map fun n : Nat => (n : Int)))
  { w0 with heap := h6 }

set_option maxRecDepth 1000000 in
theorem laid_met (os : Os) (args : Array Value) : laidMet Tryz.prog Rows.configValidateRow.laid ((laidWorld os).forCall (fun _ _ => 0) ⟨#[], args, []⟩).memory :=
  laidMet_of_run' 8 (by kernel_rfl) (by kernel_rfl)

end Go.Proofs.YtjklpikopgihgaaGreatDoor
