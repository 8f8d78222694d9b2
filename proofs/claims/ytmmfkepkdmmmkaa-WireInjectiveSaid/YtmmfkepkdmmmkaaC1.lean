/- THE CODE's contracts, as the laws use them. -/
import Derived.Test.YtmmfkepkdmmmkaaK6
set_option linter.unusedVariables false
namespace Go.Proofs.Ytmmfkepkdmmmkaa
open Go.RowKit Go.Lib Wr

theorem pint_any (g B : Nat) (l : Bs) (n : Int) (w : World) (H : WrP w g B l) (hn : I64 n) (hl : l.length ≤ 100000) : Calls Try.prog 23 #[.pointer (some ⟨g, 0, none⟩), .int .i64 n] w fun r w' => (∃ u, r = .returned u) ∧ WrP w' g B (l ++ Wr.int n) ∧ Below B w w' :=
  (pint_n g B _ _ l n w H.n0 hn (by omega)).mono fun _ _ h => ⟨h.1, h.2.1.p, h.2.2.1⟩
theorem pbool_any (g B : Nat) (l : Bs) (b : Bool) (w : World) (H : WrP w g B l) (hl : l.length ≤ 100000) : Calls Try.prog 24 #[.pointer (some ⟨g, 0, none⟩), .bool b] w fun r w' => (∃ u, r = .returned u) ∧ WrP w' g B (l ++ [if b then 1 else 0]) ∧ Below B w w' :=
  (pbool_n g B _ _ l b w H.n0 hl).mono fun _ _ h => ⟨h.1, h.2.1.p, h.2.2.1⟩
theorem pstring_any (g B : Nat) (l : Bs) (d : Bs) (w : World) (H : WrP w g B l) (hd : d.length ≤ 100000) (hl : l.length ≤ 100000) : Calls Try.prog 25 #[.pointer (some ⟨g, 0, none⟩), .string ⟨d.toArray⟩] w fun r w' => (∃ u, r = .returned u) ∧ WrP w' g B (l ++ (Wr.int d.length ++ d)) ∧ Below B w w' :=
  (pstring_n g B _ _ l d w H.n0 hd hl).mono fun _ _ h => ⟨h.1, h.2.1.p, h.2.2.1⟩
/-- What is written was made after the Writer. -/
theorem pbytes_any (g B : Nat) (l : Bs) (v : Value) (d : Bs) (w0 w : World) (H : WrP w0 g B l) (hb : Below w0.heap.size w0 w) (hv : RB w v d) (hvb : ∀ ad n c, v = .slice (some ad) n c → 0 < c → w0.heap.size ≤ ad.block) (hd : d.length ≤ 100000) (hl : l.length ≤ 100000) : Calls Try.prog 36 #[.pointer (some ⟨g, 0, none⟩), v] w fun r w' => (∃ u, r = .returned u) ∧ WrP w' g B (l ++ (Wr.int d.length ++ d)) ∧ Below B w w' :=
  (pbytes_n g B _ _ l v d w (H.n hb) hv hd hl (fun ad n c e h0 => ⟨hvb ad n c e h0, by
    rcases hv with ⟨e2, _⟩ | ⟨ad', c', e2, _, h3, _⟩
    · rw [e2] at e; cases e
    · rw [e2] at e; injection e with e3 e4 e5; injection e3 with e3; subst e3 e5; exact h3 h0⟩)).mono fun _ _ h => ⟨h.1, h.2.1.p, h.2.2.1⟩
theorem pints_any (g B : Nat) (l : Bs) (v : Value) (m : List Int) (w0 w : World) (base : Nat) (H : WrP w0 g B l) (hb : Below w0.heap.size w0 w) (hv : OwnN w base v m) (hbase : w0.heap.size ≤ base) (hm : m.length ≤ 10000) (h64 : ∀ x ∈ m, I64 x) (hl : l.length ≤ 100000) : Calls Try.prog 26 #[.pointer (some ⟨g, 0, none⟩), v] w fun r w' => (∃ u, r = .returned u) ∧ WrP w' g B (l ++ (Wr.int m.length ++ Wr.ints m)) ∧ Below B w w' :=
  (pints_n g B _ _ l v m w (H.n hb) hv.rn hm h64 hl (fun ad n c e => by
    have := World.ownsRow.lt hv ad.block (by rw [e]; rfl)
    exact ⟨by omega, this.2⟩)).mono fun _ _ h => ⟨h.1, h.2.1.p, h.2.2.1⟩
end Go.Proofs.Ytmmfkepkdmmmkaa
