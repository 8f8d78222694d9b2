/- Lists of numbers and of texts in memory. -/
import Derived.Test.YtkdabnhhjjmibaaV2
namespace Go.Proofs.Ytkdabnhhjjmibaa
open Go.RowKit Go.Lib Hp

def RdN (w : World) (A : Option Addr) (l : List Int) : Prop :=
  (0 < l.length → ∃ ad, A = some ad ∧ ad.block < w.heap.size ∧ ∀ (i : Nat) (z : Int), l[i]? = some z → w.cell? (ad.add i) = some (.int .i64 z)) ∧ ∀ z ∈ l, Fits z
theorem RdN.below {w w' : World} {A : Option Addr} {l : List Int} (h : RdN w A l) (hb : Below w.heap.size w w') : RdN w' A l :=
  ⟨fun hn => by
    obtain ⟨ad, e, hl, hc⟩ := h.1 hn
    exact ⟨ad, e, Nat.lt_of_lt_of_le hl hb.size, fun i z hz => cell_keep (hc i z hz) hb⟩, h.2⟩
def RdT (w : World) (A : Option Addr) (l : List (List UInt8)) : Prop :=
  (0 < l.length → ∃ ad, A = some ad ∧ ad.block < w.heap.size ∧ ∀ (i : Nat) (z : List UInt8), l[i]? = some z → w.cell? (ad.add i) = some (.string ⟨z.toArray⟩)) ∧ ∀ z ∈ l, z.length ≤ maxLen
theorem RdT.below {w w' : World} {A : Option Addr} {l : List (List UInt8)} (h : RdT w A l) (hb : Below w.heap.size w w') : RdT w' A l :=
  ⟨fun hn => by
    obtain ⟨ad, e, hl, hc⟩ := h.1 hn
    exact ⟨ad, e, Nat.lt_of_lt_of_le hl hb.size, fun i z hz => cell_keep (hc i z hz) hb⟩, h.2⟩
end Go.Proofs.Ytkdabnhhjjmibaa
