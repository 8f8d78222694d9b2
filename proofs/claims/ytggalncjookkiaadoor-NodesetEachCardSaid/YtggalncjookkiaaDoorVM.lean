/- A loop of at most N rounds by a relation on the frame and the world, inside a fence; a return that runs several marks. -/
import Derived.Test.YtggalncjookkiaaDoorVC
import Derived.RangeFuncBox
import Derived.RangeFuncWrites
namespace Go.Proofs.YtggalncjookkiaaDoor
open Go.RowKit Go.Lib Nds

/-- R k: what holds when k rounds are over; it never holds of N. -/
theorem wpIn_loop_rel {F : Fence} {n : Nat} {P : Program} {Q : Exit → Act → World → Prop} {a : Act} {w : World} {c : Code} (N : Nat) (R : Nat → Act → World → Prop) (h0 : R 0 a w) (hN : ∀ a w, ¬ R N a w)
    (hstep : ∀ k a w, R k a w → c.wpIn F n P (Exit.then (R (k + 1)) Q) a w) : (Code.loop c).wpIn F n P Q a w := by
  have key : ∀ m k a w, k + m = N → R k a w → Code.roundsIn F n P c Q m a w := by
    intro m
    induction m with
    | zero => intro k a w hk hR; exact (hN a w (by rw [← hk]; exact hR)).elim
    | succ m ih =>
      intro k a w hk hR
      rw [roundsIn_succ]
      refine Go.wpIn_mono (hstep k a w hR) ?_
      intro e a' w' h
      cases e <;> first | exact h | exact ih (k + 1) a' w' (by omega) h
  exact wpIn_loop_rounds N (key N 0 a w (by omega) h0)

/-- The marks of the ranges that a frame has been through. -/
def marks (Dl : List Nat) : List Deferred := Dl.map fun D => { target := .collected D, args := #[] }
structure MarksOk (base : Nat) (W : World) (Dl : List Nat) : Prop where
  nodup : Dl.Nodup
  lies : ∀ D ∈ Dl, base ≤ D ∧ W.heap[D]? = some (.deferred (some []))

theorem MarksOk.nil (base : Nat) (W : World) : MarksOk base W [] := ⟨List.nodup_nil, fun _ h => by cases h⟩
theorem MarksOk.below {base : Nat} {W W' : World} {Dl : List Nat} (h : MarksOk base W Dl) (hb : Below W.heap.size W W') : MarksOk base W' Dl :=
  ⟨h.nodup, fun D hD => ⟨(h.lies D hD).1, (hb.block D (Array.getElem?_eq_some_iff.1 (h.lies D hD).2).1).trans (h.lies D hD).2⟩⟩
theorem MarksOk.cons {base D : Nat} {W W' : World} {Dl : List Nat} (h : MarksOk base W Dl) (hb : Below W.heap.size W W') (hD : W.heap.size ≤ D) (hB : base ≤ W.heap.size) (hK : W'.heap[D]? = some (.deferred (some []))) : MarksOk base W' (D :: Dl) := by
  have h2 := h.below hb
  refine ⟨List.nodup_cons.2 ⟨fun hin => ?_, h.nodup⟩, fun E hE => ?_⟩
  · have := (Array.getElem?_eq_some_iff.1 (h.lies D hin).2).1; omega
  · rcases List.mem_cons.1 hE with rfl | hE
    · exact ⟨by omega, hK⟩
    · exact h2.lies E hE

theorem leaves_marks {F : Fence} {n : Nat} {P : Program} {fn : Func} {tmps : Array Value} {R : Ending → World → Prop} {base : Nat} (w0 : World) (hw : base ≤ w0.heap.size)
    (hend : ∀ W, Below base w0 W → LeavesIn F n P fn tmps R [] .returning W) : ∀ (Dl : List Nat) (W : World), MarksOk base W Dl → Below base w0 W → LeavesInM F n P fn tmps R (marks Dl) .returning W
  | [], W, _, hb => hend W hb
  | D :: Dl, W, h, hb => by
    have hD := h.lies D (by simp)
    have hn := List.nodup_cons.1 h.nodup
    have hlt := (Array.getElem?_eq_some_iff.1 hD.2).1
    refine ⟨by simp, .inl ⟨D, _, rfl, run_takeDeferred hD.2, ?_⟩⟩
    refine leaves_marks w0 hw hend Dl _ ⟨hn.2, fun E hE => ?_⟩ ?_
    · have hE' := h.lies E (by simp [hE])
      refine ⟨hE'.1, ?_⟩
      have hne : D ≠ E := fun e => hn.1 (e ▸ hE)
      have : (W.putObj D (.deferred none)).heap[E]? = W.heap[E]? := by
        simp only [World.putObj]
        rw [Array.getElem?_setIfInBounds_ne hne]
      rw [this]; exact hE'.2
    · exact hb.trans ((Below.refl base W).grown (grownBy_putObj' W D (.deferred none)) (by omega) (fun k e => by cases e; exact hD.1))

end Go.Proofs.YtggalncjookkiaaDoor
