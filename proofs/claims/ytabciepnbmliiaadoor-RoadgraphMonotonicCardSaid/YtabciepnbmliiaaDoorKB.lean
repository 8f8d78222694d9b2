/- groups: walk. -/
import Derived.Test.YtabciepnbmliiaaDoorKA
set_option linter.unusedVariables false
set_option linter.unusedSimpArgs false
set_option maxRecDepth 100000
namespace Go.Proofs.YtabciepnbmliiaaDoor
open Go.RowKit Go.Lib Go.Shelf Rg
attribute [local go_sem] Oper.semAt_some

theorem Rws.snoc {w : World} {base : Nat} {rs : List Value} {ls : List (List Int)} {u : Value} {p : List Int} (h : Rws w base rs ls) (hO : OwnI w base u p) (ha : ∀ (j : Nat) (x : Value), rs[j]? = some x → Apart x u) : Rws w base (rs ++ [u]) (ls ++ [p]) := by
  have hl := h.len
  refine ⟨by simp [hl], fun j x r hx hr => ?_, fun i j a b hij hai hbj => ?_⟩
  · by_cases hj : j < rs.length
    · rw [List.getElem?_append_left hj] at hx
      rw [List.getElem?_append_left (by omega)] at hr
      exact h.el j x r hx hr
    · have hjl := (List.getElem?_eq_some_iff.1 hx).1
      rw [List.length_append, List.length_singleton] at hjl
      obtain rfl : j = rs.length := by omega
      rw [List.getElem?_append_right (by omega)] at hx
      rw [List.getElem?_append_right (by omega)] at hr
      simp [hl] at hx hr
      subst hx hr
      exact hO
  · have hil := (List.getElem?_eq_some_iff.1 hai).1
    have hjl := (List.getElem?_eq_some_iff.1 hbj).1
    rw [List.length_append, List.length_singleton] at hil hjl
    by_cases hi : i < rs.length
    · rw [List.getElem?_append_left hi] at hai
      by_cases hj : j < rs.length
      · rw [List.getElem?_append_left hj] at hbj
        exact h.ap i j a b hij hai hbj
      · obtain rfl : j = rs.length := by omega
        rw [List.getElem?_append_right (by omega)] at hbj
        simp at hbj; subst hbj
        exact ha i a hai
    · obtain rfl : i = rs.length := by omega
      rw [List.getElem?_append_right (by omega)] at hai
      simp at hai; subst hai
      rw [List.getElem?_append_left (by omega)] at hbj
      exact (ha j b hbj).symm
theorem far_row {w w2 : World} {base : Nat} {T0 T : TypeId} {k n : Nat} {v : Value} {xs : List Value} {g : Nat} {cs : Array Value} {q : Nat × Nat} (hO : w.ownsRow base T0 k v n xs) (hg : w.grownBy w2 v.ownBlock) (h : w.heap[g]? = some (.cells cs T q)) (hT : T ≠ T0) : w2.heap[g]? = some (.cells cs T q) :=
  (hg.block g (Array.getElem?_eq_some_iff.1 h).1 (fun e => by
    obtain ⟨cur, hcur⟩ := own_type hO e.symm
    rw [h] at hcur
    injection hcur with h0; injection h0 with _ h0; exact hT h0)).trans h

theorem run_clear {W : World} {b N c : Nat} {S : Int → Bool} {ty : TypeId} (hN : 0 < N) (hS : SeenAt W b N S) : (Builtin.clear_ #[75] ty #[.slice (some ⟨b, 0, none⟩) N c]).run Tryd.prog W = .ok (.tuple #[]) (W.setCells b 0 (List.replicate N (.bool false))) :=
  run_clear_slice (P := Tryd.prog) W 75 4 ty (.bool false) Tryd.underlying75 (fun w => by kernel_rfl) rfl rfl b 0 N c hN (fun j hj => by rw [Nat.zero_add, (hS j hj).1]; rfl) (fun j hj => by rw [Nat.zero_add]; exact (hS j hj).2)
/-- Between two rounds of the first search. -/
def Ph (N : Nat) (l : List Ed3) (base : Nat) (wA : World) (k : Nat) (v : Value) (W : World) : Prop :=
  OwnI W (base + 2) v (phase1 l N k).2 ∧ SeenAt W base N (phase1 l N k).1 ∧ Kept (fun b => b = base) (base + 2) wA W
/-- Between two rounds of the second search. -/
def GI (N base s7 : Nat) (X : Nat → Prop) (wl : World) (st : (Int → Bool) × List (List Int)) (W : World) : Prop :=
  ∃ vg us, Boxed W s7 62 vg ∧ OwnL W wl.heap.size vg us ∧ Rws W wl.heap.size us st.2 ∧ SeenAt W base N st.1 ∧ Kept X wl.heap.size wl W ∧ st.2.length + free N st.1 ≤ N
theorem GI_own {β : Type} (N base s7 : Nat) (X : Nat → Prop) (wl : World) (st : β → (Int → Bool) × List (List Int)) : OwnFrom wl.heap.size (fun p W => GI N base s7 X wl (st p) W) := by
  rintro s W W' row ⟨vg, us, h1, h2, h3, h4, h5, h6⟩ hg hr
  have hr' : ∀ r, row = some r → ∃ o : Obj, W.heap[r]? = some o ∧ o.isCells = false := fun r e => (hr r e).2
  exact ⟨vg, us, (same_cells hg hr' h1).trans h1, own_same hg hr' h2, h3.kept fun j u g hu hgv => by
    obtain ⟨_, cur, hc⟩ := h3.lt hu hgv
    exact same_cells hg hr' hc, h4.same hg hr', h5.grown hg h5.size (fun i hi hl => by have := (hr i hi).1; omega), h6⟩
/-- What groups gives. -/
def GroupsGive (w : World) (N : Nat) (l : List Ed3) (e : Ending) (w' : World) : Prop :=
  Below w.heap.size w w' ∧ ∃ vg us, e = .returned vg ∧ OwnL w' w.heap.size vg us ∧ Rws w' w.heap.size us (groups l N)

set_option maxHeartbeats 4000000 in
theorem groups_any (N : Nat) (l : List Ed3) (w : World) (lo hi G : Nat) (hG : GrP w lo hi G N l) (hhi : hi ≤ w.heap.size) :
    Calls Tryd.prog 48 #[.pointer (some ⟨G, 0, none⟩)] w (GroupsGive w N l) := by
  have hF := hG.fair
  have hN1 := hF.lo
  have hN2 := hF.hi
  obtain ⟨AE, cE, AO, cO, AI, cI, hd0, hd1, hd2, hRe, us0, is0, hRO, hRI⟩ := hG.head
  have hmk := fun W => run_make_bools W N (by omega)
  have bA : Below w.heap.size w ((w.alloc (.cells (madeCells #[.bool false] N) 4)).alloc (.cells #[.slice (some ⟨w.heap.size, 0, none⟩) N N] 75)) := ((Below.refl _ w).alloc (Nat.le_refl _) _).alloc (by simp) _
  have hd1A := cell_keep hd1 bA
  have hsA : SeenAt ((w.alloc (.cells (madeCells #[.bool false] N) 4)).alloc (.cells #[.slice (some ⟨w.heap.size, 0, none⟩) N N] 75)) w.heap.size N none_ := (seen_new w N).below (n₀ := w.heap.size + 1) ((Below.refl _ _).alloc (by simp) _) (by omega)
  have hxA : Boxed ((w.alloc (.cells (madeCells #[.bool false] N) 4)).alloc (.cells #[.slice (some ⟨w.heap.size, 0, none⟩) N N] 75)) (w.heap.size + 1) 75 (.slice (some ⟨w.heap.size, 0, none⟩) N N) := by have := Boxed.new (w.alloc (.cells (madeCells #[.bool false] N) 4)) 75 (.slice (some ⟨w.heap.size, 0, none⟩) N N); simpa using this
  have hzA : ((w.alloc (.cells (madeCells #[.bool false] N) 4)).alloc (.cells #[.slice (some ⟨w.heap.size, 0, none⟩) N N] 75)).heap.size = w.heap.size + 2 := by simp
  refine (callsIn_wide (n := 7)).1 ?_
  refine callsIn_of_wp_marks Tryd.func48 rfl trivial ?_ rfl
  simp only [Tryd.ntmps48, List.size_toArray, List.length_cons, List.length_nil, Nat.reduceAdd, Nat.reduceSub, Array.replicate_succ, Array.replicate_zero, List.push_toArray, List.append_toArray, List.nil_append, List.cons_append]
  have T := Lib.hid (And.intro hG (And.intro bA (And.intro hsA (And.intro hxA hzA))))
  clear hG hRe hRO hRI hd0 hd2 bA hsA hxA hzA
  gi_wp2_with (first
    | (refine ⟨trivial, ?_⟩; gi_at_call 14; refine (callsIn_wide.2 (nodes_any _ _ _ _ _ hd1)).mono ?_; rintro e w2 ⟨rfl, rfl⟩)
    | (refine ⟨trivial, ?_⟩; gi_at_call 14; refine (callsIn_wide.2 (nodes_any _ _ _ _ _ hd1A)).mono ?_; rintro e w2 ⟨rfl, rfl⟩))
  obtain ⟨hG, bA, hsA, hxA, hzA⟩ := T.out
  clear T hd1 hd1A hmk
  generalize ((w.alloc (.cells (madeCells #[.bool false] N) 4)).alloc (.cells #[.slice (some ⟨w.heap.size, 0, none⟩) N N] 75)) = wA at *
  have hGA : GrP wA lo hi G N l := hG.below (bA.mono hhi)
  have HA := Lib.hid (And.intro hGA (And.intro bA (And.intro hxA hzA)))
  have HS := Lib.hid hsA
  clear hG hGA bA hsA hxA hzA
  gi_loopw [3, 15] (fun v i W => ∃ k : Nat, i = .int .i64 k ∧ k ≤ N ∧ Hid (Ph N l w.heap.size wA k v W)) (fun _ i _ => N - (RowKit.intOf i).toNat)
  case atStart => exact ⟨0, rfl, by omega, OwnI.nil _ _, HS.out, Kept.refl _ _ _⟩
  case round =>
    obtain ⟨k, rfl, hk, hph⟩ := hrel
    clear HS
    by_cases hlt : k < N
    · have hkN : (k : Int) < (N : Int) := by omega
      obtain ⟨hO, hs, hkp⟩ := hph.out
      obtain ⟨hGA, bA, hxA, hzA⟩ := HA.out
      obtain ⟨Av, cv, rfl⟩ := hO.slice
      have hq : wr.cell? ⟨w.heap.size + 1, 0, none⟩ = some (.slice (some ⟨w.heap.size, 0, none⟩) N N) := hkp.cell hxA.cell (by show w.heap.size + 1 < _; omega) (by simp only; omega)
      have hsz := hkp.size
      obtain ⟨ho, _⟩ := phase1_out hF k hk
      have hfr := out_free ho
      have hfn := free_le N none_
      have hcall := visit_any N l hF N k (phase1 l N k).1 (phase1 l N k).2 wr lo hi G w.heap.size N (w.heap.size + 2) _ hlt (free_le _ _) (by omega) (hGA.kept hkp (by omega) (fun b h1 h2 => by omega)) (by omega) hs (by omega) (.inr hhi) hO (by omega) (fun b hb => by
        have := own_ge hO hb
        exact ⟨by omega, by omega⟩)
      rw [show ((phase1 l N k).1, (phase1 l N k).2) = phase1 l N k from rfl, ← phase1_succ] at hcall
      have HC := Lib.hid hcall
      have HO := Lib.hid (And.intro hO (And.intro hkp hsz))
      clear hO hs hkp hcall hGA bA hxA hzA hsz ho hfr hfn
      gi_wp2_with (refine ⟨trivial, ?_⟩; gi_at_call 44; refine (callsIn_wide.2 HC.out).mono ?_; rintro e w2 ⟨v2, rfl, hO2, hs2, hK2, hb2⟩; have H2 := Lib.hid (And.intro hO2 (And.intro hs2 (And.intro hK2 hb2))); clear hO2 hs2 hK2 hb2)
      go_roundw
      case rel =>
        obtain ⟨hO2, hs2, hK2, hb2⟩ := H2.out
        obtain ⟨hO, hkp, hsz⟩ := HO.out
        obtain ⟨hGA, bA, hxA, hzA⟩ := HA.out
        refine ⟨k + 1, by go_num, by omega, hO2, hs2, hkp.trans (hK2.mono (by omega) (fun b hb q => ?_))⟩
        rcases q with q | q
        · exact q
        · have := own_ge hO q; omega
      case measure => simp [RowKit.intOf]; omega
    · obtain rfl : k = N := by omega
      obtain ⟨hO, hs, hkp⟩ := hph.out
      obtain ⟨hGA, bA, hxA, hzA⟩ := HA.out
      obtain ⟨hp1, _⟩ := phase1_out hF k (Nat.le_refl _)
      have hLm : ∀ x ∈ (phase1 l k k).2, 0 ≤ x ∧ x < (k : Int) := hp1.node
      have hLl : (phase1 l k k).2.length ≤ k := nodup_few k _ hp1.nodup hp1.node
      have hgrN : groups l k = (grp l k (phase1 l k k).2.reverse).2 := rfl
      have hginv := groups_inv hF
      have hgl : (grp l k (phase1 l k k).2.reverse).1 = (grp l k (phase1 l k k).2.reverse).1 := rfl
      have HM := Lib.hid (And.intro hLm (And.intro hLl hgrN))
      clear hLm hLl hgrN hginv hgl hp1
      generalize (phase1 l k k).2 = L at *
      generalize (phase1 l k k).1 = S1 at *
      obtain ⟨Av, cv, rfl⟩ := hO.slice
      have hsz := hkp.size
      have hGr : GrP wr lo hi G k l := hGA.kept hkp (by omega) (fun b h1 h2 => by omega)
      have hBr : Below w.heap.size w wr := bA.trans (hkp.below (by omega) (fun b hb => by omega))
      have hxr : Boxed wr (w.heap.size + 1) 75 (.slice (some ⟨w.heap.size, 0, none⟩) k k) := hkp.at hxA (by omega) (fun h => by have : w.heap.size + 1 = w.heap.size := h; omega)
      have hrev := reverse_any k l wr lo hi G hGr (by omega)
      have HV := Lib.hid hrev; clear hrev
      have HB := Lib.hid (And.intro hO (And.intro hs (And.intro hBr (And.intro hxr (And.intro hsz hzA)))))
      clear hO hs hkp hGA bA hxA hGr hBr hxr hsz hzA HA
      have hk0 : 0 < k := by omega
      gi_wp2_with ((refine ⟨trivial, ?_⟩; gi_at_call 34; refine (callsIn_wide.2 HV.out).mono ?_; rintro e w2 ⟨b2, G2, rfl, hG2⟩; have H2 := Lib.hid (And.intro b2 hG2); clear b2 hG2; have hxa : Boxed (w2.alloc (.cells #[.pointer (some ⟨G2, 0, none⟩)] 26)) (w.heap.size + 1) 75 (.slice (some ⟨w.heap.size, 0, none⟩) k k) := Boxed.alloc ((H2.out.1.block _ HB.out.2.2.2.1.lt).trans HB.out.2.2.2.1) _; have hxc := hxa.cell; have hsa : SeenAt (w2.alloc (.cells #[.pointer (some ⟨G2, 0, none⟩)] 26)) w.heap.size k S1 := (HB.out.2.1.below H2.out.1 (by have := HB.out.2.2.2.2; omega)).below (n₀ := w2.heap.size) ((Below.refl _ _).alloc (Nat.le_refl _) _) (by have := HB.out.2.2.2.2; have := H2.out.1.size; omega); have HX := Lib.hid (And.intro hxa hsa); obtain ⟨W3, hW3⟩ : ∃ x, x = (w2.alloc (.cells #[.pointer (some ⟨G2, 0, none⟩)] 26)).setCells w.heap.size 0 (List.replicate k (.bool false)) := ⟨_, rfl⟩; have hclr := run_clear (c := k) (ty := 0) hk0 hsa; rw [← hW3] at hclr; have HW := Lib.hid hW3; clear hW3 hxa hsa))
      refine ⟨trivial, ?_⟩
      gi_at_call 56
      refine (callsIn_wide.2 (backward_any _ _ _ _)).mono ?_
      rintro e w4 ⟨rfl, rfl⟩
      gi_wp2_with fail
      obtain ⟨b2, hG2⟩ := H2.out
      obtain ⟨hO, hs, hBr, hxr, hsz, hzA⟩ := HB.out
      obtain ⟨hxa, hsa⟩ := HX.out
      have hb2s := b2.size
      have hgw := setCells_kept (List.replicate k (.bool false)) (w2.alloc (.cells #[.pointer (some ⟨G2, 0, none⟩)] 26)) w.heap.size 0
      have hs3 := hsa.cleared
      rw [← HW.out] at hgw hs3
      have hz3 : W3.heap.size = w2.heap.size + 1 := by rw [HW.out, setCells_size]; simp
      have b3 : Kept (fun b => b = w.heap.size) w2.heap.size w2 W3 := ((Kept.refl _ _ _).alloc (Nat.le_refl _) _).grown hgw (by simp) (fun i hi _ => by injection hi with hi; exact hi.symm)
      have hx6 : Boxed W3 w2.heap.size 26 (.pointer (some ⟨G2, 0, none⟩)) := (Boxed.new w2 26 _).kept hgw (by simp; omega)
      have hx1 : Boxed W3 (w.heap.size + 1) 75 (.slice (some ⟨w.heap.size, 0, none⟩) k k) := hxa.kept hgw (by simp)
      have hG3 : GrP W3 wr.heap.size w2.heap.size G2 k (back l) := hG2.kept b3 (Nat.le_refl _) (fun b h1 h2 => by omega)
      have hO2 : OwnI w2 (w.heap.size + 2) (.slice Av L.length cv) L := hO.to b2
      have hO3 : OwnI W3 (w.heap.size + 2) (.slice Av L.length cv) L := b3.own hO2 (fun g hg => ⟨own_lt hO2 hg, fun h => by have := own_ge hO2 hg; have : g = w.heap.size := h; omega⟩)
      have hB3 : Below w.heap.size w W3 := hBr.trans ((b2.mono hBr.size).trans (b3.below (by omega) (fun b hb h => by have : b = w.heap.size := h; omega)))
      have hz5 : ((W3.alloc (.cells #[.slice none 0 0] 62)).alloc (.cells #[.slice Av L.length cv] 42)).heap.size = w2.heap.size + 3 := by simp; omega
      have b5 : Below W3.heap.size W3 ((W3.alloc (.cells #[.slice none 0 0] 62)).alloc (.cells #[.slice Av L.length cv] 42)) := ((Below.refl _ _).alloc (Nat.le_refl _) _).alloc (by simp) _
      have hx7 : Boxed ((W3.alloc (.cells #[.slice none 0 0] 62)).alloc (.cells #[.slice Av L.length cv] 42)) W3.heap.size 62 (.slice none 0 0) := (Boxed.new W3 62 _).alloc _
      have hx8 : Boxed ((W3.alloc (.cells #[.slice none 0 0] 62)).alloc (.cells #[.slice Av L.length cv] 42)) (W3.heap.size + 1) 42 (.slice Av L.length cv) := by have := Boxed.new (W3.alloc (.cells #[.slice none 0 0] 62)) 42 (.slice Av L.length cv); simpa using this
      have hs5 := hs3.below b5 (by omega)
      have hx65 : Boxed ((W3.alloc (.cells #[.slice none 0 0] 62)).alloc (.cells #[.slice Av L.length cv] 42)) w2.heap.size 26 (.pointer (some ⟨G2, 0, none⟩)) := (hx6.alloc _).alloc _
      have hx15 : Boxed ((W3.alloc (.cells #[.slice none 0 0] 62)).alloc (.cells #[.slice Av L.length cv] 42)) (w.heap.size + 1) 75 (.slice (some ⟨w.heap.size, 0, none⟩) k k) := (hx1.alloc _).alloc _
      have hG5 := hG3.below (b5.mono (by omega))
      have hO5 := hO3.to b5
      have hB5 := hB3.trans (b5.mono hB3.size)
      clear H2 HB HX HW HV hs hBr hxr hxa hsa hs3 hgw b3 hx6 hx1 hG3 hO2 hO3 hB3 b5 hG2 b2 hO hclr
      generalize hwl : (W3.alloc (.cells #[.slice none 0 0] 62)).alloc (.cells #[.slice Av L.length cv] 42) = wl at *
      clear hwl
      generalize w2.heap.size = s6 at *
      generalize W3.heap.size = s7 at *
      subst hz3
      obtain ⟨st, hst⟩ : ∃ st : List {x : Int × Int // x.2 ∈ L} → (Int → Bool) × List (List Int), ∀ p, st p = grp l k (p.map (fun x => x.1.2)) := ⟨_, fun _ => rfl⟩
      have hst0 : st [] = (none_, []) := by rw [hst]; rfl
      have hst1 : ∀ p x, st (p ++ [x]) = gstep l k (st p) x.1.2 := fun p x => by rw [hst, hst, List.map_append]; exact grp_snoc l k _ _
      have HS := Lib.hid (And.intro hst (And.intro hst0 hst1))
      clear hst hst0 hst1
      have hLk := HM.out.2.1
      have hAv : ∀ ad, Av = some ad → 0 < L.length → ad.block < wl.heap.size ∧ ¬ (ad.block = w.heap.size ∨ ad.block = (s6 + 1)) := fun ad e h0 => by
        obtain ⟨g, cap, hv, h1, h2⟩ := World.ownsRow.form hO5 h0
        have hA : Av = some ⟨g, 0, none⟩ := by injection hv
        rw [e] at hA; injection hA with hA; subst hA
        refine ⟨h2, fun q => ?_⟩
        rcases q with q | q
        · simp only at q; omega
        · simp only at q
          have := hx7.not_row (by decide) hO5
          rw [e] at this
          exact this (by rw [q]; rfl)
      refine wpIn_rangeFunc_ownG rfl (by decide) (gf := 61) (lb := #[.pointer (some ⟨s6 + 1 + 1, 0, none⟩)]) rfl trivial (enters_of Tryd.func61 (by kernel_rfl) rfl)
        (backward_stops 6 (by omega) (fun b => b = w.heap.size ∨ b = (s6 + 1)) wl.heap.size (s6 + 1 + 1) cv Av L wl hx8.cell hO5.rd ⟨by omega, fun q => by rcases q with q | q <;> omega⟩ hAv (by omega)) keptK_t (keptK_b (Nat.le_refl _)) (Below.refl _ _) (fun _ => rfl)
        (fun (pre : List {x : Int × Int // x.2 ∈ L}) W => GI k w.heap.size (s6 + 1) (fun b => b = w.heap.size ∨ b = (s6 + 1)) wl (st pre) W)
        (fun _ _ _ => False)
        (GI_own k w.heap.size (s6 + 1) _ wl st)
        (fun _ _ _ _ _ hs _ _ => hs)
        ⟨_, [], hx7, OwnL.nil _ _, by rw [HS.out.2.1]; exact ⟨rfl, by simp, by simp⟩, by rw [HS.out.2.1]; exact hs5, Kept.refl _ _ _, by rw [HS.out.2.1]; show 0 + free k none_ ≤ k; have := free_le k none_; omega⟩
        (fun x => { tmps := #[.pointer (some ⟨G, 0, none⟩), undef, .slice none 0 0, .slice Av L.length cv, .pointer (some ⟨w.heap.size + 1, 0, none⟩), u5, .pointer (some ⟨s6, 0, none⟩), .pointer (some ⟨s6 + 1, 0, none⟩), undef, .int .i64 x.1.2, .pointer (some ⟨G, 0, none⟩), .int .i64 (k : Int), .slice (some ⟨w.heap.size, 0, none⟩) k k, .pointer (some ⟨G, 0, none⟩), .int .i64 (k : Int), .int .i64 (k : Int), .bool false, u17, u18, u19, u20, u21, u22, u23, .pointer (some ⟨G, 0, none⟩), .pointer (some ⟨G2, 0, none⟩), .slice (some ⟨w.heap.size, 0, none⟩) k k, .slice Av L.length cv, .func (.func 61) #[] #[.pointer (some ⟨s6 + 1 + 1, 0, none⟩)], .int .i64 x.1.1, .int .i64 x.1.2, undef, undef, undef, undef, undef, undef, undef, undef, undef, undef, undef, undef, undef], defers := [] }) ?assign ?body ?done ?stop
      case assign =>
        intro lp x W K hK
        gi_wp2
        exact hK
      case body =>
        rintro lp pre ⟨⟨xi, xv⟩, hx⟩ W ⟨vg, us, hbx, hvg, hrs, hsc, hKc, hlc⟩ hlt
        have hst1 := HS.out.2.2 pre ⟨(xi, xv), hx⟩
        dsimp only at hst1 hx ⊢
        have hxn := HM.out.1 xv hx
        obtain ⟨v, rfl⟩ : ∃ v : Nat, xv = (v : Int) := ⟨xv.toNat, by omega⟩
        have hvk : v < k := by omega
        have hvI : (v : Int) < (k : Int) := by omega
        have hKs := hKc.size
        have h1W : Boxed W (w.heap.size + 1) 75 (.slice (some ⟨w.heap.size, 0, none⟩) k k) := hKc.at hx15 (by omega) (fun q => by rcases q with q | q <;> omega)
        have h6W : Boxed W s6 26 (.pointer (some ⟨G2, 0, none⟩)) := hKc.at hx65 (by omega) (fun q => by rcases q with q | q <;> omega)
        have hGW : GrP W wr.heap.size s6 G2 k (back l) := hG5.kept hKc (by omega) (fun b h1 h2 q => by rcases q with q | q <;> omega)
        have hcW := bools_cell hsc hvk
        have hq := h1W.cell
        unfold gstep at hst1
        have HZ := Lib.hid (And.intro hz5 hb2s); clear hz5
        by_cases hS : (st pre).1 v = true
        · rw [if_pos hS] at hst1
          rw [hS] at hcW
          have T := Lib.hid (And.intro hbx (And.intro hvg (And.intro hrs (And.intro hsc (And.intro hKc (And.intro hlc hst1))))))
          clear hbx hvg hrs hsc hKc hlc hst1 h6W hGW h1W hxn hKs
          gi_wp2_with fail
          obtain ⟨hbx, hvg, hrs, hsc, hKc, hlc, hst1⟩ := T.out
          refine ⟨KeepsFrom.refl _ _, Kept.refl _ _ _, ?_⟩
          show GI k _ _ _ wl (st (pre ++ [⟨(xi, (v : Int)), hx⟩])) _
          rw [hst1]
          exact ⟨vg, us, hbx, hvg, hrs, hsc, hKc, hlc⟩
        · have hS : (st pre).1 v = false := by simpa using hS
          rw [if_neg (by rw [hS]; simp)] at hst1
          rw [hS] at hcW
          obtain ⟨hz5, _⟩ := HZ.out
          obtain ⟨Ag, cg, rfl⟩ := hvg.slice
          have hul : us.length = (st pre).2.length := hrs.len
          have hcall := visit_any k (back l) hF.back k v (st pre).1 [] W.drew wr.heap.size s6 G2 w.heap.size k wl.heap.size (.slice none 0 0) hvk (free_le _ _) (by have := free_le k (st pre).1; simp; omega) (hGW.below (Below.refl _ _).drew) (by show s6 ≤ W.heap.size; omega) hsc (by show w.heap.size < W.heap.size; omega) (by omega) (OwnI.nil _ _) (by show wl.heap.size ≤ W.heap.size; omega) (fun b hb => by cases hb)
          obtain ⟨M, S', hdf, hout, hvS, _⟩ := dfs_out hF.back k (v : Int) (st pre).1 [] ⟨by omega, by omega⟩ (free_le _ _)
          rw [List.nil_append] at hdf
          have hfr2 := out_free hout
          have hM1 : 1 ≤ M.length := by
            rcases (hout.seen _).1 hvS with q | q
            · rw [hS] at q; cases q
            · exact List.length_pos_of_mem q
          rw [hdf] at hcall hst1
          dsimp only at hst1
          have HC := Lib.hid hcall; clear hcall
          have T := Lib.hid (And.intro hbx (And.intro hvg (And.intro hrs (And.intro hsc (And.intro hKc (And.intro hlc hst1))))))
          have hcx := hbx.cell
          have hcl6 := h6W.cell
          have R := Lib.hid (And.intro h1W (And.intro h6W (And.intro hGW (And.intro hKs (And.intro hfr2 (And.intro hM1 (And.intro hul hout)))))))
          clear hbx hvg hrs hsc hKc hlc hst1 hdf hout hvS hxn hGW h1W h6W hKs hfr2 hM1 hul hz5
          gi_wp2_with fail
          obtain ⟨Qx, hQx⟩ : ∃ Qx : Act → World → Prop, ∀ a' w', Qx a' w' ↔ (KeepsFrom wl.heap.size W w' ∧ Kept (fun b => b = w.heap.size ∨ b = s6 + 1) wl.heap.size W w' ∧ GI k w.heap.size (s6 + 1) (fun b => b = w.heap.size ∨ b = s6 + 1) wl (st (pre ++ [⟨(xi, (v : Int)), hx⟩])) w') := ⟨_, fun _ _ => Iff.rfl⟩
          have HQ := Lib.hid hQx; clear hQx
          refine Code.wpIn_mono (Q := Exit.then Qx (fun _ _ _ => False)) ?_ ?_
          rotate_left
          · refine wpIn_region_T 7 (fun w' : World => w'.cell? ⟨s6 + 1, 0, none⟩ = some (.slice Ag us.length cg) ∧ w'.cell? ⟨s6, 0, none⟩ = some (.pointer (some ⟨G2, 0, none⟩)) ∧ w'.cell? ⟨w.heap.size + 1, 0, none⟩ = some (.slice (some ⟨w.heap.size, 0, none⟩) k k)) (by kernel_rfl) (by kernel_rfl) (fun ⟨_, _, h⟩ => h) ⟨hcx, hcl6, hq⟩ (fun hHeld => ?_)
            refine wpAnyT_take (i := 0) (v := ?_) rfl (by kernel_rfl) (by kernel_rfl) (by kernel_rfl) (by kernel_rfl) (by kernel_rfl) (fun _ _ _ h => h) (Or.inl ⟨by rfl, ?_⟩) (by assumption) ?_
            rotate_left
            · (intro w hSw; (try dsimp only at hSw); go_simp; try (with_reducible rfl))
            try simp only [Act.put, List.setIfInBounds_toArray, List.set_cons_zero, List.set_cons_succ]
            refine wpAnyT_take (i := 1) (v := ?_) rfl (by kernel_rfl) (by kernel_rfl) (by kernel_rfl) (by kernel_rfl) (by kernel_rfl) (fun _ _ _ h => h) (Or.inl ⟨by rfl, ?_⟩) (by assumption) ?_
            rotate_left
            · (intro w hSw; (try dsimp only at hSw); go_simp; try (with_reducible rfl))
            try simp only [Act.put, List.setIfInBounds_toArray, List.set_cons_zero, List.set_cons_succ]
            refine wpAnyT_take (i := 2) (v := ?_) rfl (by kernel_rfl) (by kernel_rfl) (by kernel_rfl) (by kernel_rfl) (by kernel_rfl) (fun _ _ _ h => h) (Or.inl ⟨by rfl, ?_⟩) (by assumption) ?_
            rotate_left
            · (intro w hSw; (try dsimp only at hSw); go_simp; try (with_reducible rfl))
            try simp only [Act.put, List.setIfInBounds_toArray, List.set_cons_zero, List.set_cons_succ]
            refine wpAnyT_take (i := 3) (v := ?_) rfl (by kernel_rfl) (by kernel_rfl) (by kernel_rfl) (by kernel_rfl) (by kernel_rfl) (fun _ _ _ h => h) (Or.inl ⟨by rfl, ?_⟩) (by assumption) ?_
            rotate_left
            · (intro w hSw; (try dsimp only at hSw); go_simp; try (with_reducible rfl))
            try simp only [Act.put, List.setIfInBounds_toArray, List.set_cons_zero, List.set_cons_succ]
            refine wpAnyT_one (i := 4) (by kernel_rfl) rfl (fun K hK => ?_)
            go_simp
            go_at_call 44
            refine HC.out.mono ?_
            rintro e w2 ⟨v2, rfl, hO2, hs2, hK2, hb2'⟩
            obtain ⟨A2, c2, rfl⟩ := hO2.slice
            obtain ⟨hbx, hvg, hrs, hsc, hKc, hlc, hst1⟩ := T.out
            obtain ⟨h1W, h6W, hGW, hKs, hfr2, hM1, hul, hout⟩ := R.out
            obtain ⟨hz5, _⟩ := HZ.out
            have hK2 : Kept (XV w.heap.size (.slice none 0 0)) W.heap.size W w2 := Kept.trans (n₀ := W.heap.size) ((Kept.refl _ _ W).drew) hK2
            have HUL := Lib.hid hul; clear hul
            have hnX : ∀ b, w.heap.size < b → ¬ XV w.heap.size (.slice none 0 0) b := fun b hb q => by
              rcases q with q | q
              · omega
              · cases q
            have hx2 : Boxed w2 (s6 + 1) 62 (.slice Ag us.length cg) := hK2.at hbx hbx.lt (hnX _ (by omega))
            have h62 : Boxed w2 s6 26 (.pointer (some ⟨G2, 0, none⟩)) := hK2.at h6W h6W.lt (hnX _ (by omega))
            have h12 : Boxed w2 (w.heap.size + 1) 75 (.slice (some ⟨w.heap.size, 0, none⟩) k k) := hK2.at h1W h1W.lt (hnX _ (by omega))
            have hvg2 : OwnL w2 wl.heap.size (.slice Ag us.length cg) us := hK2.own hvg (fun g hg => ⟨own_lt hvg hg, hnX _ (by have := own_ge hvg hg; omega)⟩)
            have hrs2 : Rws w2 wl.heap.size us (st pre).2 := hrs.kept (fun j u g hu hg => by
              obtain ⟨h1, cur, hc⟩ := hrs.lt hu hg
              exact hK2.block g (Array.getElem?_eq_some_iff.1 hc).1 (hnX _ (by omega)))
            have hHeld2 : (fun w' : World => w'.cell? ⟨s6 + 1, 0, none⟩ = some (.slice Ag us.length cg) ∧ w'.cell? ⟨s6, 0, none⟩ = some (.pointer (some ⟨G2, 0, none⟩)) ∧ w'.cell? ⟨w.heap.size + 1, 0, none⟩ = some (.slice (some ⟨w.heap.size, 0, none⟩) k k)) w2 := ⟨hx2.cell, h62.cell, h12.cell⟩
            refine hK.out _ _ (fun _ => hHeld2) ?_
            clear hK K
            try simp only [Act.put, List.setIfInBounds_toArray, List.set_cons_zero, List.set_cons_succ]
            refine wpAnyT_one (i := 5) (by kernel_rfl) rfl (fun K hK => ?_)
            go_simp
            have hHeld3 : (fun w' : World => w'.cell? ⟨s6 + 1, 0, none⟩ = some (.slice Ag us.length cg) ∧ w'.cell? ⟨s6, 0, none⟩ = some (.pointer (some ⟨G2, 0, none⟩)) ∧ w'.cell? ⟨w.heap.size + 1, 0, none⟩ = some (.slice (some ⟨w.heap.size, 0, none⟩) k k)) (w2.alloc (.cells #[.slice A2 M.length c2] 42)) := ⟨(hx2.alloc _).cell, (h62.alloc _).cell, (h12.alloc _).cell⟩
            refine hK.out _ _ (fun _ => hHeld3) ?_
            clear hK K
            try simp only [Act.put, List.setIfInBounds_toArray, List.set_cons_zero, List.set_cons_succ]
            refine wpAnyT_one (i := 6) (by kernel_rfl) rfl (fun K hK => ?_)
            have hws := hK2.size
            have hvga : (w2.alloc (.cells #[.slice A2 M.length c2] 42)).ownsRow wl.heap.size 42 1 (.slice Ag us.length cg) us.length us := World.ownsRow.alloc hvg2 _
            refine step_append1 (by rfl) _ _ 62 42 (by rfl) 1 24 (.slice none 0 0) Tryd.underlying62 info_ints rfl (by decide) (by decide) wl.heap.size (.slice Ag us.length cg) us.length us (by rfl) hvga w2.heap.size (by rfl) [.slice A2 M.length c2] rfl (row_new w2 42 [.slice A2 M.length c2]) hO2.one (by have := HUL.out; omega) (by simp; omega) ?_
            intro v3 w3 hO3 hg3 hn3
            obtain ⟨A3, c3, rfl⟩ := own_form hO3
            have hx3 : Boxed w3 (s6 + 1) 62 (.slice Ag us.length cg) := far_row hvga hg3 (hx2.alloc _) (by decide)
            have h63 : Boxed w3 s6 26 (.pointer (some ⟨G2, 0, none⟩)) := far_row hvga hg3 (h62.alloc _) (by decide)
            have h13 : Boxed w3 (w.heap.size + 1) 75 (.slice (some ⟨w.heap.size, 0, none⟩) k k) := far_row hvga hg3 (h12.alloc _) (by decide)
            have hHeld4 : (fun w' : World => w'.cell? ⟨s6 + 1, 0, none⟩ = some (.slice Ag us.length cg) ∧ w'.cell? ⟨s6, 0, none⟩ = some (.pointer (some ⟨G2, 0, none⟩)) ∧ w'.cell? ⟨w.heap.size + 1, 0, none⟩ = some (.slice (some ⟨w.heap.size, 0, none⟩) k k)) w3 := ⟨hx3.cell, h63.cell, h13.cell⟩
            have k0 := hx3.cell
            have k1 := hx3.frozen
            refine hK.out _ _ (fun _ => hHeld4) ?_
            clear hK K
            try simp only [Act.put, List.setIfInBounds_toArray, List.set_cons_zero, List.set_cons_succ]
            refine wpAnyT_one (i := 7) (by kernel_rfl) rfl (fun K hK => ?_)
            go_simp
            refine hK.out _ _ (fun h => absurd rfl h) ?_
            clear hK K
            refine wpAnyT_done (by kernel_rfl) ?_ _
            refine (HQ.out _ _).2 ?_
            have kW : Kept (fun b => b = w.heap.size ∨ (Value.slice Ag us.length cg).ownBlock = some b ∨ b = s6 + 1) W.heap.size W (w3.setCell ⟨s6 + 1, 0, none⟩ (.slice A3 (us.length + 1) c3)) := by
              refine Kept.setCell (((hK2.mono (Nat.le_refl _) (fun b hb q => ?_)).alloc hws _).grown hg3 (by simp; omega) (fun i hi _ => .inr (.inl hi))) (p := ⟨s6 + 1, 0, none⟩) (fun _ => .inr (.inr rfl)) _
              rcases q with q | q
              · exact .inl q
              · cases q
            have kX : Kept (fun b => b = w.heap.size ∨ b = s6 + 1) wl.heap.size W (w3.setCell ⟨s6 + 1, 0, none⟩ (.slice A3 (us.length + 1) c3)) := kW.mono hKs (fun b hb q => by
              rcases q with q | q | q
              · exact .inl q
              · have := own_ge hvg q; omega
              · exact .inr q)
            have R1 : Rws (w2.alloc (.cells #[.slice A2 M.length c2] 42)) wl.heap.size us (st pre).2 := hrs2.kept (fun j u g hu hg => by
              obtain ⟨_, cur, hc⟩ := hrs2.lt hu hg
              exact Below.heap_alloc _ _ _ (Array.getElem?_eq_some_iff.1 hc).1)
            have R2 := R1.snoc (World.ownsRow.alloc hO2 _) (fun j x hx g h1 h2 => by
              obtain ⟨_, cur, hc⟩ := hrs.lt hx h1
              have hlt := (Array.getElem?_eq_some_iff.1 hc).1
              rcases hb2' g h2 with q | q
              · cases q
              · have : W.heap.size ≤ g := q
                omega)
            have R3 : Rws w3 wl.heap.size (us ++ [.slice A2 M.length c2]) ((st pre).2 ++ [M]) := R2.kept (fun j u g hu hg => by
              obtain ⟨_, cur, hc⟩ := R2.lt hu hg
              exact (far_row hvga hg3 hc (by decide)).trans hc.symm)
            have R4 : Rws (w3.setCell ⟨s6 + 1, 0, none⟩ (.slice A3 (us.length + 1) c3)) wl.heap.size (us ++ [.slice A2 M.length c2]) ((st pre).2 ++ [M]) := R3.kept (fun j u g hu hg => Below.heap_setCell _ _ _ _ (fun e => by
              obtain ⟨_, cur, hc⟩ := R3.lt hu hg
              rw [show g = s6 + 1 from e] at hc
              have h0 : w3.heap[s6 + 1]? = some (.cells #[.slice Ag us.length cg] 62 (0, 0)) := hx3
              rw [h0] at hc
              injection hc with hc; injection hc with _ hc; exact absurd hc (by decide)))
            refine ⟨kW.keepsFrom rfl ?_, kX, ?_⟩
            · rintro b (rfl | q | rfl) o ho
              · exact cells_of_cell (hsc v hvk).1 o ho
              · obtain ⟨cur, hcur⟩ := own_type hvg q
                rw [hcur] at ho; cases ho; rfl
              · rw [hbx] at ho; cases ho; rfl
            · rw [hst1]
              refine ⟨.slice A3 (us.length + 1) c3, us ++ [.slice A2 M.length c2], hx3.set _, ?_, R4, ?_, hKc.trans kX, ?_⟩
              · unfold OwnL
                rw [List.length_append]
                exact own_kept hO3 (fun g hg => Below.heap_setCell _ _ _ _ (fun e => by
                  obtain ⟨cur, hc⟩ := own_type hO3 hg
                  rw [show g = s6 + 1 from e] at hc
                  have h0 : w3.heap[s6 + 1]? = some (.cells #[.slice Ag us.length cg] 62 (0, 0)) := hx3
                  rw [h0] at hc
                  injection hc with hc; injection hc with _ hc; exact absurd hc (by decide)))
              · refine (hs2.to ?_).to (Below.heap_setCell _ _ _ _ (by simp only; omega))
                refine (hg3.block _ (by simp; omega) (fun e => ?_)).trans (Below.heap_alloc _ _ _ (by omega))
                have := own_ge hvg (g := w.heap.size) e.symm
                omega
              · simp only [List.length_append, List.length_singleton]
                omega
          · intro ex a' W2 hq2
            have hex : ex = .normal := by cases ex <;> first | rfl | exact (hq2 : False).elim
            subst hex
            exact (HQ.out _ _).1 hq2
      case done =>
        rintro D ys W hD hys ⟨vg, us, hbx, hvg, hrs, hsc, hKc, hlc⟩ hK
        have hcx := hbx.cell
        have hgr : groups l k = (st ys).2 := by rw [HM.out.2.2, HS.out.1 ys, hys]
        obtain ⟨Ag, cg, rfl⟩ := hvg.slice
        have hBW : Below w.heap.size w W := hB5.trans (hKc.below (by omega) (fun b hb q => by rcases q with q | q <;> omega))
        have T := Lib.hid (And.intro hvg (And.intro hrs (And.intro hgr (And.intro hBW hz5))))
        clear hvg hrs hsc hKc hlc hgr hBW hys hz5
        gi_wp2
        obtain ⟨hvg, hrs, hgr, hBW, hz5⟩ := T.out
        refine ⟨by simp, .inl ⟨_, _, rfl, run_takeDeferred hK, ?_⟩⟩
        refine ⟨_, results_tmp rfl _ _ _, ?_⟩
        refine ⟨hBW.trans (belowK_b (w := w) (Nat.le_refl _) W D _ _ (by omega) hK rfl rfl), _, us, rfl, own_mono (ownsRow_putObj hvg _ hK rfl) (by omega), ?_⟩
        rw [hgr]
        exact ⟨hrs.len, fun j u p hu hp => own_mono (ownsRow_putObj (hrs.el j u p hu hp) _ hK rfl) (by omega), hrs.ap⟩
      case stop =>
        rintro D c pre W _ _ h _
        exact h.elim
end Go.Proofs.YtabciepnbmliiaaDoor
