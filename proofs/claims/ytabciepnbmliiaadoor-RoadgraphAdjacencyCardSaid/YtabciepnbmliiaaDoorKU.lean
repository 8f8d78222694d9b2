/- A node's edges as take gathers them; the reference's Out with its room. -/
import Derived.Test.YtabciepnbmliiaaDoorKT
import Derived.Test.YtabciepnbmliiaaDoorK5
import Derived.Test.YtabciepnbmliiaaDoorW4
set_option linter.unusedVariables false
set_option linter.unusedSimpArgs false
set_option maxRecDepth 100000
namespace Go.Proofs.YtabciepnbmliiaaDoor
open Go.RowKit Go.Lib Go.Shelf Rg

theorem rout_own (A : Option Addr) (c n : Nat) (l : List Ed3) (node : Int) (w : World) (hr : Re w A n l) (hn : n ≤ 100000) :
    Calls Tryd.prog 19 #[.slice A n c, .int .i64 node] w (GivesO w (outs l node)) := by
  have hl1 : n ≤ l.length := Nat.le_of_eq hr.1
  have hl2 : l.length ≤ n := Nat.le_of_eq hr.1.symm
  have hfin := Lib.hid (show outsTo l node n = outs l node from by unfold outs; rw [hr.1])
  go_enter Tryd.func19, Tryd.ntmps19
  go_wp2
  go_loopw [5, 6] (fun v i w' => ∃ k : Nat, i = .int .i64 k ∧ k ≤ n ∧ OwnI w' w.heap.size v (outsTo l node k) ∧ Below w.heap.size w w') (fun _ i _ => n - (RowKit.intOf i).toNat)
  case atStart => exact ⟨0, rfl, by omega, OwnI.nil _ _, Below.refl _ _⟩
  case round =>
    obtain ⟨k, rfl, hk, hown, hb⟩ := hrel
    have hz := hb.size
    by_cases hlt : k < n
    · obtain ⟨ad, rfl, hc, _, _⟩ := (hr.below hb).at_ hlt
      have hs := Lib.hid (outsTo_succ l node k)
      have hlen := outsTo_length l node k
      generalize l.getD k (0, 0, 0) = x at hc hs
      obtain ⟨x0, x1, x2⟩ := x
      generalize outsTo l node k = L at hown hs hlen
      by_cases hx : x0 = node
      · subst hx
        have HS : Hid (outsTo l x0 (k + 1) = L ++ [(k : Int)]) := Lib.hid (by rw [hs.out, if_pos rfl])
        clear hr hs
        go_wp2_with (at_builtin; refine wpList_push _ _ w.heap.size _ _ _ rfl rfl rfl rfl hown (by omega) (by omega) ?_; intro v2 w2 hown2 hb2)
        go_roundw
        case rel => exact ⟨k + 1, by go_num, by omega, by rw [HS.out]; exact hown2, hb.trans hb2⟩
        case measure => simp [RowKit.intOf]; omega
      · have hxb : (x0 == node) = false := by simpa using hx
        have HS : Hid (outsTo l node (k + 1) = L) := Lib.hid (by rw [hs.out, if_neg hx])
        clear hr hs
        go_wp2
        go_roundw
        case rel => exact ⟨k + 1, by go_num, by omega, by rw [HS.out]; exact hown, hb⟩
        case measure => simp [RowKit.intOf]; omega
    · obtain rfl : k = n := by omega
      clear hr
      go_wp2
      go_ret
      rw [hfin.out] at hown
      exact ⟨_, rfl, hown, hb⟩


theorem OwnI.cap {w : World} {base c n : Nat} {A : Option Addr} {xs : List Int} (h : OwnI w base (.slice A n c) xs) : n = xs.length ∧ xs.length ≤ c := by
  rcases h.2 with ⟨h1, h2⟩ | ⟨g, cap, cur, hv, _, _, hnc, hcm, _⟩
  · injection h1 with _ h4 h3
    omega
  · injection hv with _ h4 h3
    omega
theorem outs_few (l : List Ed3) (node : Int) : (outs l node).length ≤ l.length := by
  unfold outs outsTo
  rw [List.length_map]
  have := List.length_filter_le (fun i => decide ((l.getD i (0, 0, 0)).1 = node)) (List.range l.length)
  rw [List.length_range] at this
  exact this
theorem outs_none {N : Nat} {l : List Ed3} (h : FairR N l) {node : Int} (hn : ¬ (0 ≤ node ∧ node < N)) : outs l node = [] := by
  rw [List.eq_nil_iff_forall_not_mem]
  intro i hi
  obtain ⟨j, rfl, h1, h2⟩ := mem_outs.1 hi
  have := h.ends (l.getD j (0, 0, 0)) (getD_mem_e l j h1)
  rw [h2] at this
  exact hn ⟨this.1, this.2.1⟩

/-- The closure over the boxes b1, b2 hands the numbers zs on, to take. -/
def SeqOk (w : World) (b1 b2 : Nat) (zs : List Int) : Prop := b1 < w.heap.size ∧ b2 < w.heap.size ∧ ∀ (most : Int) (w' : World), 1 ≤ most → Below w.heap.size w w' → TakeSt w' (w.heap.size + 2) (w.heap.size + 1) w.heap.size most [] → w.heap.size + 2 ≤ w'.heap.size →
  Calls Tryd.prog 53 #[.func (.func 41) #[] #[.pointer (some ⟨w.heap.size + 1, 0, none⟩), .pointer (some ⟨w.heap.size, 0, none⟩)], .pointer (some ⟨b1, 0, none⟩), .pointer (some ⟨b2, 0, none⟩)] w' fun e w2 => (∃ v, e = .returned v) ∧ TakeSt w2 (w.heap.size + 2) (w.heap.size + 1) w.heap.size most (zs.take most.toNat) ∧ Kept (fun k => k = w.heap.size + 1) (w.heap.size + 2) w' w2
theorem seqOk_of {w : World} {lo hi N AO c : Nat} {f : Nat → List Int} {us : List Value} (h : RwP w lo hi (.slice (some ⟨AO, 0, none⟩) N c) N f us) (hhi : hi ≤ w.heap.size) (node : Int) (zs : List Int) (hz : ∀ v : Nat, node = v → v < N → zs = f v) (hz0 : ¬ (0 ≤ node ∧ node < N) → zs = []) (hl : zs.length ≤ 1000) (hN : N ≤ 4096) :
    SeqOk ((w.alloc (.cells #[.slice (some ⟨AO, 0, none⟩) N c] 62)).alloc (.cells #[.int .i64 node] 3)) (w.heap.size + 1) w.heap.size zs := by
  have hsz : ((w.alloc (.cells #[.slice (some ⟨AO, 0, none⟩) N c] 62)).alloc (.cells #[.int .i64 node] 3)).heap.size = w.heap.size + 2 := by simp
  have k1 : ((w.alloc (.cells #[.slice (some ⟨AO, 0, none⟩) N c] 62)).alloc (.cells #[.int .i64 node] 3)).heap[w.heap.size + 1]? = some (.cells #[.int .i64 node] 3 (0, 0)) := by
    have := heap_alloc_new (w.alloc (.cells #[.slice (some ⟨AO, 0, none⟩) N c] 62)) (.cells #[.int .i64 node] 3)
    simpa using this
  have k2 : ((w.alloc (.cells #[.slice (some ⟨AO, 0, none⟩) N c] 62)).alloc (.cells #[.int .i64 node] 3)).heap[w.heap.size]? = some (.cells #[.slice (some ⟨AO, 0, none⟩) N c] 62 (0, 0)) :=
    (((Below.refl (w.heap.size + 1) (w.alloc (.cells #[.slice (some ⟨AO, 0, none⟩) N c] 62))).alloc (by simp) _).block _ (by omega)).trans (heap_alloc_new w _)
  have hb0 : Below w.heap.size w ((w.alloc (.cells #[.slice (some ⟨AO, 0, none⟩) N c] 62)).alloc (.cells #[.int .i64 node] 3)) := ((Below.refl w.heap.size w).alloc (Nat.le_refl _) _).alloc (by simp) _
  generalize (w.alloc (.cells #[.slice (some ⟨AO, 0, none⟩) N c] 62)).alloc (.cells #[.int .i64 node] 3) = w1 at *
  refine ⟨by omega, by omega, fun most w' hm hb hT hs2 => ?_⟩
  have c1 := cell_of_row _ _ 0 _ _ _ ((hb.block (w.heap.size + 1) (by omega)).trans k1)
  have c2 := cell_of_row _ _ 0 _ _ _ ((hb.block w.heap.size (by omega)).trans k2)
  have hbw := then_ hb0 hb
  by_cases hv : 0 ≤ node ∧ node < N
  · obtain ⟨v, rfl⟩ : ∃ v : Nat, node = (v : Int) := ⟨node.toNat, by omega⟩
    have hzv := hz v rfl (by omega)
    obtain ⟨ab, cc, B, d, hvv, _, h3, hr, hB⟩ := h.at_ (j := v) (by omega)
    rw [← hzv] at h3 hr hB
    injection hvv with e1 _ e3
    injection e1 with e1
    injection e1 with e1
    subst e1 e3
    exact eachT_in _ _ _ _ _ _ N _ d v most B zs w' (by omega) hm c1 c2 (cell_keep h3 hbw) (hr.below hbw) (fun ad e h0 => by have := (hB ad e h0).2; exact ⟨by omega, by omega⟩) hl hT hs2
  · exact eachT_out _ _ _ _ _ N c _ most node w' hv (by omega) c1 c2 hT zs (hz0 hv)
theorem outE_seq (w : World) (lo hi G N : Nat) (l : List Ed3) (node : Int) (h : GrP w lo hi G N l) (hhi : hi ≤ w.heap.size) (hl : l.length ≤ 1000) :
    Calls Tryd.prog 23 #[.pointer (some ⟨G, 0, none⟩), .int .i64 node] w fun e w' => ∃ b1 b2, e = .returned (.func (.func 53) #[] #[.pointer (some ⟨b1, 0, none⟩), .pointer (some ⟨b2, 0, none⟩)]) ∧ Below w.heap.size w w' ∧ SeqOk w' b1 b2 (outs l node) := by
  obtain ⟨AE, cE, AO, cO, AI, cI, _, h1, h2, _, us, is, hO, hI⟩ := h.head
  refine (outE_any G (some ⟨AO, 0, none⟩) N cO node w h1).mono ?_
  rintro e w' ⟨rfl, rfl⟩
  have hN := h.fair.hi
  exact ⟨_, _, rfl, ((Below.refl w.heap.size w).alloc (Nat.le_refl _) _).alloc (by simp) _, seqOk_of hO hhi node _ (fun v e _ => by rw [e]) (fun hn => outs_none h.fair hn) (by have := outs_few l node; omega) (by omega)⟩
theorem inE_seq (w : World) (lo hi G N : Nat) (l : List Ed3) (node : Int) (h : GrP w lo hi G N l) (hhi : hi ≤ w.heap.size) (hl : l.length ≤ 1000) :
    Calls Tryd.prog 24 #[.pointer (some ⟨G, 0, none⟩), .int .i64 node] w fun e w' => ∃ b1 b2, e = .returned (.func (.func 53) #[] #[.pointer (some ⟨b1, 0, none⟩), .pointer (some ⟨b2, 0, none⟩)]) ∧ Below w.heap.size w w' ∧ SeqOk w' b1 b2 (outs (back l) node) := by
  obtain ⟨AE, cE, AO, cO, AI, cI, _, h1, h2, _, us, is, hO, hI⟩ := h.head
  refine (inE_any G (some ⟨AI, 0, none⟩) N cI node w h2).mono ?_
  rintro e w' ⟨rfl, rfl⟩
  have hN := h.fair.hi
  exact ⟨_, _, rfl, ((Below.refl w.heap.size w).alloc (Nat.le_refl _) _).alloc (by simp) _, seqOk_of hI hhi node _ (fun v e _ => by rw [e]) (fun hn => outs_none h.fair.back hn) (by have := outs_few (back l) node; rw [back_length] at this; omega) (by omega)⟩
theorem takeS_any {w : World} {b1 b2 : Nat} {zs : List Int} (h : SeqOk w b1 b2 zs) {most : Int} (hm : 1 ≤ most) :
    Calls Tryd.prog 22 #[.func (.func 53) #[] #[.pointer (some ⟨b1, 0, none⟩), .pointer (some ⟨b2, 0, none⟩)], .int .i64 most] w fun e w' => Gives w (zs.take most.toNat) e w' := by
  refine (take_any b1 b2 most zs w h.1 h.2.1 (fun w' hb hT hs => h.2.2 most w' hm hb hT hs)).mono ?_
  rintro e w' ⟨v, rfl, hO, hb⟩
  exact hO.gives hb
theorem takeS_all {w : World} {b1 b2 : Nat} {zs : List Int} (h : SeqOk w b1 b2 zs) (hl : zs.length ≤ 1000) :
    Calls Tryd.prog 22 #[.func (.func 53) #[] #[.pointer (some ⟨b1, 0, none⟩), .pointer (some ⟨b2, 0, none⟩)], .int .i64 1000] w fun e w' => Gives w zs e w' := by
  have := takeS_any h (most := 1000) (by decide)
  rwa [show zs.take (1000 : Int).toNat = zs from List.take_of_length_le hl] at this
end Go.Proofs.YtabciepnbmliiaaDoor
