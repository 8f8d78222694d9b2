/- Sort, SortFunc, as the code uses them. -/
import Derived.Test.YtabciepnbmliiaaDoorKC
import Derived.Test.YtabciepnbmliiaaDoorShelf
set_option linter.unusedVariables false
set_option linter.unusedSimpArgs false
set_option maxRecDepth 100000
namespace Go.Proofs.YtabciepnbmliiaaDoor
open Go.RowKit Go.Lib Go.Shelf Rg

theorem sort_any (w : World) (base : Nat) (v : Value) (xs : List Int) (h : OwnI w base v xs) (h0 : 0 < xs.length) (hl : xs.length ≤ 1000000) :
    Calls Tryd.prog 49 #[v] w fun e w' => e = .returned (.tuple #[]) ∧ OwnI w' base v (xs.mergeSort fun x y => decide (x ≤ y)) ∧ w.grownBy w' v.ownBlock := by
  obtain ⟨g, cap, rfl, hg, hlt⟩ := World.ownsRow.form h h0
  have hH : Go.Sort.Holds (Value.int .i64) w g 0 xs.toArray := holds_of_row h (by simp) (fun j hj => by simp [hj])
  refine (Tryd.slices_Sort_int g 0 cap xs w hH hlt (by omega)).mono ?_
  rintro e w' ⟨he, n, os, rfl⟩
  have hs : (xs.mergeSort fun x y => decide (x ≤ y)).toArray.size = xs.length := by simp
  refine ⟨he, ?_, grownBy_sortedG _⟩
  unfold OwnI
  rw [List.length_mergeSort]
  have := ownsRow_sortedG (enc := Value.int .i64) (k := n) (os := os) h hs
  simpa using this

theorem scompare_enters : ∀ args w, (callFunc 51 args).run Tryd.prog w = .ok (.enter 51 args) w := enters_of Tryd.func51 (by kernel_rfl) rfl
theorem own_rd {w : World} {base : Nat} {v : Value} {xs : List Int} (h : OwnI w base v xs) : ∃ A c, v = .slice A xs.length c ∧ Rd w A xs.length xs := by
  obtain ⟨A, c, rfl⟩ := h.slice
  exact ⟨A, c, rfl, h.rd⟩
set_option maxHeartbeats 1000000 in
theorem sortFunc_any (w : World) (base : Nat) (v : Value) (us : List Value) (gs : List (List Int)) (hv : OwnL w base v us) (hr : Rws w base us gs) (h0 : 0 < us.length) (hl : us.length ≤ 1000000) (hg : ∀ g ∈ gs, g.length ≤ 1000000) :
    Calls Tryd.prog 50 #[v, .func (.func 51) #[] #[]] w fun e w' => e = .returned (.tuple #[]) ∧ w.grownBy w' v.ownBlock ∧ ∃ us' gs', OwnL w' base v us' ∧ Rws w' base us' gs' ∧ gs'.Perm gs ∧ gs'.Pairwise (fun a b => ¬ Rg.cmpL b a < 0) := by
  obtain ⟨gb, cap, rfl, hgb, hlt⟩ := World.ownsRow.form hv h0
  have hlen := hr.len
  obtain ⟨m, hm⟩ : ∃ m, m = us.length := ⟨_, rfl⟩
  let enc : Nat → Value := fun i => us.getD i (.slice none 0 0)
  let con : Nat → List Int := fun i => gs.getD i []
  have hu : ∀ i, OwnI w base (enc i) (con i) := fun i => by
    by_cases hi : i < us.length
    · have h1 : enc i = us[i] := by show us.getD i _ = _; rw [List.getD_eq_getElem?_getD, List.getElem?_eq_getElem hi]; rfl
      have h2 : con i = gs[i] := by show gs.getD i _ = _; rw [List.getD_eq_getElem?_getD, List.getElem?_eq_getElem (by omega)]; rfl
      rw [h1, h2]
      exact hr.el i _ _ (List.getElem?_eq_getElem hi) (List.getElem?_eq_getElem (by omega))
    · have h1 : enc i = .slice none 0 0 := by show us.getD i _ = _; rw [List.getD_eq_getElem?_getD, List.getElem?_eq_none (by omega)]; rfl
      have h2 : con i = [] := by show gs.getD i _ = _; rw [List.getD_eq_getElem?_getD, List.getElem?_eq_none (by omega)]; rfl
      rw [h1, h2]
      exact OwnI.nil _ _
  have hcl : ∀ i, (con i).length ≤ 1000000 := fun i => by
    by_cases hi : i < gs.length
    · have h2 : con i = gs[i] := by show gs.getD i _ = _; rw [List.getD_eq_getElem?_getD, List.getElem?_eq_getElem hi]; rfl
      rw [h2]; exact hg _ (List.getElem_mem hi)
    · have h2 : con i = [] := by show gs.getD i _ = _; rw [List.getD_eq_getElem?_getD, List.getElem?_eq_none (by omega)]; rfl
      rw [h2]; simp
  have hone : OneCell enc := fun i => by
    obtain ⟨A, c, e⟩ := (hu i).slice
    rw [e]; rfl
  have hcmp : CmpLays1 Tryd.prog 51 #[] enc (fun i j => Rg.cmpL (con i) (con j)) gb 0 (List.range m).toArray.size w := by
    intro q os dk hdk x y
    have hW : w.grownBy (sortWorld enc w gb 0 q dk os) (some gb) := grownBy_sortedG dk
    have hk : ∀ i, OwnI (sortWorld enc w gb 0 q dk os) base (enc i) (con i) := fun i => own_kept (hu i) fun g hgv => hW.block g (own_lt (hu i) hgv) (fun e => by
      obtain ⟨c1, h1⟩ := own_type (hu i) hgv
      obtain ⟨c2, h2⟩ := own_type hv (g := gb) rfl
      injection e with e; subst e
      rw [h1] at h2; injection h2 with h2; injection h2 with _ h2; exact absurd h2 (by decide))
    obtain ⟨A1, c1, e1, r1⟩ := own_rd (hk x)
    obtain ⟨A2, c2, e2, r2⟩ := own_rd (hk y)
    show Calls Tryd.prog 51 (#[enc x, enc y] ++ #[]) _ _
    rw [e1, e2]
    refine (compare_any A1 A2 _ _ c1 c2 (con x) (con y) _ r1 r2 (hcl x) (hcl y)).mono ?_
    rintro e w' ⟨he, rfl⟩
    exact ⟨he, 0, #[], by rw [Go.Sort.grow_empty]; rfl⟩
  have hH : Go.Sort.Holds enc w gb 0 (List.range m).toArray := holds_of_row hv (by simp [hm]) (fun j hj => by
    have h1 : enc j = us[j] := by show us.getD j _ = _; rw [List.getD_eq_getElem?_getD, List.getElem?_eq_getElem hj]; rfl
    rw [List.getElem?_eq_getElem hj]
    simp [hm, hj, h1])
  have hsz : (List.range m).toArray.size = us.length := by simp [hm]
  have hcall := Tryd.slices_SortFunc enc hone (fun i j => Rg.cmpL (con i) (con j)) (cmpL_swo con) 51 #[] gb 0 cap (List.range m).toArray w scompare_enters hcmp hH hlt (by simp; omega)
  rw [hsz] at hcall
  refine hcall.mono ?_
  rintro e w' ⟨he, d', n, os, hp, hs, rfl⟩
  obtain ⟨hp1, _, hp2⟩ := hp
  have hd' : d'.size = us.length := by rw [hp1, hsz]
  have hperm : d'.toList.Perm (List.range m) := by
    have e1 : d'.extract 0 us.length = d' := by rw [← hd']; simp
    have e2 : (List.range m).toArray.extract 0 us.length = (List.range m).toArray := by rw [← hsz]; simp
    rw [e1, e2] at hp2
    simpa using hp2
  have hnd : d'.toList.Nodup := hperm.nodup_iff.2 List.nodup_range
  have hgrow : w.grownBy (sortWorld enc w gb 0 n d' os) (some gb) := grownBy_sortedG d'
  have hk : ∀ i, OwnI (sortWorld enc w gb 0 n d' os) base (enc i) (con i) := fun i => own_kept (hu i) fun g hgv => hgrow.block g (own_lt (hu i) hgv) (fun e => by
    obtain ⟨c1, h1⟩ := own_type (hu i) hgv
    obtain ⟨c2, h2⟩ := own_type hv (g := gb) rfl
    injection e with e; subst e
    rw [h1] at h2; injection h2 with h2; injection h2 with _ h2; exact absurd h2 (by decide))
  refine ⟨he, hgrow, d'.toList.map enc, d'.toList.map con, ?_, ⟨by simp, fun j u p hju hjp => ?_, fun i j a b hij ha hb => ?_⟩, ?_, ?_⟩
  · have q := ownsRow_sortedG (enc := enc) (k := n) (os := os) hv hd'
    unfold OwnL
    rw [show (d'.toList.map enc).length = us.length by rw [List.length_map]; exact hd']
    exact q
  · rw [List.getElem?_map] at hju hjp
    cases hd : d'.toList[j]? with
    | none => rw [hd] at hju; cases hju
    | some i =>
      rw [hd] at hju hjp
      simp only [Option.map_some, Option.some.injEq] at hju hjp
      subst hju hjp
      exact hk i
  · rw [List.getElem?_map] at ha hb
    cases hda : d'.toList[i]? with
    | none => rw [hda] at ha; cases ha
    | some x =>
      cases hdb : d'.toList[j]? with
      | none => rw [hdb] at hb; cases hb
      | some y =>
        rw [hda] at ha; rw [hdb] at hb
        simp only [Option.map_some, Option.some.injEq] at ha hb
        subst ha hb
        have hxm : x < us.length := by
          have := hperm.mem_iff.1 (List.mem_of_getElem? hda)
          rw [List.mem_range] at this; omega
        have hym : y < us.length := by
          have := hperm.mem_iff.1 (List.mem_of_getElem? hdb)
          rw [List.mem_range] at this; omega
        have hxy : x ≠ y := by
          rintro rfl
          have h1 := List.getElem?_eq_some_iff.1 hda
          have h2 := List.getElem?_eq_some_iff.1 hdb
          obtain ⟨h1a, h1b⟩ := h1
          obtain ⟨h2a, h2b⟩ := h2
          have hpw := List.pairwise_iff_getElem.1 hnd
          rcases Nat.lt_or_gt_of_ne hij with q | q
          · exact hpw i j h1a h2a q (h1b.trans h2b.symm)
          · exact hpw j i h2a h1a q (h2b.trans h1b.symm)
        have ex : us[x]? = some (enc x) := by show _ = some (us.getD x _); rw [List.getD_eq_getElem?_getD, List.getElem?_eq_getElem hxm]; rfl
        have ey : us[y]? = some (enc y) := by show _ = some (us.getD y _); rw [List.getD_eq_getElem?_getD, List.getElem?_eq_getElem hym]; rfl
        exact hr.ap x y _ _ hxy ex ey
  · have e1 : gs = (List.range m).map con := by
      apply List.ext_getElem?
      intro j
      rw [List.getElem?_map]
      by_cases hj : j < gs.length
      · rw [List.getElem?_range (by omega), List.getElem?_eq_getElem hj]
        show _ = some (gs.getD j [])
        rw [List.getD_eq_getElem?_getD, List.getElem?_eq_getElem hj]; rfl
      · rw [List.getElem?_eq_none (by omega), List.getElem?_eq_none (by simp; omega)]; rfl
    have := hperm.map con
    rw [← e1] at this
    exact this
  · rw [List.pairwise_map]
    rw [List.pairwise_iff_getElem]
    intro i j hi hj hij
    have hi' : i < d'.size := by simpa using hi
    have hj' : j < d'.size := by simpa using hj
    have := hs i j (Nat.zero_le _) hij (by omega)
    rw [getElem!_pos d' i hi', getElem!_pos d' j hj'] at this
    have h2 : decide (Rg.cmpL (con d'[j]) (con d'[i]) < 0) = false := this
    simpa using h2
end Go.Proofs.YtabciepnbmliiaaDoor
