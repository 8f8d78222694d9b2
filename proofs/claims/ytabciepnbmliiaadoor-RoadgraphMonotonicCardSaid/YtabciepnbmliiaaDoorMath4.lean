/- Plain mathematics of layer 7: the groups, sorted, are the parts. -/
import Derived.Test.YtabciepnbmliiaaDoorMath3
set_option linter.unusedVariables false
set_option linter.unusedSectionVars false
set_option linter.unusedSimpArgs false
namespace Rg
def srt (g : List Int) : List Int := g.mergeSort fun x y => decide (x ≤ y)
theorem srt_perm (g : List Int) : (srt g).Perm g := List.mergeSort_perm g _
theorem srt_le (g : List Int) : (srt g).Pairwise (fun x y => x ≤ y) := by
  have := List.pairwise_mergeSort (le := fun x y : Int => decide (x ≤ y)) (fun a b c h1 h2 => by simp at *; omega) (fun a b => by simp; omega) g
  exact this.imp fun h => by simpa using h
theorem srt_lt {g : List Int} (h : g.Nodup) : (srt g).Pairwise (fun x y => x < y) := by
  have h1 := srt_le g
  have h2 : (srt g).Nodup := (srt_perm g).nodup_iff.2 h
  exact (h1.and h2).imp fun ⟨a, b⟩ => by omega
theorem srt_mem {g : List Int} {x : Int} : x ∈ srt g ↔ x ∈ g := (srt_perm g).mem_iff
theorem srt_length (g : List Int) : (srt g).length = g.length := (srt_perm g).length_eq
section
variable {l : List Ed3} {N : Nat} (hF : FairR N l)
include hF
theorem comp_parts {r : List (List Int)} (hp : r.Perm ((groups l N).map srt)) (hc : r.Pairwise fun g h => ¬ cmpL h g < 0) : r = parts N l := by
  have hi := groups_inv hF
  have hgr : (grp l N (phase1 l N N).2.reverse).2 = groups l N := rfl
  have hseen := hi.seen
  have hmem := hi.mem
  have hpart := hi.part
  have hdis := hi.dis
  rw [hgr] at hpart hdis
  refine parts_of hF (fun g hg => ?_) (fun g hg => ?_) (fun x hx => ?_) ?_
  · obtain ⟨a, ha, rfl⟩ := List.mem_map.1 (hp.mem_iff.1 hg)
    exact srt_lt (hpart a ha).1
  · obtain ⟨a, ha, rfl⟩ := List.mem_map.1 (hp.mem_iff.1 hg)
    obtain ⟨_, v, h1, h2, h3⟩ := hpart a ha
    exact ⟨v, h1, srt_mem.2 h2, fun x => srt_mem.trans (h3 x)⟩
  · have h1 : x ∈ (phase1 l N N).2 := (phase1_mem hF).2 hx
    obtain ⟨g, hg, hxg⟩ := (hmem x).1 (hseen x (by simpa using h1))
    exact ⟨srt g, hp.mem_iff.2 (List.mem_map.2 ⟨g, hg, rfl⟩), srt_mem.2 hxg⟩
  · have hd2 : ((groups l N).map srt).Pairwise (fun g h => ∀ x ∈ g, x ∉ h) := by
      rw [List.pairwise_map]
      exact hdis.imp fun h x hx hy => h x (srt_mem.1 hx) (srt_mem.1 hy)
    have hd3 : r.Pairwise (fun g h => ∀ x ∈ g, x ∉ h) := (hp.pairwise_iff (fun {a b} h x hx hy => h x hy hx)).2 hd2
    exact hd3.and hc
/-- Each group has a node; there are at most N. -/
theorem groups_one : ∀ g ∈ groups l N, 1 ≤ g.length ∧ g.length ≤ N := by
  intro g hg
  have hi := groups_inv hF
  obtain ⟨hn, v, h1, h2, h3⟩ := hi.part g hg
  exact ⟨List.length_pos_of_mem h2, nodup_few N g hn fun x hx => ((h3 x).1 hx).1.node hF h1⟩
theorem groups_some : 1 ≤ (groups l N).length := by
  have hi := groups_inv hF
  have hN := hF.lo
  have h0 : (0 : Int) ∈ (phase1 l N N).2 := (phase1_mem hF).2 ⟨by omega, by omega⟩
  obtain ⟨g, hg, _⟩ := (hi.mem 0).1 (hi.seen 0 (by simpa using h0))
  exact List.length_pos_of_mem hg
theorem groups_few : (groups l N).length ≤ N := by
  have hi := groups_inv hF
  have hgr : (grp l N (phase1 l N N).2.reverse).2 = groups l N := rfl
  have hpart := hi.part
  have hdis := hi.dis
  rw [hgr] at hpart hdis
  have key : ∀ gs : List (List Int), (∀ g ∈ gs, g.Nodup ∧ ∃ v, (0 ≤ v ∧ v < (N : Int)) ∧ v ∈ g ∧ ∀ x, x ∈ g ↔ Bo l v x) → gs.Pairwise (fun g h => ∀ x ∈ g, x ∉ h) → ∃ vs : List Int, vs.length = gs.length ∧ vs.Nodup ∧ (∀ v ∈ vs, 0 ≤ v ∧ v < (N : Int)) ∧ ∀ v ∈ vs, ∃ g ∈ gs, v ∈ g := by
    intro gs
    induction gs with
    | nil => intro _ _; exact ⟨[], rfl, by simp, by simp, by simp⟩
    | cons g gs ih =>
      intro h1 h2
      rw [List.pairwise_cons] at h2
      obtain ⟨vs, a, b, c, d⟩ := ih (fun x hx => h1 x (List.mem_cons_of_mem _ hx)) h2.2
      obtain ⟨_, v, p, q, _⟩ := h1 g List.mem_cons_self
      refine ⟨v :: vs, by simp [a], ?_, ?_, ?_⟩
      · rw [List.nodup_cons]
        refine ⟨fun hv => ?_, b⟩
        obtain ⟨h, hh, hvh⟩ := d v hv
        exact h2.1 h hh v q hvh
      · intro x hx
        rcases List.mem_cons.1 hx with rfl | hx
        · exact p
        · exact c x hx
      · intro x hx
        rcases List.mem_cons.1 hx with rfl | hx
        · exact ⟨g, List.mem_cons_self, q⟩
        · obtain ⟨h, hh, e⟩ := d x hx
          exact ⟨h, List.mem_cons_of_mem _ hh, e⟩
  obtain ⟨vs, a, b, c, _⟩ := key _ hpart hdis
  rw [← a]
  exact nodup_few N vs b c
end
end Rg
