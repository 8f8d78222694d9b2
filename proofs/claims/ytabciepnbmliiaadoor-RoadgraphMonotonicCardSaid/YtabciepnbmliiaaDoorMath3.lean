/- Plain mathematics of layer 7: what is reached from several nodes; the groups that two searches find; sorted, they are the parts. -/
import Derived.Test.YtabciepnbmliiaaDoorMath2
set_option linter.unusedVariables false
set_option linter.unusedSectionVars false
set_option linter.unusedSimpArgs false
namespace Rg

def none_ : Int → Bool := fun _ => false
/-! ### From several nodes -/
def rstep (l : List Ed3) (N : Nat) (s : St) (x : Int) : St := if 0 ≤ x ∧ x < (N : Int) then dfs l N x s else s
def rfold (l : List Ed3) (N : Nat) (xs : List Int) : St := xs.foldl (rstep l N) (none_, [])
section
variable {l : List Ed3} {N : Nat} (hF : FairR N l)
include hF
theorem rfold_from : ∀ (xs : List Int) (S : Int → Bool) (L : List Int), ∃ M S', xs.foldl (rstep l N) (S, L) = (S', L ++ M) ∧ Out l N S M S' ∧ (∀ x ∈ xs, 0 ≤ x ∧ x < (N : Int) → S' x = true) ∧ ∀ y ∈ M, ∃ x ∈ xs, (0 ≤ x ∧ x < (N : Int)) ∧ RA l S x y
  | [], S, L => ⟨[], S, by simp, .none S, by simp, by simp⟩
  | x :: xs, S, L => by
    rw [List.foldl_cons]
    by_cases hx : 0 ≤ x ∧ x < (N : Int)
    · obtain ⟨M1, S1, e1, o1, v1, r1⟩ := dfs_out hF N x S L hx (free_le N S)
      obtain ⟨M2, S2, e2, o2, v2, r2⟩ := rfold_from xs S1 (L ++ M1)
      refine ⟨M1 ++ M2, S2, by rw [rstep, if_pos hx, e1, e2, List.append_assoc], o1.append o2, fun z hz hn => ?_, fun y hy => ?_⟩
      · rcases List.mem_cons.1 hz with rfl | hz
        · exact (o2.seen _).2 (.inl v1)
        · exact v2 z hz hn
      · rcases List.mem_append.1 hy with q | q
        · exact ⟨x, List.mem_cons_self, hx, r1 y q⟩
        · obtain ⟨z, hz, hn, r⟩ := r2 y q
          exact ⟨z, List.mem_cons_of_mem _ hz, hn, r.mono fun a ha => (o1.seen a).2 (.inl ha)⟩
    · obtain ⟨M2, S2, e2, o2, v2, r2⟩ := rfold_from xs S L
      refine ⟨M2, S2, by rw [rstep, if_neg hx, e2], o2, fun z hz hn => ?_, fun y hy => ?_⟩
      · rcases List.mem_cons.1 hz with rfl | hz
        · exact absurd hn hx
        · exact v2 z hz hn
      · obtain ⟨z, hz, hn, r⟩ := r2 y hy
        exact ⟨z, List.mem_cons_of_mem _ hz, hn, r⟩
theorem rfold_out (xs : List Int) : Out l N none_ (rfold l N xs).2 (rfold l N xs).1 := by
  obtain ⟨M, S', e, o, _, _⟩ := rfold_from hF xs none_ []
  unfold rfold
  rw [e]; simpa using o
theorem RA_none {S : Int → Bool} (hS : ∀ x, S x = false) {a b : Int} : RA l S a b ↔ Reach l a b := ⟨RA.reach, fun h => reach_RA h fun y _ _ => hS y⟩
theorem mem_rfold (xs : List Int) (y : Int) : y ∈ (rfold l N xs).2 ↔ y ∈ aheadR N l xs := by
  obtain ⟨M, S', e, o, v, r⟩ := rfold_from hF xs none_ []
  unfold rfold
  rw [e, mem_ahead hF]
  simp only [List.nil_append]
  constructor
  · intro h
    obtain ⟨x, hx, hn, q⟩ := r y h
    exact ⟨x, hx, hn.1, hn.2, q.reach⟩
  · rintro ⟨x, hx, h0, h1, q⟩
    have hxM : x ∈ M := by
      rcases (o.seen x).1 (v x hx ⟨h0, h1⟩) with k | k
      · cases k
      · exact k
    exact ((RA_none hF fun _ => rfl).2 q : RA l none_ x y).stay o.closed hxM

/-! ### The first search -/
def phase1 (l : List Ed3) (N k : Nat) : St := (List.range k).foldl (fun s (n : Nat) => dfs l N (n : Int) s) (none_, [])
omit hF in
theorem phase1_succ (l : List Ed3) (N k : Nat) : phase1 l N (k + 1) = dfs l N (k : Int) (phase1 l N k) := by
  unfold phase1; rw [List.range_succ, List.foldl_append]; rfl
theorem phase1_out : ∀ k, k ≤ N → Out l N none_ (phase1 l N k).2 (phase1 l N k).1 ∧ ∀ j : Nat, j < k → (phase1 l N k).1 j = true
  | 0, _ => ⟨.none _, by simp⟩
  | k + 1, hk => by
    obtain ⟨o, s⟩ := phase1_out k (by omega)
    rw [phase1_succ]
    generalize phase1 l N k = p at *
    obtain ⟨S, L⟩ := p
    obtain ⟨M, S', e, o', v, _⟩ := dfs_out hF N (k : Int) S L ⟨by omega, by omega⟩ (free_le N S)
    rw [e]
    refine ⟨o.append o', fun j hj => ?_⟩
    by_cases h : j = k
    · subst h; exact v
    · exact (o'.seen _).2 (.inl (s j (by omega)))
theorem phase1_mem {x : Int} : x ∈ (phase1 l N N).2 ↔ 0 ≤ x ∧ x < (N : Int) := by
  obtain ⟨o, s⟩ := phase1_out hF N (Nat.le_refl _)
  refine ⟨o.node x, fun h => ?_⟩
  have := s x.toNat (by omega)
  rw [show ((x.toNat : Nat) : Int) = x by omega] at this
  rcases (o.seen x).1 this with k | k
  · cases k
  · exact k
/-- THE ORDER: whoever leads to y is led to by it, or has one of its part behind y. -/
theorem phase1_ord {x y : Int} (hx : 0 ≤ x ∧ x < (N : Int)) (h : Reach l x y) : Reach l y x ∨ ∃ z, Reach l x z ∧ Reach l z x ∧ Bef (phase1 l N N).2 y z := by
  obtain ⟨o, _⟩ := phase1_out hF N (Nat.le_refl _)
  have hy := h.node hF hx
  rcases o.ord x y ((phase1_mem hF).2 hx) ((phase1_mem hF).2 hy) ((RA_none hF fun _ => rfl).2 h) with k | ⟨z, k1, k2, k3⟩
  · exact .inl k.reach
  · exact .inr ⟨z, k1.reach, k2.reach, k3⟩

/-! ### The second search -/
def gstep (l : List Ed3) (N : Nat) (s : (Int → Bool) × List (List Int)) (v : Int) : (Int → Bool) × List (List Int) :=
  if s.1 v = true then s else ((dfs (back l) N v (s.1, [])).1, s.2 ++ [(dfs (back l) N v (s.1, [])).2])
def grp (l : List Ed3) (N : Nat) (L : List Int) : (Int → Bool) × List (List Int) := L.foldl (gstep l N) (none_, [])
omit hF in
theorem grp_snoc (l : List Ed3) (N : Nat) (L : List Int) (v : Int) : grp l N (L ++ [v]) = gstep l N (grp l N L) v := by unfold grp; rw [List.foldl_append]; rfl
def Bo (l : List Ed3) (x y : Int) : Prop := Reach l x y ∧ Reach l y x
structure Ginv (l : List Ed3) (N : Nat) (L : List Int) (s : (Int → Bool) × List (List Int)) : Prop where
  seen : ∀ x ∈ L, s.1 x = true
  scc : ∀ x y, s.1 x = true → Bo l x y → s.1 y = true
  mem : ∀ x, s.1 x = true ↔ ∃ g ∈ s.2, x ∈ g
  part : ∀ g ∈ s.2, g.Nodup ∧ ∃ v, (0 ≤ v ∧ v < (N : Int)) ∧ v ∈ g ∧ ∀ x, x ∈ g ↔ Bo l v x
  dis : s.2.Pairwise fun g h => ∀ x ∈ g, x ∉ h
theorem ginv : ∀ (n : Nat), Ginv l N ((phase1 l N N).2.reverse.take n) (grp l N ((phase1 l N N).2.reverse.take n))
  | 0 => ⟨by simp, by simp [grp, none_], by simp [grp, none_], by simp [grp], by simp [grp]⟩
  | n + 1 => by
    have ih := ginv n
    obtain ⟨o, hall⟩ := phase1_out hF N (Nat.le_refl _)
    have hLn := o.nodup
    have hLm := fun x => phase1_mem (x := x) hF
    have hord := fun x y hx h => phase1_ord (x := x) (y := y) hF hx h
    generalize (phase1 l N N).2 = L at *
    by_cases hn : n < L.reverse.length
    · rw [List.take_succ_eq_append_getElem hn, grp_snoc]
      have hspl : L.reverse = L.reverse.take n ++ L.reverse[n] :: L.reverse.drop (n + 1) := by
        rw [List.getElem_cons_drop, List.take_append_drop]
      generalize L.reverse[n] = v at *
      generalize L.reverse.take n = b at *
      generalize L.reverse.drop (n + 1) = c at *
      generalize grp l N b = s at *
      obtain ⟨S, gs⟩ := s
      have hL : L = c.reverse ++ [v] ++ b.reverse := by
        have := congrArg List.reverse hspl
        rw [List.reverse_reverse] at this
        rw [this]; simp
      have hvn : 0 ≤ v ∧ v < (N : Int) := (hLm v).1 (by rw [hL]; simp)
      unfold gstep
      dsimp only
      by_cases hs : S v = true
      · rw [if_pos hs]
        refine ⟨fun x hx => ?_, ih.scc, ih.mem, ih.part, ih.dis⟩
        rcases List.mem_append.1 hx with q | q
        · exact ih.seen x q
        · simp at q; subst q; exact hs
      · rw [if_neg hs]
        have hs : S v = false := by simpa using hs
        obtain ⟨M, S', e, o', hv', r⟩ := dfs_out hF.back N v S [] hvn (free_le N S)
        rw [e]
        simp only [List.nil_append]
        have hM : ∀ x, x ∈ M ↔ Bo l v x := by
          intro x
          constructor
          · intro hx
            have hra := r x hx
            have hxv : Reach l x v := reach_back.1 hra.reach
            have hxn := o'.node x hx
            rcases hord x v hxn hxv with k | ⟨z, k1, k2, a, b', hab, ha, hb⟩
            · exact ⟨k, hxv⟩
            · exfalso
              have hzb : z ∈ b := by
                rw [hL] at hab
                have hnd : (c.reverse ++ [v] ++ b.reverse).Nodup := hL ▸ hLn
                have hvb : v ∉ b.reverse := fun h => by
                  rw [List.nodup_append] at hnd
                  exact hnd.2.2 v (by simp) v h rfl
                have hvc : v ∉ c.reverse := fun h => by
                  rw [List.nodup_append, List.nodup_append] at hnd
                  exact hnd.1.2.2 v h v (by simp) rfl
                rw [List.append_assoc] at hab
                rcases List.append_eq_append_iff.1 hab with ⟨d, h1, h2⟩ | ⟨d, h1, h2⟩
                · rw [h1] at ha
                  rcases List.mem_append.1 ha with q | q
                  · exact absurd q hvc
                  · cases d with
                    | nil => cases q
                    | cons y d =>
                      simp only [List.singleton_append, List.cons_append, List.cons.injEq] at h2
                      have h22 : b.reverse = d ++ b' := by simpa using h2.2
                      have : z ∈ b.reverse := by rw [h22]; exact List.mem_append_right _ hb
                      simpa using this
                · exact absurd (by rw [h1]; exact List.mem_append_left _ ha) hvc
              have := ih.scc z x (ih.seen z hzb) ⟨k2, k1⟩
              have hxo := o'.off x hx
              dsimp only at this
              rw [hxo] at this; cases this
          · rintro ⟨h1, h2⟩
            have hra : RA (back l) S v x := reach_RA (h2.back) fun y hy1 hy2 => by
              cases hc : S y with
              | false => rfl
              | true =>
                have hyv : Reach l y v := reach_back.1 hy1
                have hxy : Reach l x y := reach_back.1 hy2
                have := ih.scc y v hc ⟨hyv, h1.trans hxy⟩
                dsimp only at this
                rw [hs] at this; cases this
            have hvM : v ∈ M := by
              rcases (o'.seen v).1 hv' with k | k
              · rw [hs] at k; cases k
              · exact k
            exact hra.stay o'.closed hvM
        refine ⟨fun x hx => ?_, fun x y hx hb => ?_, fun x => ?_, fun g hg => ?_, ?_⟩
        · rcases List.mem_append.1 hx with q | q
          · exact (o'.seen x).2 (.inl (ih.seen x q))
          · simp at q; subst q; exact hv'
        · rcases (o'.seen x).1 hx with q | q
          · exact (o'.seen y).2 (.inl (ih.scc x y q hb))
          · have hvx := (hM x).1 q
            exact (o'.seen y).2 (.inr ((hM y).2 ⟨hvx.1.trans hb.1, hb.2.trans hvx.2⟩))
        · rw [o'.seen]
          have hmem := ih.mem x
          dsimp only at hmem
          rw [hmem]
          constructor
          · rintro (⟨g, hg, hx⟩ | hx)
            · exact ⟨g, List.mem_append_left _ hg, hx⟩
            · exact ⟨M, by simp, hx⟩
          · rintro ⟨g, hg, hx⟩
            rcases List.mem_append.1 hg with q | q
            · exact .inl ⟨g, q, hx⟩
            · simp at q; subst q; exact .inr hx
        · rcases List.mem_append.1 hg with q | q
          · exact ih.part g q
          · simp at q; subst q
            exact ⟨o'.nodup, v, hvn, (hM v).2 ⟨.refl, .refl⟩, hM⟩
        · rw [List.pairwise_append]
          refine ⟨ih.dis, by simp, fun g hg h hh x hx => ?_⟩
          simp at hh; subst hh
          intro hxM
          have := (ih.mem x).2 ⟨g, hg, hx⟩
          have hxo := o'.off x hxM
          dsimp only at this
          rw [hxo] at this; cases this
    · rw [List.take_of_length_le (by omega)]
      rw [List.take_of_length_le (by omega)] at ih
      exact ih
def groups (l : List Ed3) (N : Nat) : List (List Int) := (grp l N (phase1 l N N).2.reverse).2
theorem groups_inv : Ginv l N (phase1 l N N).2.reverse (grp l N (phase1 l N N).2.reverse) := by
  have := ginv hF (phase1 l N N).2.reverse.length
  rwa [List.take_of_length_le (Nat.le_refl _)] at this

/-! ### Sorted -/
/-- How two lists compare. -/
def cmpL : List Int → List Int → Int
  | [], [] => 0
  | [], _ :: _ => -1
  | _ :: _, [] => 1
  | a :: r, b :: s => if a < b then -1 else if b < a then 1 else cmpL r s
/-- A list of lists that holds the parts, each ascending, the lists ascending: it is the parts. -/
theorem parts_of {r : List (List Int)} (hs : ∀ g ∈ r, g.Pairwise (· < ·)) (hp : ∀ g ∈ r, ∃ v, (0 ≤ v ∧ v < (N : Int)) ∧ v ∈ g ∧ ∀ x, x ∈ g ↔ Bo l v x) (hall : ∀ x, 0 ≤ x ∧ x < (N : Int) → ∃ g ∈ r, x ∈ g)
    (hc : r.Pairwise fun g h => (∀ x ∈ g, x ∉ h) ∧ ¬ cmpL h g < 0) : r = parts N l := by
  rw [parts_eq hF]
  have hhead : ∀ g ∈ r, ∃ n : Nat, n < N ∧ g.head? = some (n : Int) ∧ first N l n = true ∧ g = cls N l n := by
    intro g hg
    obtain ⟨v, hv, hvg, hm⟩ := hp g hg
    cases g with
    | nil => cases hvg
    | cons a t =>
      have hsg := hs _ hg
      rw [List.pairwise_cons] at hsg
      have hva := (hm a).1 List.mem_cons_self
      have han := hva.1.node hF hv
      have hbo : ∀ x, x ∈ a :: t ↔ Bo l a x := fun x => by
        rw [hm]
        exact ⟨fun h => ⟨hva.2.trans h.1, h.2.trans hva.1⟩, fun h => ⟨hva.1.trans h.1, h.2.trans hva.2⟩⟩
      have hf : first N l a.toNat = true := first_iff.2 fun j hj => by
        cases hb : both N l j ((a.toNat : Nat) : Int) with
        | false => rfl
        | true =>
          rw [show ((a.toNat : Nat) : Int) = a by omega] at hb
          have h1 := (both_iff hF (by omega) han).1 hb
          have : (j : Int) ∈ a :: t := (hbo _).2 ⟨h1.2, h1.1⟩
          rcases List.mem_cons.1 this with e | e
          · omega
          · have := hsg.1 _ e; omega
      refine ⟨a.toNat, by omega, by simp; omega, hf, ?_⟩
      refine sorted_same (hs _ hg) (cls_sorted _) fun x => ?_
      rw [mem_cls_first hF hf, show ((a.toNat : Nat) : Int) = a by omega, hbo]
      constructor
      · intro h
        exact (both_iff hF han (h.1.node hF han)).2 h
      · intro h
        exact (both_iff hF han (both_node hF h).2).1 h
  have hheads : r.map (fun g => g.headD 0) = (firsts N l N).map (fun (n : Nat) => (n : Int)) := by
    refine sorted_same ?_ ?_ fun x => ?_
    · rw [List.pairwise_map]
      refine (hc.imp_of_mem (S := fun g h => g.headD 0 < h.headD 0) ?_)
      intro g h hg hh ⟨hd, hcm⟩
      obtain ⟨n, _, e1, _, _⟩ := hhead g hg
      obtain ⟨m, _, e2, _, _⟩ := hhead h hh
      cases g with
      | nil => cases e1
      | cons a t =>
        cases h with
        | nil => cases e2
        | cons b u =>
          simp only [List.headD_cons]
          unfold cmpL at hcm
          have hab : a ≠ b := fun e => hd a List.mem_cons_self (by rw [e]; exact List.mem_cons_self)
          by_cases hlt : a < b
          · exact hlt
          · rw [if_pos (by omega)] at hcm; omega
    · rw [List.pairwise_map]
      exact (List.pairwise_lt_range.filter _).imp fun h => by omega
    · simp only [List.mem_map]
      constructor
      · rintro ⟨g, hg, rfl⟩
        obtain ⟨n, hn, e1, hf, _⟩ := hhead g hg
        refine ⟨n, by unfold firsts; rw [List.mem_filter, List.mem_range]; exact ⟨hn, hf⟩, ?_⟩
        cases g with
        | nil => cases e1
        | cons a t => simp at e1; simp [e1]
      · rintro ⟨n, hn, rfl⟩
        unfold firsts at hn
        rw [List.mem_filter, List.mem_range] at hn
        obtain ⟨g, hg, hx⟩ := hall (n : Int) ⟨by omega, by omega⟩
        refine ⟨g, hg, ?_⟩
        obtain ⟨m, hm, e1, hf, hgc⟩ := hhead g hg
        rw [hgc, mem_cls_first hF hf] at hx
        have hle : ¬ m < n := fun h => by have := first_iff.1 hn.2 m h; rw [hx] at this; cases this
        have hge : ¬ n < m := fun h => by have := first_iff.1 hf n h; rw [both_symm hF hx] at this; cases this
        cases g with
        | nil => cases e1
        | cons a t => simp at e1; simp [e1]; omega
  have hr : r = (r.map (fun g => g.headD 0)).map (fun x => cls N l x.toNat) := by
    rw [List.map_map]
    refine ((List.map_congr_left (f := fun g => cls N l (g.headD 0).toNat) (g := id) fun g hg => ?_).trans (List.map_id r)).symm
    obtain ⟨n, _, e1, _, hgc⟩ := hhead g hg
    cases g with
    | nil => cases e1
    | cons a t => simp at e1; subst e1; simp only [List.headD_cons, Int.toNat_natCast, id]; exact hgc.symm
  rw [hr, hheads, List.map_map]
  exact List.map_congr_left fun n _ => by simp
end
end Rg
