/- The law WireCanonical. -/
import Derived.Test.YtmmfkepkdmmmkaaVT
import Derived.Lib.QuietBelow
import Derived.BigQuiet
set_option linter.unusedVariables false
set_option linter.unusedSimpArgs false
namespace Go.Proofs.Ytmmfkepkdmmmkaa
open Go.RowKit Go.Lib Wr

/-! ### Regions that draw their order, between calls that make memory -/

theorem wp_region_G {G : Regrown → World} {id : Nat} {Q : Exit → Act → World → Prop} {a : Act} {w : World} {l : List Oper} (hm : Try.prog.follows .mixedOrders = true) (hB : Region.lexB .any l.toArray = true)
    (hC : ∃ p, w.drew = G p) (h : wpQuiet Try.prog l.toArray (fun w' => ∃ p : Regrown, w' = G p) (fun a' => ∀ w', (∃ p : Regrown, w' = G p) → Q .normal a' w') l a) : (Code.region id l.toArray true).wp Try.prog Q a w :=
  wp_region_quiet (C := fun w' => ∃ p : Regrown, w' = G p) hm hB hC (by simpa using h)

theorem i64_0 : I64 0 := ⟨by decide, by decide⟩
theorem rdInt_wf (s : St) : I64 (rdInt s).1 := by
  cases s with
  | dead e => exact i64_0
  | live b =>
    simp only [rdInt]
    split
    · rename_i u r h
      exact unzig_i64 (dec_ok b 0 u r (by omega) h).2.1
    · exact i64_0
theorem rdL_wf : ∀ (k : Nat) (s : St), ∀ x ∈ (rdL k s).1, I64 x := by
  intro k
  induction k with
  | zero => intro s x hx; cases hx
  | succ k ih =>
    intro s x hx
    simp only [rdL] at hx
    rcases List.mem_cons.1 hx with rfl | hx
    · exact rdInt_wf s
    · exact ih _ x hx
theorem rdInts_wf (s : St) : ∀ x ∈ (rdInts s).1, I64 x := by
  intro x hx
  unfold rdInts at hx
  split at hx
  · cases hx
  · rename_i l r h
    have := rdL_wf (rdMany s).1 (rdMany s).2 x
    rw [h] at this
    exact this hx
theorem get_wf {s : St} {k : Int} {n : Nat} (hk : 0 ≤ k ∧ k ≤ 4) (hs : s.Few n) (hn : n ≤ 100000) : WfT (get k s).1 := by
  unfold Wr.get
  split
  · exact ⟨hk, rdInt_wf s, by simp, by simp, fun x hx => by cases hx⟩
  split
  · exact ⟨hk, i64_0, by simp, by simp, fun x hx => by cases hx⟩
  split
  · exact ⟨hk, i64_0, by have := (rdBytes_few hs).2; simp only; omega, by simp, fun x hx => by cases hx⟩
  split
  · exact ⟨hk, i64_0, by simp, by have := (rdInts_few hs).2; simp only; omega, rdInts_wf s⟩
  · exact ⟨hk, i64_0, by simp [zero], by simp [zero], fun x hx => by cases hx⟩
theorem got_wf {n : Nat} (hn : n ≤ 100000) : ∀ (ks : List Int) (s : St), (∀ k ∈ ks, 0 ≤ k ∧ k ≤ 4) → s.Few n → ∀ t ∈ got ks s, WfT t := by
  intro ks
  induction ks with
  | nil => intro s _ _ t ht; cases ht
  | cons k ks ih =>
    intro s hk hs t ht
    rw [got] at ht
    rcases List.mem_cons.1 ht with rfl | ht
    · exact get_wf (hk k (by simp)) hs hn
    · exact ih _ (fun y hy => hk y (by simp [hy])) (get_few k hs) t ht
theorem get_put_len {k : Int} (hk : 0 ≤ k ∧ k ≤ 4) (s : St) : 1 + (get k s).1.d.length + (get k s).1.l.length ≤ (put (get k s).1).length := by
  unfold Wr.get put
  by_cases h0 : k = 0
  · simp only [if_pos h0]; have := int_pos (rdInt s).1; simp; omega
  by_cases h1 : k = 1
  · simp only [if_neg h0, if_pos h1]; exact Nat.le_refl _
  by_cases h2 : k = 2 ∨ k = 3
  · simp only [if_neg h0, if_neg h1, if_pos h2]; have := int_pos ((rdBytes s).1.length : Int); simp; omega
  have h4 : k = 4 := by omega
  simp only [if_neg h0, if_neg h1, if_neg h2, if_pos h4]
  have := int_pos ((rdInts s).1.length : Int); have := ints_length (rdInts s).1; simp; omega
theorem got_cost : ∀ (ks : List Int) (s : St), (∀ k ∈ ks, 0 ≤ k ∧ k ≤ 4) → cost (got ks s) ≤ (Wr.all (got ks s)).length := by
  intro ks
  induction ks with
  | nil => intro s _; simp [got, cost]
  | cons k ks ih =>
    intro s hk
    have h1 := ih (get k s).2 (fun y hy => hk y (by simp [hy]))
    have h2 := get_put_len (hk k (by simp)) s
    rw [got, all_cons, List.length_append]
    simp only [cost, List.map_cons, List.sum_cons] at h1 ⊢
    omega
theorem gets_dead (e : Nat) : ∀ ks : List Int, gets ks (.dead e) = .dead e := by
  intro ks
  induction ks with
  | nil => rfl
  | cons k ks ih => rw [gets, List.foldl_cons, get_dead]; exact ih
theorem gets_ok : ∀ (ks : List Int) {s : St}, s.Ok → (gets ks s).Ok := by
  intro ks
  induction ks with
  | nil => intro s h; exact h
  | cons k ks ih => intro s h; exact ih (get_ok k h)
theorem end_of_ok {s : St} (h : s.Ok) (h0 : s.end ≠ 0) : s.end = 2 ∨ s.end = 11 := by
  cases s with
  | live r => cases r with
    | nil => exact absurd rfl h0
    | cons c r => exact .inl rfl
  | dead e => exact h
theorem gets_cons (k : Int) (ks : List Int) (s : St) : gets (k :: ks) s = gets ks (get k s).2 := rfl
/-- What was read was written. -/
theorem gets_inv : ∀ (ks : List Int) (b r : Bs), (∀ k ∈ ks, 0 ≤ k ∧ k ≤ 4) → gets ks (.live b) = .live r → b = Wr.all (got ks (.live b)) ++ r := by
  intro ks
  induction ks with
  | nil => intro b r _ h; injection h with h
  | cons k ks ih =>
    intro b r hk h
    rw [gets_cons] at h
    cases hs : (get k (.live b)).2 with
    | dead e => rw [hs, gets_dead] at h; cases h
    | live b1 =>
      rw [hs] at h
      have h1 := ih b1 r (fun y hy => hk y (by simp [hy])) h
      obtain ⟨_, h2⟩ := get_inv (hk k (by simp)) (show get k (.live b) = ((get k (.live b)).1, .live b1) from by rw [← hs])
      rw [got, all_cons, hs, List.append_assoc, ← h1]
      exact h2
theorem got_snoc : ∀ (ks : List Int) (k : Int) (s : St), got (ks ++ [k]) s = got ks s ++ [(get k (gets ks s)).1] := by
  intro ks
  induction ks with
  | nil => intro k s; rfl
  | cons j ks ih => intro k s; rw [List.cons_append, got, ih, got, gets_cons]; rfl
/-- What so many kinds read. -/
def goK (ks : Bs) (k : Nat) (s : St) : List Th := got ((ks.take k).map kd) s
theorem goK_succ {ks : Bs} {k : Nat} {c : UInt8} (h : ks[k]? = some c) (s : St) : goK ks (k + 1) s = goK ks k s ++ [(get (kd c) (stK ks k s)).1] := by
  unfold goK stK
  rw [List.take_add_one, h]
  simp only [Option.toList_some, List.map_append, List.map_cons, List.map_nil]
  exact got_snoc _ _ _
theorem goK_length (ks : Bs) (k : Nat) (s : St) (h : k ≤ ks.length) : (goK ks k s).length = k := by
  have e : ∀ (l : List Int) (s : St), (got l s).length = l.length := by
    intro l
    induction l with
    | nil => intro s; rfl
    | cons j l ih => intro s; rw [got, List.length_cons, ih, List.length_cons]
  unfold goK
  rw [e, List.length_map, List.length_take]; omega

set_option maxRecDepth 20000 in
set_option maxHeartbeats 2000000 in
theorem lawCanon (A K : Option Addr) (c d : Nat) (b ks : Bs) (W : World) (hb : RB W (.slice A b.length c) b) (hk : RB W (.slice K ks.length d) ks) (hl : b.length ≤ 9223372036854775807) (hm : ks.length ≤ 9223372036854775807) :
    Calls Try.prog 6 #[.slice A b.length c, .slice K ks.length d] W fun r w' => r = .returned (.bool true) ∧ Below W.heap.size W w' := by
  by_cases hbig : 300 < b.length
  · have hb1 : (300 : Int) < (b.length : Int) := by omega
    go_enter Try.func6, Try.ntmps6
    go_wp2_with fail
    refine (awake_any _).mono ?_
    rintro r w1 ⟨rfl, b1⟩
    go_wp2_with fail
    refine (awake_any _).mono ?_
    rintro r w2 ⟨rfl, b2⟩
    go_wp2
    go_ret
    exact ⟨rfl, then_ b1 b2⟩
  have hb1 : (b.length : Int) ≤ 300 := by omega
  by_cases hbig2 : 100 < ks.length
  · have hb2 : (100 : Int) < (ks.length : Int) := by omega
    go_enter Try.func6, Try.ntmps6
    go_wp2_with fail
    refine (awake_any _).mono ?_
    rintro r w1 ⟨rfl, b1⟩
    go_wp2_with fail
    refine (awake_any _).mono ?_
    rintro r w2 ⟨rfl, b2⟩
    go_wp2
    go_ret
    exact ⟨rfl, then_ b1 b2⟩
  have hb2 : (ks.length : Int) ≤ 100 := by omega
  have hbl : b.length ≤ 300 := by omega
  have hb' := Lib.hid hb
  have hk' := Lib.hid hk
  clear hb hk hbig hbig2
  go_enter Try.func6, Try.ntmps6
  go_wp2_with fail
  refine (awake_any _).mono ?_
  rintro r w1 ⟨rfl, b1⟩
  have hE := OwnB.empty w1 (Nat.le_refl _)
  have hBE : Below w1.heap.size w1 (w1.alloc (.cells #[] 5)) := (Below.refl _ _).alloc (Nat.le_refl _) _
  have hRb := Lib.hid (hb'.out.below (then_ b1 hBE))
  go_wp2_with (at_builtin; refine wpList_append_bytes rfl _ _ rfl w1.heap.size _ [] rfl hE _ b rfl hRb.out (by simp; omega) (by simp) ?_; intro v2 w2 O2 hg2 _)
  have b2 : Below w1.heap.size w1 w2 := hBE.grown hg2 (by simp) (fun k hk => (World.ownsRow.lt hE k hk).1)
  rw [List.nil_append] at O2
  have O2' := Lib.hid O2
  clear O2 hg2 hRb hE hBE
  refine (newReader_any v2 b w1.heap.size w2 O2'.out b2.size (by omega)).mono ?_
  rintro r w3 ⟨g, rfl, R3, b3⟩
  have B13 : Below w1.heap.size w1 w3 := b2.trans (b3.mono b2.size)
  have B3 : Below W.heap.size W w3 := then_ b1 B13
  have hs1 := b1.size
  have hs13 := B13.size
  have R4 := Lib.hid R3
  have B4 := B3
  clear R3 b3 O2' b2 B13 B3
  go_wp2_with fail
  generalize w1.heap.size = lo at R4 hs1 hs13
  obtain ⟨h, hh⟩ : ∃ h, w3.heap.size = h := ⟨_, rfl⟩
  rw [hh] at R4 hs13
  go_loopw [6, 30] (fun l i w' => ∃ k : Nat, i = .int .i64 (k : Int) ∧ k ≤ ks.length ∧ OwnT w' h l (goK ks k (.live b)) ∧ RdP w' g lo h (stK ks k (.live b)) ∧ Below W.heap.size W w' ∧ h ≤ w'.heap.size) (fun _ i _ => ks.length - (intOf i).toNat)
  case atStart => exact ⟨0, rfl, by omega, OwnT.nil _ _, by rw [stK_zero]; exact R4.out, B4, by omega⟩
  case round =>
    obtain ⟨k, rfl, hk, O5, R5, B5, hhw⟩ := hrel
    clear R4 B4 hh
    have hf : (stK ks k (.live b)).Few 100000 := gets_few _ (show b.length ≤ 100000 from by omega)
    have R5' := Lib.hid R5
    have O5' := Lib.hid O5
    have B5' := Lib.hid B5
    have hs5 := B5.size
    have hgl := goK_length ks k (.live b) hk
    clear R5 B5
    by_cases hlt : k < ks.length
    · obtain ⟨x, hx⟩ : ∃ x, ks[k]? = some x := ⟨_, List.getElem?_eq_getElem hlt⟩
      obtain ⟨ad, rfl, d0⟩ := (hk'.out.below B5'.out).at_ hx
      have hst := stK_succ hx (.live b)
      have hgo := goK_succ hx (.live b)
      have e1 : (k : Int) < (ks.length : Int) := by omega
      have e2 : (0 : Int) ≤ (k : Int) := by omega
      obtain ⟨kk, hkk⟩ : ∃ kk : Nat, x.toNat % 5 = kk := ⟨_, rfl⟩
      have s0 : (x.toNat : Int) % 5 = (kk : Int) := by omega
      have hkin : (0 : Int) ≤ (kk : Int) ∧ (kk : Int) ≤ 4 := by omega
      have hkd : kd x = (kk : Int) := by unfold kd; rw [hkk]
      generalize stK ks k (.live b) = s at hf R5' hst hgo
      generalize goK ks k (.live b) = ts at O5 O5' hgo hgl
      obtain ⟨t, s', hts⟩ : ∃ t s', get (kk : Int) s = (t, s') := ⟨_, _, rfl⟩
      rw [hkd, hts] at hst hgo
      have hts' := Lib.hid hts
      have hst' := Lib.hid hst
      have hgo' := Lib.hid hgo
      have hgl' := Lib.hid hgl
      obtain ⟨AT, cT, rfl⟩ := O5.form
      clear hx hkk hts O5 hkd hst hgo hgl
      go_wp2_with fail
      refine (read_any g lo h kk s wr R5'.out hf hkin).mono ?_
      rintro r w5 ⟨v5, rfl, T5, R6, k5⟩
      rw [hts'.out] at T5 R6
      have O6 := O5'.out.chg k5 (fun i hi e => by obtain ⟨_, e2⟩ := e; omega)
      have hs6 := k5.size
      obtain ⟨u5, rfl, N5⟩ := T5
      obtain ⟨A5, c5, rfl⟩ := N5.form
      have hBa : Below w5.heap.size w5 (w5.alloc (.cells #[.int .i64 t.k, .int .i64 t.n, .bool t.b, .string ⟨t.d.toArray⟩, .slice A5 t.l.length c5] 33)) := (Below.refl _ _).alloc (Nat.le_refl _) _
      have hat := Lib.hid (thAt_new w5 t (.slice A5 t.l.length c5))
      have N6 := Lib.hid ((N5.mono hhw).below hBa)
      have O7 := Lib.hid (O6.below hBa)
      have R7 := Lib.hid (R6.below hBa)
      have B7 := Lib.hid ((B5'.out.trans (chg_below k5 (by omega) (by omega))).trans (hBa.mono (by omega)))
      have hbase : h ≤ (w5.alloc (.cells #[.int .i64 t.k, .int .i64 t.n, .bool t.b, .string ⟨t.d.toArray⟩, .slice A5 t.l.length c5] 33)).heap.size := Nat.le_trans (by omega) hBa.size
      clear k5 R6 N5 O6 hBa R5' O5' B5'
      go_wp2_with (at_builtin; refine wpList_append_thing rfl _ _ rfl h _ ts rfl O7.out w5.heap.size t (.slice A5 t.l.length c5) rfl hat.out N6.out (by have := hgl'.out; omega) hbase ?_; intro v6 w6 O8 hg6 hn6; have O8' := Lib.hid O8; have hg6' := Lib.hid hg6; have hn6' := Lib.hid hn6; clear O8 hg6 hn6)
      go_roundw
      case rel =>
        refine ⟨k + 1, by go_num, by omega, by rw [hgo'.out]; exact O8'.out, ?_, ?_, Nat.le_trans hbase hg6'.out.size⟩
        · rw [hst'.out]; exact rd_grown R7.out (Below.refl _ _) hg6'.out (fun i hi => hn6'.out i hi)
        · exact B7.out.grown hg6'.out B7.out.size (fun i hi => by have := hn6'.out i hi; omega)
      case measure => simp [intOf]; omega
    · obtain rfl : k = ks.length := by omega
      have hkin : ∀ k ∈ (ks.take ks.length).map kd, 0 ≤ k ∧ k ≤ 4 := fun k hk => by
        obtain ⟨c, _, rfl⟩ := List.mem_map.1 hk
        exact kd_in c
      have hinv : ∀ r, stK ks ks.length (.live b) = .live r → b = Wr.all (goK ks ks.length (.live b)) ++ r := fun r h => gets_inv _ _ _ hkin h
      have hwf : ∀ t ∈ goK ks ks.length (.live b), WfT t := got_wf (n := b.length) (by omega) _ _ hkin (Nat.le_refl _)
      have hcost : cost (goK ks ks.length (.live b)) ≤ (Wr.all (goK ks ks.length (.live b))).length := got_cost _ _ hkin
      have hok : (stK ks ks.length (.live b)).Ok := gets_ok _ (show (St.live b).Ok from trivial)
      generalize stK ks ks.length (.live b) = s at hf R5' hinv hok
      generalize goK ks ks.length (.live b) = ts at O5 O5' hinv hwf hcost hgl
      have hinv' := Lib.hid hinv
      have hwf' := Lib.hid hwf
      have hcost' := Lib.hid hcost
      obtain ⟨AT, cT, rfl⟩ := O5.form
      clear hinv hwf hcost hgl O5
      by_cases hE : s.end = 0
      · obtain rfl : s = .live [] := by
          cases s with
          | live r => cases r with
            | nil => rfl
            | cons c r => simp [St.end] at hE
          | dead e =>
            obtain ⟨_, _, _, _, _, _, _, h0, _⟩ := R5'.out
            exact absurd hE h0
        have hbt := hinv'.out [] rfl
        rw [List.append_nil] at hbt
        have hct := hcost'.out
        rw [← hbt] at hct
        have hbt' := Lib.hid hbt
        have hct' := Lib.hid hct
        have hrt := Lib.hid (O5'.out.rt rfl)
        clear hbt hct hinv' hcost' hE hok
        have hcb : ∀ w', Below wr.heap.size wr w' → (convert 22 9 (.slice A b.length c)).run Try.prog w' = .ok (.string ⟨b.toArray⟩) w' := fun w' hb => (hb'.out.below (B5'.out.trans (hb.mono (by omega)))).conv
        have hcb' := Lib.hid hcb
        clear hcb
        have hb0 : Below wr.heap.size wr wr.drew := (Below.refl _ _).drew
        have hcb0 := hcb'.out _ hb0
        go_wp2_with fail
        go_region_law (first
          | (go_simp; go_at_call 17; refine (all_any AT cT ts _ (hrt.out.below hb6) hwf'.out (by have := hct'.out; omega)).mono ?_; rintro r w7 ⟨v7, rfl, O7, hbw⟩; rw [← hbt'.out] at O7; have hcv := O7.rb.conv; have hb7 : Below wr.heap.size wr w7 := then_ hb6 hbw; have hcb7 := hcb'.out _ hb7; have O7' := Lib.hid O7; clear O7 hbw)
          | (go_simp; go_at_call 14; refine (cfinish_any g lo h (.live []) _ (R5'.out.below hb0) hf).mono ?_; rintro r w6 ⟨rfl, hbw⟩; rw [show St.end (St.live []) = 0 from rfl, show ((0 : Nat) : Int) = 0 from rfl]; have hb6 : Below wr.heap.size wr w6 := then_ hb0 hbw; have hcb6 := hcb'.out _ hb6; clear hbw))
        all_goals (
          go_wp2
          go_ret
          exact ⟨by simp [Act.put], B5'.out.trans (hb7.mono (by omega))⟩)
      · rcases end_of_ok hok hE with hEE | hEE
        · have hEE := Lib.hid hEE
          have hbw := B5'.out
          obtain ⟨G, hG1, hG2⟩ : ∃ G : Regrown → World, (∀ r, Below wr.heap.size wr (G r)) ∧ (∀ w', Below wr.heap.size wr w' → ∃ r, w' = G r) := ⟨fun p => Sort.grow (redrawn wr p.d) p.os, fun r => below_regrown wr r.d r.os, fun w' h => regrown_of_below h⟩
          have hW0 : ∃ q, wr.drew = G q := hG2 _ (Below.refl _ _).drew
          have HF := Lib.hid (fun r => show Calls Try.prog 14 #[.pointer (some ⟨g, 0, none⟩)] (G r) (fun e w'' => e = .returned (.int .i64 2) ∧ ∃ q : Regrown, w'' = G q) from (cfinish_any g lo h s (G r) (R5'.out.below (hG1 r)) hf).mono fun e w'' ⟨he, hb⟩ => ⟨by rw [he, hEE.out]; rfl, hG2 _ (then_ (hG1 r) hb)⟩)
          have HB := Lib.hid (fun r => hbw.trans ((hG1 r).mono (show W.heap.size ≤ wr.heap.size from by omega)))
          clear hE hG1 hG2 hbw
          go_wp2_with fail
          refine wp_region_G (G := G) (by kernel_rfl) (by kernel_rfl) hW0 ?_
          repeat (first | go_big_quiet_skip | (go_big_quiet_want; go_big_quiet_op; first | go_big_quiet_on | go_big_quiet_call ((go_at_call 14; exact HF.out _))))
          refine wpQuiet_nil ?_
          rintro _ ⟨r, rfl⟩
          go_wp2
          go_ret
          exact ⟨rfl, HB.out r⟩
        · have hEE := Lib.hid hEE
          have hbw := B5'.out
          obtain ⟨G, hG1, hG2⟩ : ∃ G : Regrown → World, (∀ r, Below wr.heap.size wr (G r)) ∧ (∀ w', Below wr.heap.size wr w' → ∃ r, w' = G r) := ⟨fun p => Sort.grow (redrawn wr p.d) p.os, fun r => below_regrown wr r.d r.os, fun w' h => regrown_of_below h⟩
          have hW0 : ∃ q, wr.drew = G q := hG2 _ (Below.refl _ _).drew
          have HF := Lib.hid (fun r => show Calls Try.prog 14 #[.pointer (some ⟨g, 0, none⟩)] (G r) (fun e w'' => e = .returned (.int .i64 11) ∧ ∃ q : Regrown, w'' = G q) from (cfinish_any g lo h s (G r) (R5'.out.below (hG1 r)) hf).mono fun e w'' ⟨he, hb⟩ => ⟨by rw [he, hEE.out]; rfl, hG2 _ (then_ (hG1 r) hb)⟩)
          have HB := Lib.hid (fun r => hbw.trans ((hG1 r).mono (show W.heap.size ≤ wr.heap.size from by omega)))
          clear hE hG1 hG2 hbw
          go_wp2_with fail
          refine wp_region_G (G := G) (by kernel_rfl) (by kernel_rfl) hW0 ?_
          repeat (first | go_big_quiet_skip | (go_big_quiet_want; go_big_quiet_op; first | go_big_quiet_on | go_big_quiet_call ((go_at_call 14; exact HF.out _))))
          refine wpQuiet_nil ?_
          rintro _ ⟨r, rfl⟩
          go_wp2
          go_ret
          exact ⟨rfl, HB.out r⟩
end Go.Proofs.Ytmmfkepkdmmmkaa
