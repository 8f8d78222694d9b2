/- The code: readLine, mayFollow. -/
import Derived.Test.YtjklpikopgihgaaGreatDoorKE
set_option linter.unusedVariables false
set_option maxRecDepth 100000
set_option linter.unusedSimpArgs false
namespace Go.Proofs.YtjklpikopgihgaaGreatDoor
open Go.RowKit Go.Lib Cf

theorem mayF_any (p l : Int) (w : World) : Calls Tryz.prog 79 #[.int .i64 p, .int .i64 l] w fun e w' => e = .returned (.bool (mayF p l)) ∧ w = w' := by
  by_cases q1 : l = 0
  · subst q1
    have hr := Lib.hid (show mayF p 0 = (p == 1) from by unfold mayF; rw [if_pos rfl]; by_cases e : p = 1 <;> simp [e])
    go_enter Tryz.func79, Tryz.ntmps79
    go_wp2
    go_ret
    exact ⟨ret_b hr.out.symm, rfl⟩
  have t1 : (l == 0) = false := by simp [q1]
  by_cases q2 : p = l
  · subst q2
    by_cases q3 : 1 < p
    · have hr := Lib.hid (show mayF p p = decide (p < 6) from by unfold mayF; rw [if_neg q1, if_pos rfl, decide_eq_true q3]; rfl)
      clear q1
      go_enter Tryz.func79, Tryz.ntmps79
      go_wp2
      go_ret
      exact ⟨ret_b hr.out.symm, rfl⟩
    · have hr := Lib.hid (show mayF p p = false from by unfold mayF; rw [if_neg q1, if_pos rfl, decide_eq_false q3]; rfl)
      clear q1
      go_enter Tryz.func79, Tryz.ntmps79
      go_wp2
      go_ret
      exact ⟨ret_b hr.out.symm, rfl⟩
  have t2 : (p == l) = false := by simp [q2]
  have hr := Lib.hid (show mayF p l = decide (l < p) from by unfold mayF; rw [if_neg q1, if_neg q2])
  clear q1 q2
  go_enter Tryz.func79, Tryz.ntmps79
  go_wp2
  go_ret
  exact ⟨ret_b hr.out.symm, rfl⟩

theorem wl_sp {l : Bs} (hl : l.length ≤ 900000) : Wl (sp l) := ⟨by rw [sp_count]; have := List.count_le_length (a := (32 : UInt8)) (l := l); omega, fun x hx => by have := sp_len l x hx; omega⟩
set_option maxHeartbeats 2000000 in
theorem readLine_any (B gc : Nat) (c : Cfg) (l : Bs) (w : World) (C : CfP w B gc c) (hB9 : 9 ≤ B) (hE : Env w) (hl : l.length ≤ 900000) (hlen : Lens c) :
    Calls Tryz.prog 78 #[.pointer (some ⟨gc, 0, none⟩), .string ⟨l.toArray⟩] w fun e w' => e = .returned (.int .i64 (mLine c l).2) ∧ CfP w' B gc (mLine c l).1 ∧ Below B w w' := by
  have HS := Lib.hid (split_any l w hE (by omega))
  have hwl := Lib.hid (wl_sp hl)
  have hm := Lib.hid (show mLine c l = ((mWords c (sp l, false)).1, if (mWords c (sp l, false)).2.2.2 = true ∨ (mWords c (sp l, false)).2.2.1 ≠ [] then 0 else (mWords c (sp l, false)).2.1) from rfl)
  have C' := Lib.hid C
  have hE' := Lib.hid hE
  have hBw : B ≤ w.heap.size := by have := C.lt; omega
  generalize sp l = r at *
  clear hE C
  go_enter Tryz.func78, Tryz.ntmps78
  go_wp2_with fail
  refine HS.out.mono ?_
  rintro e w1 ⟨v, rfl, hR, b1⟩
  have hRa := hR.below (alloc_below w1 (.cells #[v, .bool false] 99))
  have hH : WdP (w1.alloc (.cells #[v, .bool false] 99)) w1.heap.size r false := ⟨v, heap_alloc_new _ _, hRa⟩
  have B2 := (b1.mono hBw).trans ((alloc_below w1 (.cells #[v, .bool false] 99)).mono (Nat.le_trans hBw b1.size))
  have HW := Lib.hid (readWords_any B gc w1.heap.size c r false _ ((C'.out.below b1).below (alloc_below w1 (.cells #[v, .bool false] 99))) hH (Nat.le_trans hBw b1.size) hB9 (hE'.out.keep (B2.mono hB9)) hwl.out hlen)
  have B2' := Lib.hid B2
  obtain ⟨A, cc, rfl, _, _⟩ := hR
  clear hRa hH B2 b1 HS
  go_wp2_with fail
  refine HW.out.mono ?_
  rintro e w2 ⟨rfl, C2, H2, b2⟩
  have C2' := Lib.hid C2
  have B3 := Lib.hid (B2'.out.trans b2)
  obtain ⟨x1, x2, x3, x4, hx⟩ : ∃ x1 x2 x3 x4, mWords c (r, false) = (x1, x2, (x3, x4)) := ⟨_, _, _, _, rfl⟩
  rw [hx] at hm C2' H2
  rw [hx]
  simp only at hm C2' H2 ⊢
  obtain ⟨u, e1, A3, c3, rfl, _, _⟩ := H2
  obtain ⟨d0, d1, _, _⟩ := wd_cells e1
  clear e1 C2 b2 hx HW
  cases x4 with
  | true =>
    have hm := Lib.hid (show mLine c l = (x1, 0) from by rw [hm.out, if_pos (.inl rfl)])
    go_wp2
    go_ret
    rw [hm.out]
    exact ⟨rfl, C2'.out, B3.out⟩
  | false =>
    by_cases q : x3 = []
    · subst q
      have hm := Lib.hid (show mLine c l = (x1, x2) from by rw [hm.out, if_neg (by simp)])
      simp only [List.length_nil] at d0
      go_wp2
      go_ret
      rw [hm.out]
      exact ⟨rfl, C2'.out, B3.out⟩
    · have t : (0 : Int) < (x3.length : Int) := by have := List.length_pos_iff.2 q; omega
      have hm := Lib.hid (show mLine c l = (x1, 0) from by rw [hm.out, if_pos (.inr q)])
      clear q
      go_wp2
      go_ret
      rw [hm.out]
      exact ⟨rfl, C2'.out, B3.out⟩

/-! ### What a line adds -/

/-- The configuration's numbers and sizes, n lines having been read. -/
structure Okc (n : Nat) (c : Cfg) : Prop where
  ds : c.ds.length ≤ n
  es : c.es.length ≤ n
  us : c.us.length ≤ n
  ps : c.ps.length ≤ n
  inn : CfgIn c
  pin : ∀ p ∈ c.ps, p.code.length ≤ 1000000 ∧ p.kinds.length ≤ 1000000
theorem num_i64 (s : Wd) : I64 (mNum s).1 := by
  unfold mNum mNumOf
  split
  · exact num_bd _
  · unfold I64; omega
theorem time_i64 (s : Wd) : I64 (mTime s).1 := by
  unfold mTime mNumOf
  split
  · unfold I64; omega
  · split
    · exact num_bd _
    · unfold I64; omega
theorem kindOf_i64 (x : Bs) : I64 (kindOf x) := by
  unfold kindOf I64
  repeat' split
  all_goals omega
theorem code_len (s : Wd) : (mCode s).1.length ≤ 1000000 := by
  unfold mCode
  split
  · rename_i h
    unfold codeOk at h
    simp only [Bool.and_eq_true, decide_eq_true_eq] at h
    show (hd s.1).length ≤ _
    omega
  · simp
theorem kinds_len (s : Wd) (h : s.1.length ≤ 999999) : (mKinds s).1.length ≤ 1000000 := by
  obtain ⟨r, b⟩ := s
  unfold mKinds
  simp only [List.length_map] at h ⊢
  cases r with
  | nil => simp [orOne]
  | cons x r => simp [orOne] at *; omega
theorem setN_in {c : Cfg} (h : CfgIn c) (i : Nat) {z : Int} (hz : I64 z) : CfgIn (setN c i z) := by
  have hn := h.ns
  simp only [Cfg.nums, List.mem_cons, List.not_mem_nil, or_false, forall_eq_or_imp, forall_eq] at hn
  obtain ⟨h0, h1, h2, h3, h4, h5, h6, h7, h8, h9⟩ := hn
  unfold setN
  split
  all_goals (refine ⟨h.ce, h.ds, h.es, h.us, h.ps, ?_⟩)
  all_goals (simp only [Cfg.nums, List.mem_cons, List.not_mem_nil, or_false, forall_eq_or_imp, forall_eq])
  all_goals (exact ⟨by assumption, by assumption, by assumption, by assumption, by assumption, by assumption, by assumption, by assumption, by assumption, by assumption⟩)
theorem setN_ds (c : Cfg) (i : Nat) (z : Int) : (setN c i z).ds = c.ds ∧ (setN c i z).es = c.es ∧ (setN c i z).us = c.us ∧ (setN c i z).ps = c.ps := by unfold setN; split <;> exact ⟨rfl, rfl, rfl, rfl⟩
theorem Okc.line {n : Nat} {c : Cfg} (h : Okc n c) (l : Bs) (hl : l.length ≤ 900000) : Okc (n + 1) (mLine c l).1 := by
  have hw := (wl_sp hl).1
  have hs : (sp l).length ≤ 900001 := by rw [sp_count]; have := List.count_le_length (a := (32 : UInt8)) (l := l); omega
  show Okc (n + 1) (mWords c (sp l, false)).1
  generalize sp l = r at *
  obtain ⟨h1, h2, h3, h4, h5, h6⟩ := h
  have hns : ∀ z ∈ c.nums, I64 z := h5.ns
  unfold mWords
  simp only
  split
  · exact ⟨by simp only; omega, by simp only; omega, by simp only; omega, by simp only; omega, ⟨num_i64 _, h5.ds, h5.es, h5.us, h5.ps, hns⟩, h6⟩
  split
  · refine ⟨by simp; omega, by simp only; omega, by simp only; omega, by simp only; omega, ⟨h5.ce, fun d hd => ?_, h5.es, h5.us, h5.ps, hns⟩, h6⟩
    rcases List.mem_append.1 hd with hd | hd
    · exact h5.ds d hd
    · rw [List.mem_singleton] at hd; subst hd; exact num_i64 _
  split
  · refine ⟨by simp only; omega, by simp; omega, by simp only; omega, by simp only; omega, ⟨h5.ce, h5.ds, fun d hd => ?_, h5.us, h5.ps, hns⟩, h6⟩
    rcases List.mem_append.1 hd with hd | hd
    · exact h5.es d hd
    · rw [List.mem_singleton] at hd; subst hd; exact ⟨num_i64 _, num_i64 _, time_i64 _⟩
  split
  · refine ⟨by simp only; omega, by simp only; omega, by simp; omega, by simp only; omega, ⟨h5.ce, h5.ds, h5.es, fun d hd => ?_, h5.ps, hns⟩, h6⟩
    rcases List.mem_append.1 hd with hd | hd
    · exact h5.us d hd
    · rw [List.mem_singleton] at hd; subst hd; exact ⟨kindOf_i64 _, num_i64 _, num_i64 _⟩
  split
  · refine ⟨by simp only; omega, by simp only; omega, by simp only; omega, by simp; omega, ⟨h5.ce, h5.ds, h5.es, h5.us, fun d hd => ?_, hns⟩, fun d hd => ?_⟩
    · rcases List.mem_append.1 hd with hd | hd
      · exact h5.ps d hd
      · rw [List.mem_singleton] at hd; subst hd
        refine ⟨num_i64 _, fun k hk => ?_⟩
        simp only [mKinds, List.mem_map] at hk
        obtain ⟨x, _, rfl⟩ := hk
        exact kindOf_i64 x
    · rcases List.mem_append.1 hd with hd | hd
      · exact h6 d hd
      · rw [List.mem_singleton] at hd; subst hd
        refine ⟨code_len _, kinds_len _ ?_⟩
        rw [rest_num, rest_code]
        show (tl (tl (tl r))).length ≤ 999999
        have t : ∀ q : List Bs, (tl q).length ≤ q.length := fun q => by cases q <;> simp [tl]
        have := t r; have := t (tl r); have := t (tl (tl r))
        omega
  split
  · obtain ⟨e1, e2, e3, e4⟩ := setN_ds c (paramOf (hd r)) (mNum (tl r, false)).1
    exact ⟨by simp only; rw [e1]; omega, by simp only; rw [e2]; omega, by simp only; rw [e3]; omega, by simp only; rw [e4]; omega, setN_in h5 _ (num_i64 _), by simp only; rw [e4]; exact h6⟩
  · exact ⟨by simp only; omega, by simp only; omega, by simp only; omega, by simp only; omega, h5, h6⟩
theorem Okc.lens {n : Nat} {c : Cfg} (h : Okc n c) (hn : n ≤ 1000000) : Lens c := ⟨by have := h.ds; omega, by have := h.es; omega, by have := h.us; omega, by have := h.ps; omega⟩
theorem Okc.fair {n : Nat} {c : Cfg} (h : Okc n c) (hn : n ≤ 1000000) : Fair c := ⟨by have := h.ds; omega, by have := h.es; omega, by have := h.us; omega, by have := h.ps; omega, h.pin⟩
theorem dflt_in : CfgIn dflt := by
  refine ⟨?_, (fun d h => by cases h), (fun d h => by cases h), (fun d h => by cases h), (fun d h => by cases h), ?_⟩
  · unfold dflt I64; simp
  · unfold dflt I64; simp [Cfg.nums]
theorem okc_dflt : Okc 0 dflt := ⟨Nat.le_refl _, Nat.le_refl _, Nat.le_refl _, Nat.le_refl _, dflt_in, (fun p h => by cases h)⟩
end Go.Proofs.YtjklpikopgihgaaGreatDoor
