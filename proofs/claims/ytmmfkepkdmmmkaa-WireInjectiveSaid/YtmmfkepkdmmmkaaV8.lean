/- The law WireRoundTrip. -/
import Derived.Test.YtmmfkepkdmmmkaaV7
set_option linter.unusedVariables false
set_option linter.unusedSimpArgs false
namespace Go.Proofs.Ytmmfkepkdmmmkaa
open Go.RowKit Go.Lib Wr

/-- What an argument of things may hold. -/
def Ths (l : List Th) : Prop := ∀ t ∈ l, I64 t.k ∧ I64 t.n ∧ t.d.length ≤ 2 ^ 61 ∧ t.l.length ≤ 2 ^ 61 ∧ ∀ x ∈ t.l, I64 x
theorem Ths.small {l : List Th} (h : Ths l) : ∀ t ∈ l, I64 t.k ∧ t.d.length ≤ 2 ^ 61 ∧ t.l.length ≤ 2 ^ 61 := fun t ht => ⟨(h t ht).1, (h t ht).2.2.1, (h t ht).2.2.2.1⟩
theorem Ths.wf {l : List Th} (h : Ths l) (hf : few l = true) : ∀ t ∈ l, WfT t := fun t ht => by
  obtain ⟨h1, h2, h3, h4, h5⟩ := h t ht
  exact ⟨(few_of hf).2 t ht, h2, by omega, by omega, h5⟩
theorem five_cells {w : World} {G : Nat} {t : Th} {u : Value} (h : TB w G t u) : w.cell? ⟨G, 0, none⟩ = some (.int .i64 t.k) ∧ w.cell? ⟨G, 1, none⟩ = some (.int .i64 t.n) ∧ w.cell? ⟨G, 2, none⟩ = some (.bool t.b) ∧ w.cell? ⟨G, 3, none⟩ = some (.string ⟨t.d.toArray⟩) ∧ w.cell? ⟨G, 4, none⟩ = some u := h.cells
theorem tb_new (w : World) (t : Th) (u : Value) : TB (w.alloc (.cells #[.int .i64 t.k, .int .i64 t.n, .bool t.b, .string ⟨t.d.toArray⟩, u] 33)) w.heap.size t u := heap_alloc_new w _
theorem TB.bel {w w' : World} {G : Nat} {t : Th} {u : Value} (h : TB w G t u) (hb : Below w.heap.size w w') : TB w' G t u := (hb.block G h.lt).trans h
theorem rsame_yes (t : Th) (v v' : Value) (w : World) (h : ThV w v t) (h' : ThV w v' t) (h10 : t.l.length ≤ 1000000) : Calls Try.prog 11 #[v, v'] w fun r w' => r = .returned (.bool true) ∧ Below w.heap.size w w' :=
  (rsame_any t t v v' w h h' h10).mono fun r w' h => ⟨by rw [h.1]; simp, h.2⟩
theorem end_live_nil : St.end (.live []) = 0 := rfl
theorem end_live_one (x : UInt8) : St.end (.live [x]) = 2 := rfl

set_option maxRecDepth 100000 in
set_option maxHeartbeats 4000000 in
theorem lawRound (A : Option Addr) (c : Nat) (l : List Th) (x : UInt8) (W : World) (hr : RT W A l) (hs : Ths l) (hl : l.length ≤ 9223372036854775807) :
    Calls Try.prog 4 #[.slice A l.length c, .int .u8 (x.toNat : Int)] W fun r w' => r = .returned (.bool true) ∧ Below W.heap.size W w' := by
  have hr' := Lib.hid hr
  cases hfew : few l with
  | false =>
    clear hr
    go_enter Try.func4, Try.ntmps4
    go_wp2_with fail
    refine (awake_any _).mono ?_
    rintro r w1 ⟨rfl, b1⟩
    go_wp2_with fail
    refine (rfew_any A c l w1 (hr'.out.below b1) hs.small hl).mono ?_
    rintro r w2 ⟨rfl, b2⟩
    rw [hfew]
    have B2 := then_ b1 b2
    go_wp2_with fail
    refine (awake_any _).mono ?_
    rintro r w3 ⟨rfl, b3⟩
    go_wp2
    go_ret
    exact ⟨rfl, then_ B2 b3⟩
  | true =>
    obtain ⟨hcost, hkinds⟩ := few_of hfew
    have hwf := hs.wf hfew
    have hcl := cost_length l
    have hal := all_len l hwf
    have hwf' := Lib.hid hwf
    clear hr hwf
    go_enter Try.func4, Try.ntmps4
    go_wp2_with fail
    refine (awake_any _).mono ?_
    rintro r w1 ⟨rfl, b1⟩
    go_wp2_with fail
    refine (rfew_any A c l w1 (hr'.out.below b1) hs.small hl).mono ?_
    rintro r w2 ⟨rfl, b2⟩
    rw [hfew]
    have B2 := then_ b1 b2
    have hs2 := B2.size
    clear b1 b2 hfew
    go_wp2_with fail
    refine (all_any A c l w2 (hr'.out.below B2) hwf'.out (by omega)).mono ?_
    rintro r w3 ⟨v3, rfl, O3, b3⟩
    have B3 := then_ B2 b3
    have hs3 := B3.size
    have O3' := Lib.hid O3
    obtain ⟨A3, c3, rfl⟩ := O3.form
    have hE := OwnB.empty w3 (Nat.le_refl _)
    have hBE : Below w3.heap.size w3 (w3.alloc (.cells #[] 5)) := (Below.refl _ _).alloc (Nat.le_refl _) _
    have hRb := Lib.hid (O3.below hBE).rb
    obtain ⟨bs, hbs⟩ : ∃ bs, Wr.all l = bs := ⟨_, rfl⟩
    have hbs' := Lib.hid hbs
    rw [hbs] at hal O3' hRb ⊢
    clear b3 O3 B2 hs2 hbs
    go_wp2_with (at_builtin; refine wpList_append_bytes rfl _ _ rfl w3.heap.size _ [] rfl hE _ bs rfl hRb.out (by simp; omega) (by simp) ?_; intro v4 w4 O4 hg4 _)
    have b4 : Below w3.heap.size w3 w4 := hBE.grown hg4 (by simp) (fun k hk => (World.ownsRow.lt hE k hk).1)
    rw [List.nil_append] at O4
    have O4' := Lib.hid O4
    clear O4 hg4 hRb hE hBE
    refine (newReader_any v4 bs w3.heap.size w4 O4'.out b4.size (by omega)).mono ?_
    rintro r w5 ⟨g1, rfl, R5, b5⟩
    have B35 : Below w3.heap.size w3 w5 := b4.trans (b5.mono b4.size)
    have B5 := then_ B3 B35
    have hs35 := B35.size
    have R5' := Lib.hid R5
    have O5 := O3'.out.below B35
    have O5' := Lib.hid O5
    clear R5 b5 b4 O4' O3' B35 B3
    have hE := OwnB.empty w5 (Nat.le_refl _)
    have hBE : Below w5.heap.size w5 (w5.alloc (.cells #[] 5)) := (Below.refl _ _).alloc (Nat.le_refl _) _
    have hRb := Lib.hid (O5.below hBE).rb
    clear O5
    have h63 := Lib.hid (show bs.length + [x].length ≤ 100000000 from by simp; omega)
    go_wp2_with (first
      | (at_builtin; refine wpList_append_bytes rfl _ _ rfl w5.heap.size _ [] rfl hE _ bs rfl hRb.out (by simp; omega) (by simp) ?_; intro v6 w6 O6 hg6 _; have b6 : Below w5.heap.size w5 w6 := hBE.grown hg6 (by simp) (fun k hk => (World.ownsRow.lt hE k hk).1); have b6s := b6.size; rw [List.nil_append] at O6; have O6' := Lib.hid O6; clear O6 hg6)
      | (at_builtin; refine wpList_append_bytes rfl _ _ rfl w5.heap.size _ bs rfl (O6'.out.alloc _) _ [x] rfl (OwnB.one w6 (Nat.le_refl _) x).rb h63.out (by rw [World.size_alloc]; omega) ?_; intro v7 w7 O7 hg7 _; have b7 : Below w5.heap.size w5 w7 := (b6.alloc b6s _).grown hg7 (by rw [World.size_alloc]; omega) (fun k hk => (World.ownsRow.lt O6'.out k hk).1); have O7' := Lib.hid O7; clear O7 hg7))
    refine (newReader_any v7 (bs ++ [x]) w5.heap.size w7 O7'.out b7.size (by simp; omega)).mono ?_
    rintro r w8 ⟨g2, rfl, Q8, b8⟩
    have B58 : Below w5.heap.size w5 w8 := b7.trans (b8.mono b7.size)
    have R8 := Lib.hid (R5'.out.below B58)
    have Q8' := Lib.hid Q8
    have B8 := then_ B5 B58
    have hs58 := B58.size
    clear Q8 b8 b7 b6 b6s O7' O6' hE hBE hRb O5' R5' B58 B5
    go_wp2_with fail
    obtain ⟨lo1, hlo1⟩ : ∃ a, w3.heap.size = a := ⟨_, rfl⟩
    obtain ⟨hi1, hhi1⟩ : ∃ a, w5.heap.size = a := ⟨_, rfl⟩
    obtain ⟨hi2, hhi2⟩ : ∃ a, w8.heap.size = a := ⟨_, rfl⟩
    rw [hlo1] at R8 hs3 hs35
    rw [hhi1] at R8 Q8' hs35 hs58
    rw [hhi2] at Q8' hs58
    go_loopw [39] (fun i w' => ∃ k : Nat, i = .int .i64 (k : Int) ∧ k ≤ l.length ∧ RdP w' g1 lo1 hi1 (.live (Wr.all (l.drop k))) ∧ RdP w' g2 hi1 hi2 (.live (Wr.all (l.drop k) ++ [x])) ∧ Below W.heap.size W w') (fun i _ => l.length - (intOf i).toNat)
    case atStart => exact ⟨0, rfl, by omega, by rw [List.drop_zero, hbs'.out]; exact R8.out, by rw [List.drop_zero, hbs'.out]; exact Q8'.out, B8⟩
    case round =>
      obtain ⟨k, rfl, hk, R9, Q9, B9⟩ := hrel
      clear R8 Q8' B8 hlo1 hhi1 hhi2
      have hal2 : (Wr.all (l.drop k)).length ≤ 4000 := by
        have h1 := all_split l k
        have h2 := congrArg List.length h1
        rw [List.length_append, hbs'.out] at h2
        omega
      have R9' := Lib.hid R9
      have Q9' := Lib.hid Q9
      have B9' := Lib.hid B9
      have hs9 := B9.size
      have hi1w := R9.hi
      have hi2w := Q9.hi
      clear R9 Q9 B9
      by_cases hlt : k < l.length
      · obtain ⟨t, ht⟩ : ∃ t, l[k]? = some t := ⟨_, List.getElem?_eq_getElem hlt⟩
        obtain ⟨ad, u, rfl, hatW, hruW⟩ := hr'.out.at_ ht
        obtain ⟨ua, uc, rfl⟩ := hruW.form
        have hat := hatW.below B9'.out
        have Nu := Lib.hid (fun w' (hb : Below W.heap.size W w') => hruW.below hb)
        have e1 : (k : Int) < (l.length : Int) := by omega
        have e2 : (0 : Int) ≤ (k : Int) := by omega
        have hwt := hwf'.out t (List.mem_of_getElem? ht)
        have hkin := hwt.k
        have hdr := drop_cons ht
        have hp1 := get_put hwt (Wr.all (l.drop (k + 1)))
        have hp2 := get_put hwt (Wr.all (l.drop (k + 1)) ++ [x])
        rw [← List.append_assoc] at hp2
        rw [← all_cons, ← hdr] at hp1
        rw [show Wr.put t ++ Wr.all (l.drop (k + 1)) = Wr.all (l.drop k) from by rw [hdr, all_cons]] at hp2
        have hp1' := Lib.hid hp1
        have hp2' := Lib.hid hp2
        have htl : t.l.length ≤ 1000000 := by have := cost_mem ht; omega
        have hol : (only t).l.length ≤ 1000000 := by unfold only; split; · simp
                                                     split; · simp
                                                     split; · exact htl
                                                     · simp
        have hT := tb_new wr t (.slice ua t.l.length uc)
        have hBt : Below wr.heap.size wr (wr.alloc (.cells #[.int .i64 t.k, .int .i64 t.n, .bool t.b, .string ⟨t.d.toArray⟩, .slice ua t.l.length uc] 33)) := (Below.refl _ _).alloc (Nat.le_refl _) _
        have R10 := R9'.out.below hBt
        have Q10 := Q9'.out.below hBt
        have B10 := then_ B9'.out hBt
        clear ht hruW hatW hdr hp1 hp2 hwt
        go_wp2_with (refine wpList_load_thing rfl _ rfl (ad.add (k * 5)) rfl t (.slice ua t.l.length uc) hat ?_)
        generalize wr.alloc (.cells #[.int .i64 t.k, .int .i64 t.n, .bool t.b, .string ⟨t.d.toArray⟩, .slice ua t.l.length uc] 33) = W2 at hT hBt R10 Q10 B10 ⊢
        have hGh := hi2w
        generalize wr.heap.size = G at hT hBt hGh
        have hWG : W.heap.size ≤ W2.heap.size := B10.size
        have hB0 : Below W2.heap.size W2 W2.drew := (Below.refl _ _).drew
        have hGW2 := hT.lt
        -- what is told of the world at hand: Rr, Rq, T9, Bw, Nu; S is read off T9
        have Rr : RdP W2.drew g1 lo1 hi1 (.live (Wr.all (l.drop k))) := R10.below hB0
        have Rq : RdP W2.drew g2 hi1 hi2 (.live (Wr.all (l.drop k) ++ [x])) := Q10.below hB0
        have T9 : TB W2.drew G t (.slice ua t.l.length uc) := hT
        have Bw : Below W.heap.size W W2.drew := then_ B10 hB0
        have hS := T9.cells
        obtain ⟨ov, hov⟩ : ∃ ov, onV t (.slice ua t.l.length uc) = ov := ⟨_, rfl⟩
        have HO := Lib.hid (fun w' (hb : Below W.heap.size W w') => show Calls Try.prog 18 #[.agg #[.int .i64 t.k, .int .i64 t.n, .bool t.b, .string ⟨t.d.toArray⟩, .slice ua t.l.length uc]] w' fun r w'' => r = .returned ov ∧ Below w'.heap.size w' w'' from hov ▸ ronly_is t (.slice ua t.l.length uc) w' (Nu.out w' hb))
        have HV := Lib.hid (fun w' (hb : Below W.heap.size W w') => show ThV w' ov (only t) from hov ▸ onV_th (Nu.out w' hb))
        generalize only t = ot at hol hp1' hp2' HV
        have hf1 := Lib.hid (show St.Few 100000 (.live (Wr.all (l.drop k))) from (show _ ≤ 100000 from by omega))
        have hf2 := Lib.hid (show St.Few 100000 (.live (Wr.all (l.drop k) ++ [x])) from (show _ ≤ 100000 from by rw [List.length_append, List.length_singleton]; omega))
        have hin1 := Lib.hid (show ¬ Iv lo1 hi1 G from fun e => by obtain ⟨_, e2⟩ := e; omega)
        have hin2 := Lib.hid (show ¬ Iv hi1 hi2 G from fun e => by obtain ⟨_, e2⟩ := e; omega)
        have hlo1 : W.heap.size ≤ lo1 := by omega
        have hlo2 : W.heap.size ≤ hi1 := by omega
        clear hov Nu
        clear hT R10 Q10 B10 hBt hB0
        go_region_held3 (fun w' => w'.cell? ⟨G, 0, none⟩ = some (.int .i64 t.k) ∧ w'.cell? ⟨G, 1, none⟩ = some (.int .i64 t.n) ∧ w'.cell? ⟨G, 2, none⟩ = some (.bool t.b) ∧ w'.cell? ⟨G, 3, none⟩ = some (.string ⟨t.d.toArray⟩) ∧ w'.cell? ⟨G, 4, none⟩ = some (.slice ua t.l.length uc)) (exact hS) (first
          | (go_at_call 12; refine (read_any g1 lo1 hi1 t.k _ _ Rr hf1.out hkin).mono ?_; rintro r w' ⟨vr, rfl, Tr, Rr1, kr⟩; rw [hp1'.out] at Tr Rr1; simp only at Tr Rr1; have T9 := T9.chg kr hin1.out; have Rq := Rq.far kr (.inr (Nat.le_refl _)); have Rr := Rr1; have Bw := Bw.trans (chg_below kr hlo1 Bw.size); have hS := T9.cells)
          | (go_at_call 12; refine (read_any g2 hi1 hi2 t.k _ _ Rq hf2.out hkin).mono ?_; rintro r w' ⟨vq, rfl, Tq, Rq1, kr⟩; rw [hp2'.out] at Tq Rq1; simp only at Tq Rq1; have T9 := T9.chg kr hin2.out; have Rr := Rr.far kr (.inl (Nat.le_refl _)); have Rq := Rq1; have Bw := Bw.trans (chg_below kr hlo2 Bw.size); have hS := T9.cells)
          | (go_at_call 18; refine (HO.out _ Bw).mono ?_; rintro r w' ⟨rfl, bo⟩; have T9 := T9.bel bo; have Rr := Rr.below bo; have Rq := Rq.below bo; have Bw := then_ Bw bo; (try have Tr := Tr.below bo); (try have Tq := Tq.below bo); have hS := T9.cells)
          | (go_at_call 11; refine (rsame_yes ot vr ov _ Tr.v (HV.out _ Bw) hol).mono ?_; rintro r w' ⟨rfl, bo⟩; have T9 := T9.bel bo; have Rr := Rr.below bo; have Rq := Rq.below bo; have Bw := then_ Bw bo; (try have Tr := Tr.below bo); (try have Tq := Tq.below bo); have hS := T9.cells)
          | (go_at_call 11; refine (rsame_yes ot vq ov _ Tq.v (HV.out _ Bw) hol).mono ?_; rintro r w' ⟨rfl, bo⟩; have T9 := T9.bel bo; have Rr := Rr.below bo; have Rq := Rq.below bo; have Bw := then_ Bw bo; (try have Tr := Tr.below bo); (try have Tq := Tq.below bo); have hS := T9.cells))
        all_goals (
          have hend := Lib.hid (And.intro Rr (And.intro Rq Bw))
          clear Rr Rq Bw T9 hS
          go_wp2
          go_roundw
          case rel => exact ⟨k + 1, by go_num, by omega, hend.out⟩
          case measure => simp [intOf]; omega)
      · obtain rfl : k = l.length := by omega
        have hnil : Wr.all (l.drop l.length) = [] := by rw [List.drop_length]; rfl
        rw [hnil] at R9' Q9'
        rw [List.nil_append] at Q9'
        go_wp2_with fail
        refine (cfinish_any g1 lo1 hi1 _ wr R9'.out (show _ ≤ 100000 from by simp)).mono ?_
        rintro r w10 ⟨rfl, b10⟩
        rw [end_live_nil]
        have Q10 := Lib.hid (Q9'.out.below b10)
        have B10 := then_ B9'.out b10
        go_wp2_with fail
        refine (cfinish_any g2 hi1 hi2 _ w10 Q10.out (show _ ≤ 100000 from by simp)).mono ?_
        rintro r w11 ⟨rfl, b11⟩
        rw [end_live_one]
        have B11 := then_ B10 b11
        go_wp2
        go_ret
        exact ⟨rfl, B11⟩
end Go.Proofs.Ytmmfkepkdmmmkaa
