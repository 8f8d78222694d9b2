/- The law WireTruncated. -/
import Derived.Test.YtmmfkepkdmmmkaaV8
set_option linter.unusedVariables false
set_option linter.unusedSimpArgs false
namespace Go.Proofs.Ytmmfkepkdmmmkaa
open Go.RowKit Go.Lib Wr

theorem only_l (t : Th) : (only t).l.length ≤ t.l.length := by
  unfold only
  split
  · simp
  split
  · simp
  split <;> simp
/-- A load of a whole thing, one step of a region that draws its order. -/
theorem q_load_thing {G : Regrown → World} {a : Act} {o : Oper} {K : Act → Prop} (x : Operand) (p : Addr) (t : Th) (u : Value) (ho : o.op = .load 33 x) (hx : a.eval x = .pointer (some p))
    (hs : ∀ r, ThAt (G r) p t u) (h : K (a.put o.dst (.agg #[.int .i64 t.k, .int .i64 t.n, .bool t.b, .string ⟨t.d.toArray⟩, u]))) : o.quiet Try.prog a (fun w' => ∃ p : Regrown, w' = G p) K := by
  refine ⟨_, ?_, h⟩
  rintro w ⟨r, rfl⟩
  have hr := run_load_thing (hs r)
  unfold Oper.quietAt execOp
  simp only [ho, hx, Instr.loadAt, Instr.sureAddr, Sem.run_bind, Sem.run_pure, Result.andThen_ok, hr]
  exact ⟨rfl, rfl⟩
set_option maxRecDepth 100000 in
set_option maxHeartbeats 4000000 in
theorem lawCut (A : Option Addr) (c : Nat) (l : List Th) (z : Int) (W : World) (hr : RT W A l) (hs : Ths l) (hl : l.length ≤ 9223372036854775807) (hz : I64 z) :
    Calls Try.prog 5 #[.slice A l.length c, .int .i64 z] W fun r w' => r = .returned (.bool true) ∧ Below W.heap.size W w' := by
  have hr' := Lib.hid hr
  cases hfew : few l with
  | false =>
    clear hr
    go_enter Try.func5, Try.ntmps5
    go_wp2_with fail
    refine (awake_any _).mono ?_
    rintro r w1 ⟨rfl, b1⟩
    go_wp2_with fail
    refine (rfew_any A c l w1 (hr'.out.below b1) hs.small hl).mono ?_
    rintro r w2 ⟨rfl, b2⟩
    rw [hfew]
    have B2 := then_ b1 b2
    go_wp2_with fail
    refine (awake_any _).mono ?_
    rintro r w3 ⟨rfl, b3⟩
    go_wp2
    go_ret
    exact ⟨rfl, then_ B2 b3⟩
  | true =>
    obtain ⟨hcost, hkinds⟩ := few_of hfew
    have hwf := hs.wf hfew
    have hcl := cost_length l
    have hal := all_len l hwf
    have hwf' := Lib.hid hwf
    clear hr hwf
    go_enter Try.func5, Try.ntmps5
    go_wp2_with fail
    refine (awake_any _).mono ?_
    rintro r w1 ⟨rfl, b1⟩
    go_wp2_with fail
    refine (rfew_any A c l w1 (hr'.out.below b1) hs.small hl).mono ?_
    rintro r w2 ⟨rfl, b2⟩
    rw [hfew]
    have B2 := then_ b1 b2
    have hs2 := B2.size
    clear b1 b2 hfew
    go_wp2_with fail
    refine (all_any A c l w2 (hr'.out.below B2) hwf'.out (by omega)).mono ?_
    rintro r w3 ⟨v3, rfl, O3, b3⟩
    have B3 := then_ B2 b3
    have hs3 := B3.size
    have O3' := Lib.hid O3
    obtain ⟨A3, c3, rfl⟩ := O3.form
    obtain ⟨bs, hbs⟩ : ∃ bs, Wr.all l = bs := ⟨_, rfl⟩
    have hbs' := Lib.hid hbs
    rw [hbs] at hal O3' O3 ⊢
    clear b3 B2 hs2 hbs
    by_cases hz0 : z < 0
    · clear O3
      go_wp2
      go_ret
      exact ⟨rfl, B3⟩
    obtain ⟨cut, rfl⟩ : ∃ cut : Nat, z = (cut : Int) := ⟨z.toNat, by omega⟩
    by_cases hz1 : bs.length ≤ cut
    · have z1 : (bs.length : Int) ≤ (cut : Int) := by omega
      clear O3
      go_wp2
      go_ret
      exact ⟨rfl, B3⟩
    have z1 : ¬ (bs.length : Int) ≤ (cut : Int) := by omega
    have z2 : (cut : Int) ≤ (bs.length : Int) := by omega
    have z3 : (cut : Int) ≤ (c3 : Int) := by have := O3.rb.cap; omega
    have hE := OwnB.empty w3 (Nat.le_refl _)
    have hBE : Below w3.heap.size w3 (w3.alloc (.cells #[] 5)) := (Below.refl _ _).alloc (Nat.le_refl _) _
    have hRb := Lib.hid ((O3.below hBE).rb.take' (show cut ≤ bs.length from by omega))
    have hcl2 : (bs.take cut).length = cut := by rw [List.length_take]; omega
    have h63 := Lib.hid (show ([] : Bs).length + (bs.take cut).length ≤ 100000000 from by rw [hcl2]; simp; omega)
    have hRb := Lib.hid (show RB (w3.alloc (.cells #[] 5)) (.slice A3 cut c3) (bs.take cut) from hRb.out)
    have hcl2 := Lib.hid hcl2
    clear O3 O3'
    go_wp2_with (at_builtin; refine wpList_append_bytes rfl _ _ rfl w3.heap.size _ [] rfl hE _ (bs.take cut) rfl hRb.out h63.out (by simp) ?_; intro v4 w4 O4 hg4 _)
    have b4 : Below w3.heap.size w3 w4 := hBE.grown hg4 (by simp) (fun k hk => (World.ownsRow.lt hE k hk).1)
    rw [List.nil_append] at O4
    have O4' := Lib.hid O4
    clear O4 hg4 hRb hE hBE
    refine (newReader_any v4 (bs.take cut) w3.heap.size w4 O4'.out b4.size (by have := hcl2.out; omega)).mono ?_
    rintro r w5 ⟨g, rfl, R5, b5⟩
    have B35 : Below w3.heap.size w3 w5 := b4.trans (b5.mono b4.size)
    have B5 := then_ B3 B35
    have hs35 := B35.size
    have R5' := Lib.hid R5
    clear R5 b5 b4 O4' B35 B3
    obtain ⟨lo, hlo⟩ : ∃ a, w3.heap.size = a := ⟨_, rfl⟩
    obtain ⟨hi, hhi⟩ : ∃ a, w5.heap.size = a := ⟨_, rfl⟩
    rw [hlo] at R5' hs3 hs35
    rw [hhi] at R5' hs35
    go_wp2_with fail
    go_loopw [7, 39] (fun n i w' => ∃ k N : Nat, i = .int .i64 (k : Int) ∧ k ≤ l.length ∧ n = .int .i64 (N : Int) ∧ (Wr.all (l.take k)).length = N ∧ RdP w' g lo hi (cutSt l k [] cut) ∧ Below W.heap.size W w') (fun _ i _ => l.length - (intOf i).toNat)
    case atStart =>
      refine ⟨0, 0, rfl, by omega, rfl, by rw [List.take_zero]; rfl, ?_, B5⟩
      have : cutSt l 0 [] cut = .live (bs.take cut) := by
        unfold cutSt
        rw [List.take_zero, show (Wr.all [] : Bs) = [] from rfl, if_pos (by simp), List.drop_zero, List.append_nil, hbs'.out]; rfl
      rw [this]; exact R5'.out
    case round =>
      obtain ⟨k, N, rfl, hk, rfl, hN, R6, B6⟩ := hrel
      clear R5' B5
      have hfew6 : St.Few 100000 (cutSt l k [] cut) := by
        unfold cutSt
        split
        · show _ ≤ 100000
          rw [List.length_take]; omega
        · trivial
      have R6' := Lib.hid R6
      have B6' := Lib.hid B6
      have hs6 := B6.size
      have hi6 := R6.hi
      clear R6 B6
      by_cases hlt : k < l.length
      · obtain ⟨t, ht⟩ : ∃ t, l[k]? = some t := ⟨_, List.getElem?_eq_getElem hlt⟩
        obtain ⟨ad, u, rfl, hatW, hruW⟩ := hr'.out.at_ ht
        obtain ⟨ua, uc, rfl⟩ := hruW.form
        have hat := hatW.below B6'.out
        have Nu := Lib.hid (fun w' (hb : Below W.heap.size W w') => hruW.below hb)
        have e1 : (k : Int) < (l.length : Int) := by omega
        have e2 : (0 : Int) ≤ (k : Int) := by omega
        have hwt := hwf'.out t (List.mem_of_getElem? ht)
        have hkin := hwt.k
        have hct := cost_mem ht
        have hgc := get_cutSt ht hwt [] cut
        have hN' : (Wr.all (l.take (k + 1))).length = N + (Wr.put t).length := by rw [all_take ht, List.length_append, hN]
        obtain ⟨M, hM⟩ : ∃ M, (Wr.put t).length = M := ⟨_, rfl⟩
        rw [hM] at hN'
        have hMb : (M : Int) ≤ 10000 := by have := put_len hwt; omega
        have hNb : (N : Int) ≤ 10000 := by
          have h1 := congrArg List.length (all_split l k)
          rw [List.length_append, hbs'.out, hN] at h1
          omega
        have hwt' := Lib.hid hwt
        have hT := tb_new wr t (.slice ua t.l.length uc)
        have hBt : Below wr.heap.size wr (wr.alloc (.cells #[.int .i64 t.k, .int .i64 t.n, .bool t.b, .string ⟨t.d.toArray⟩, .slice ua t.l.length uc] 33)) := (Below.refl _ _).alloc (Nat.le_refl _) _
        have R7 := R6'.out.below hBt
        have B7 := then_ B6'.out hBt
        obtain ⟨N', hNN⟩ : ∃ N' : Nat, N + M = N' := ⟨_, rfl⟩
        rw [hNN] at hN'
        have hsum : (N : Int) + (M : Int) = (N' : Int) := by omega
        have hfew7 := Lib.hid hfew6
        have hM' := Lib.hid hM
        clear ht hruW hatW hwt hN hNN hfew6 hM
        go_wp2_with (refine wpList_load_thing rfl _ rfl (ad.add (k * 5)) rfl t (.slice ua t.l.length uc) hat ?_)
        generalize wr.alloc (.cells #[.int .i64 t.k, .int .i64 t.n, .bool t.b, .string ⟨t.d.toArray⟩, .slice ua t.l.length uc] 33) = W2 at hT hBt R7 B7 ⊢
        generalize wr.heap.size = g9 at hT hBt hi6
        refine (rput_any t (.slice ua t.l.length uc) W2 hwt'.out (Nu.out _ B7) (by omega) (by omega)).mono ?_
        rintro r w7 ⟨v7, rfl, P7, b7⟩
        obtain ⟨pa, pc, rfl⟩ := P7.form
        rw [hM'.out]
        have T97' := Lib.hid (hT.bel b7)
        have R7' := Lib.hid (R7.below b7)
        have B7' := Lib.hid (then_ B7 b7)
        have hin := Lib.hid (show ¬ Iv lo hi g9 from fun e => by obtain ⟨_, e2⟩ := e; omega)
        have hlo1 : W.heap.size ≤ lo := by omega
        obtain ⟨k0, k1, k2, k3, k4⟩ := (hT.bel b7).cells
        clear hT hBt R7 B7 b7 P7 hat R6' B6'
        by_cases hc : (Wr.all (l.take (k + 1))).length ≤ cut
        · have hres : (if (Wr.all (l.take (k + 1))).length ≤ cut then only t else zero t.k) = only t := if_pos hc
          rw [hres] at hgc
          have hgc' := Lib.hid hgc
          have hNe := Lib.hid hN'
          have c1 : (N' : Int) ≤ (cut : Int) := by omega
          have c2 : decide ((cut : Int) < (N' : Int)) = false := decide_eq_false (by omega)
          have c3 : decide (cut < N') = false := decide_eq_false (by omega)
          clear hres hgc hc hN'
          go_wp2_with fail
          refine (read_any g lo hi t.k _ w7 R7'.out hfew7.out hkin).mono ?_
          rintro r w8 ⟨v8, rfl, T8, R8, k8⟩
          rw [hgc'.out] at T8 R8
          simp only at T8 R8
          have B8 := B7'.out.trans (chg_below k8 hlo1 B7'.out.size)
          have T9b := T97'.out.chg k8 hin.out
          obtain ⟨xu, rfl, X8⟩ := T8
          obtain ⟨xa, xc, rfl⟩ := X8.form
          have hX8s := k8.size
          generalize htx : only t = tx at X8
          have hB10 : Below w8.heap.size w8 (w8.alloc (.cells #[.int .i64 tx.k, .int .i64 tx.n, .bool tx.b, .string ⟨tx.d.toArray⟩, .slice xa tx.l.length xc] 33)) := (Below.refl _ _).alloc (Nat.le_refl _) _
          have T10 := tb_new w8 tx (.slice xa tx.l.length xc)
          have X10 := X8.below hB10
          have R10 := R8.below hB10
          have B10 := then_ B8 hB10
          have T9c := T9b.bel hB10
          have hsz10 : (w8.alloc (.cells #[.int .i64 tx.k, .int .i64 tx.n, .bool tx.b, .string ⟨tx.d.toArray⟩, .slice xa tx.l.length xc] 33)).heap.size = w8.heap.size + 1 := World.size_alloc _ _
          have htx' := Lib.hid htx
          clear T97' R7' B7' k8 R8 B8 T9b X8 hB10 htx
          go_wp2_with fail
          have hxl := Lib.hid (show tx.l.length ≤ 1000000 from by rw [← htx'.out]; have := only_l t; omega)
          generalize w8.alloc (.cells #[.int .i64 tx.k, .int .i64 tx.n, .bool tx.b, .string ⟨tx.d.toArray⟩, .slice xa tx.l.length xc] 33) = W3 at T10 X10 R10 B10 T9c hsz10 ⊢
          generalize w8.heap.size = g10 at T10 hsz10
          obtain ⟨G, hG1, hG2⟩ : ∃ G : Regrown → World, (∀ r, Below W3.heap.size W3 (G r)) ∧ (∀ w', Below W3.heap.size W3 w' → ∃ r, w' = G r) := ⟨fun p => Sort.grow (redrawn W3 p.d) p.os, fun r => below_regrown W3 r.d r.os, fun w' h => regrown_of_below h⟩
          have hW0 : ∃ q, W3.drew = G q := hG2 _ (Below.refl _ _).drew
          have H9 := Lib.hid (fun r => (T9c.bel (hG1 r)).at_)
          have H10 := Lib.hid (fun r => (T10.bel (hG1 r)).at_)
          have hck : ∀ r, (G r).cell? ⟨g9, 0, none⟩ = some (.int .i64 t.k) := fun r => (T9c.bel (hG1 r)).cells.1
          obtain ⟨ov, hov⟩ : ∃ ov, onV t (.slice ua t.l.length uc) = ov := ⟨_, rfl⟩
          have HO := Lib.hid (fun r => show Calls Try.prog 18 #[.agg #[.int .i64 t.k, .int .i64 t.n, .bool t.b, .string ⟨t.d.toArray⟩, .slice ua t.l.length uc]] (G r) (fun e w'' => e = .returned ov ∧ ∃ q : Regrown, w'' = G q) from (ronly_is t (.slice ua t.l.length uc) (G r) (Nu.out _ (then_ B10 (hG1 r)))).mono fun e w'' ⟨he, hb⟩ => ⟨hov ▸ he, hG2 _ (then_ (hG1 r) hb)⟩)
          have HS := Lib.hid (fun r => show Calls Try.prog 11 #[.agg #[.int .i64 tx.k, .int .i64 tx.n, .bool tx.b, .string ⟨tx.d.toArray⟩, .slice xa tx.l.length xc], ov] (G r) (fun e w'' => e = .returned (.bool true) ∧ ∃ q : Regrown, w'' = G q) from (rsame_yes tx _ ov (G r) ⟨_, rfl, (X10.below (hG1 r)).rn⟩ (hov ▸ htx'.out ▸ onV_th (Nu.out _ (then_ B10 (hG1 r)))) hxl.out).mono fun e w'' ⟨he, hb⟩ => ⟨he, hG2 _ (then_ (hG1 r) hb)⟩)
          have Hend := Lib.hid (fun r => And.intro (R10.below (hG1 r)) (then_ B10 (hG1 r)))
          clear hG1 hG2 T9c T10 X10 R10 B10 hov
          refine wp_region_G (G := G) (by kernel_rfl) (by kernel_rfl) hW0 ?_
          repeat (first | go_big_quiet_skip | (go_big_quiet_want; first
            | (refine q_load_thing _ ⟨g9, 0, none⟩ t (.slice ua t.l.length uc) rfl rfl H9.out ?_; simp only [Act.put, List.setIfInBounds_toArray, List.set_cons_zero, List.set_cons_succ]; go_big_quiet_on)
            | (refine q_load_thing _ ⟨g10, 0, none⟩ tx (.slice xa tx.l.length xc) rfl rfl H10.out ?_; simp only [Act.put, List.setIfInBounds_toArray, List.set_cons_zero, List.set_cons_succ]; go_big_quiet_on)
            | (go_big_quiet_op; first | go_big_quiet_on | go_big_quiet_call (first
              | (go_at_call 18; exact HO.out _)
              | (go_at_call 11; exact HS.out _)))))
          refine wpQuiet_nil ?_
          rintro _ ⟨q, rfl⟩
          have hend := Lib.hid (Hend.out q)
          clear hck
          go_wp2
          go_roundw
          case rel => exact ⟨k + 1, _, by go_num, by omega, rfl, hNe.out, hend.out⟩
          case measure => simp [intOf]; omega
        · have hres : (if (Wr.all (l.take (k + 1))).length ≤ cut then only t else zero t.k) = zero t.k := if_neg hc
          rw [hres] at hgc
          have hgc' := Lib.hid hgc
          have hNe := Lib.hid hN'
          have c1 : decide ((N' : Int) ≤ (cut : Int)) = false := decide_eq_false (by omega)
          have c3 : decide (N' ≤ cut) = false := decide_eq_false (by omega)
          have c2 : (cut : Int) < (N' : Int) := by omega
          clear hres hgc hc hN'
          go_wp2_with fail
          refine (read_any g lo hi t.k _ w7 R7'.out hfew7.out hkin).mono ?_
          rintro r w8 ⟨v8, rfl, T8, R8, k8⟩
          rw [hgc'.out] at T8 R8
          simp only at T8 R8
          have B8 := B7'.out.trans (chg_below k8 hlo1 B7'.out.size)
          have T9b := T97'.out.chg k8 hin.out
          obtain ⟨xu, rfl, X8⟩ := T8
          obtain ⟨xa, xc, rfl⟩ := X8.form
          have hX8s := k8.size
          generalize htx : zero t.k = tx at X8
          have hB10 : Below w8.heap.size w8 (w8.alloc (.cells #[.int .i64 tx.k, .int .i64 tx.n, .bool tx.b, .string ⟨tx.d.toArray⟩, .slice xa tx.l.length xc] 33)) := (Below.refl _ _).alloc (Nat.le_refl _) _
          have T10 := tb_new w8 tx (.slice xa tx.l.length xc)
          have X10 := X8.below hB10
          have R10 := R8.below hB10
          have B10 := then_ B8 hB10
          have T9c := T9b.bel hB10
          have hsz10 : (w8.alloc (.cells #[.int .i64 tx.k, .int .i64 tx.n, .bool tx.b, .string ⟨tx.d.toArray⟩, .slice xa tx.l.length xc] 33)).heap.size = w8.heap.size + 1 := World.size_alloc _ _
          have htx' := Lib.hid htx
          clear T97' R7' B7' k8 R8 B8 T9b X8 hB10 htx
          go_wp2_with fail
          have hxl := Lib.hid (show tx.l.length ≤ 1000000 from by rw [← htx'.out]; simp [zero])
          generalize w8.alloc (.cells #[.int .i64 tx.k, .int .i64 tx.n, .bool tx.b, .string ⟨tx.d.toArray⟩, .slice xa tx.l.length xc] 33) = W3 at T10 X10 R10 B10 T9c hsz10 ⊢
          generalize w8.heap.size = g10 at T10 hsz10
          obtain ⟨G, hG1, hG2⟩ : ∃ G : Regrown → World, (∀ r, Below W3.heap.size W3 (G r)) ∧ (∀ w', Below W3.heap.size W3 w' → ∃ r, w' = G r) := ⟨fun p => Sort.grow (redrawn W3 p.d) p.os, fun r => below_regrown W3 r.d r.os, fun w' h => regrown_of_below h⟩
          have hW0 : ∃ q, W3.drew = G q := hG2 _ (Below.refl _ _).drew
          have H9 := Lib.hid (fun r => (T9c.bel (hG1 r)).at_)
          have H10 := Lib.hid (fun r => (T10.bel (hG1 r)).at_)
          have hck : ∀ r, (G r).cell? ⟨g9, 0, none⟩ = some (.int .i64 t.k) := fun r => (T9c.bel (hG1 r)).cells.1
          obtain ⟨ov, hov⟩ : ∃ ov, onV t (.slice ua t.l.length uc) = ov := ⟨_, rfl⟩
          have HO := Lib.hid (fun r => show Calls Try.prog 18 #[.agg #[.int .i64 t.k, .int .i64 t.n, .bool t.b, .string ⟨t.d.toArray⟩, .slice ua t.l.length uc]] (G r) (fun e w'' => e = .returned ov ∧ ∃ q : Regrown, w'' = G q) from (ronly_is t (.slice ua t.l.length uc) (G r) (Nu.out _ (then_ B10 (hG1 r)))).mono fun e w'' ⟨he, hb⟩ => ⟨hov ▸ he, hG2 _ (then_ (hG1 r) hb)⟩)
          have HS := Lib.hid (fun r => show Calls Try.prog 11 #[.agg #[.int .i64 tx.k, .int .i64 tx.n, .bool tx.b, .string ⟨tx.d.toArray⟩, .slice xa tx.l.length xc], .agg #[.int .i64 t.k, .int .i64 0, .bool false, .string ⟨([] : Bs).toArray⟩, .slice none 0 0]] (G r) (fun e w'' => e = .returned (.bool true) ∧ ∃ q : Regrown, w'' = G q) from (rsame_yes tx _ _ (G r) ⟨_, rfl, (X10.below (hG1 r)).rn⟩ (htx'.out ▸ ⟨_, rfl, RN.nil _⟩) hxl.out).mono fun e w'' ⟨he, hb⟩ => ⟨he, hG2 _ (then_ (hG1 r) hb)⟩)
          have Hend := Lib.hid (fun r => And.intro (R10.below (hG1 r)) (then_ B10 (hG1 r)))
          clear hG1 hG2 T9c T10 X10 R10 B10 hov
          refine wp_region_G (G := G) (by kernel_rfl) (by kernel_rfl) hW0 ?_
          repeat (first | go_big_quiet_skip | (go_big_quiet_want; first
            | (refine q_load_thing _ ⟨g9, 0, none⟩ t (.slice ua t.l.length uc) rfl rfl H9.out ?_; simp only [Act.put, List.setIfInBounds_toArray, List.set_cons_zero, List.set_cons_succ]; go_big_quiet_on)
            | (refine q_load_thing _ ⟨g10, 0, none⟩ tx (.slice xa tx.l.length xc) rfl rfl H10.out ?_; simp only [Act.put, List.setIfInBounds_toArray, List.set_cons_zero, List.set_cons_succ]; go_big_quiet_on)
            | (go_big_quiet_op; first | go_big_quiet_on | go_big_quiet_call (first
              | (go_at_call 18; exact HO.out _)
              | (go_at_call 11; exact HS.out _)))))
          refine wpQuiet_nil ?_
          rintro _ ⟨q, rfl⟩
          have hend := Lib.hid (Hend.out q)
          clear hck
          go_wp2
          go_roundw
          case rel => exact ⟨k + 1, _, by go_num, by omega, rfl, hNe.out, hend.out⟩
          case measure => simp [intOf]; omega
      · obtain rfl : k = l.length := by omega
        have hdd : cutSt l l.length [] cut = .dead 11 := by
          unfold cutSt
          rw [List.take_length, hbs'.out, if_neg (by omega)]
        rw [hdd] at R6'
        go_wp2_with fail
        refine (cfinish_any g lo hi _ wr R6'.out trivial).mono ?_
        rintro r w10 ⟨rfl, b10⟩
        rw [show St.end (.dead 11) = 11 from rfl]
        go_wp2
        go_ret
        exact ⟨rfl, then_ B6'.out b10⟩
end Go.Proofs.Ytmmfkepkdmmmkaa
