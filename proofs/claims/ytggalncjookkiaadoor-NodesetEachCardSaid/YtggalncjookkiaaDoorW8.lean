/- String: a range over the iterator that writes a text. -/
import Derived.Test.YtggalncjookkiaaDoorW7
namespace Go.Proofs.YtggalncjookkiaaDoor
open Go.RowKit Go.Lib Go.Shelf Nds
attribute [local go_sem] Oper.semAt_some

theorem upb : Tryd.prog.underlying 59 = some (.slice 5) := Tryd.underlying59
theorem info_u8 : (Tryd.prog.info? 5).map (fun i => (i.zero, i.size, i.bytes)) = some (some (.int .u8 0), 1, 1) := by kernel_rfl

/-- The slice v is the call's own from block base on and holds the bytes l. -/
def OwnB (w : World) (base : Nat) (v : Value) (l : Bs) : Prop := w.ownsRow base 5 1 v l.length (byteCells l)

theorem OwnB.nil (w : World) (base : Nat) : OwnB w base (.slice none 0 0) [] := World.ownsRow_nil _ _ _ _
theorem OwnB.slice {w : World} {base : Nat} {v : Value} {l : Bs} (h : OwnB w base v l) : ∃ A c, v = .slice A l.length c := by
  rcases h.2 with ⟨h1, h2⟩ | ⟨g, cap, _, h1, _⟩
  · exact ⟨none, 0, by rw [h1, h2]⟩
  · exact ⟨_, _, h1⟩
theorem OwnB.some {w : World} {base : Nat} {v : Value} {l : Bs} (h : OwnB w base v l) (hl : 0 < l.length) : ∃ g c, v = .slice (some ⟨g, 0, none⟩) l.length c := by
  rcases h.2 with ⟨_, h2⟩ | ⟨g, cap, _, h1, _⟩
  · omega
  · exact ⟨_, _, h1⟩

theorem byteCells_app (a b : Bs) : byteCells (a ++ b) = byteCells a ++ byteCells b := by simp [byteCells]

/-- What a step keeps of the boxes and of what is no cells. -/
structure Kept (base : Nat) (W W' : World) : Prop where
  others : KeepsOthers W W'
  below : Below base W W'
  box : ∀ B t v, t ≠ 5 → Boxed W B t v → Boxed W' B t v
  set : ∀ B p, SetAt W B p → SetAt W' B p

theorem Kept.refl (base : Nat) (W : World) : Kept base W W := ⟨KeepsOthers.refl _, Below.refl _ _, fun _ _ _ _ h => h, fun _ _ h => h⟩
theorem Kept.trans {base : Nat} {A B C : World} (h : Kept base A B) (k : Kept base B C) : Kept base A C :=
  ⟨h.others.trans k.others, h.below.trans k.below, fun b t v ht hb => k.box b t v ht (h.box b t v ht hb), fun b p hs => k.set b p (h.set b p hs)⟩

theorem Kept.ofOthers {base : Nat} {W W' : World} (hb : Below base W W') (ho : OthersKept 5 none W W') : Kept base W W' :=
  ⟨⟨hb.size, fun k o hk hc => ho k o hk (by simp) (fun c fz e => by subst e; cases hc)⟩, hb,
   fun B t v ht h => ho B _ h (by simp) (fun c fz e => by injection e with _ e2; exact ht e2),
   fun B p h => ho B _ h (by simp) (fun c fz e => by injection e with _ e2; revert e2; decide)⟩

theorem Kept.ofBelow {base : Nat} {W W' : World} (hb : Below W.heap.size W W') (hB : base ≤ W.heap.size) : Kept base W W' :=
  ⟨⟨hb.size, fun k _ hk _ => (hb.block k (Array.getElem?_eq_some_iff.1 hk).1).trans hk⟩, hb.mono hB,
   fun B _ _ _ h => (hb.block B h.lt).trans h, fun _ _ h => h.below hb h.lt⟩

theorem Kept.ofGrown {base : Nat} {W W' : World} {v : Value} {l : Bs} (hg : W.grownBy W' v.ownBlock) (hown : OwnB W base v l) (hB : base ≤ W.heap.size) : Kept base W W' := by
  have hrow : ∀ r, v.ownBlock = some r → ∃ c fz, W.heap[r]? = some (.cells c 5 fz) := fun r e => by
    rcases hown.2 with ⟨rfl, _⟩ | ⟨g, cap, cur, rfl, _, hgb, _⟩
    · simp [Value.ownBlock] at e
    · obtain rfl : g = r := by simpa [Value.ownBlock] using e
      exact ⟨cur, _, hgb⟩
  exact Kept.ofOthers ((Below.refl base W).grown hg hB (fun k e => (hown.lt k e).1)) (fun k o hk _ ho => (hg.block k (Array.getElem?_eq_some_iff.1 hk).1 (fun e => by
    obtain ⟨c, fz, h⟩ := hrow k e.symm
    rw [h] at hk; injection hk with hk
    exact ho c fz hk.symm)).trans hk)

/-- A store of the text into its box. -/
theorem OwnB.set {W : World} {base B : Nat} {v v' : Value} {l : Bs} (h : OwnB W base v' l) (hb : Boxed W B 59 v) : OwnB (W.setCell ⟨B, 0, none⟩ v') base v' l :=
  World.ownsRow.kept h (grownBy_setCell' W B v') (.inr (hb.not_row (by decide) h).symm)

/-- AppendInt, at one of the text's own slices. -/
theorem appendInt_any (base : Nat) (v : Value) (l : Bs) (x : Int) (w : World) (hE : Env w) (hown : OwnB w base v l) (h6 : 6 ≤ base) (hB : base ≤ w.heap.size) (hl : l.length ≤ 1000000) (h0 : 0 ≤ x) (h1 : x < 4096) :
    Calls Tryd.prog 38 #[v, .int .i64 x, .int .i64 10] w fun e w' => ∃ g n c, e = .returned (.slice (some ⟨g, 0, none⟩) n c) ∧ OwnB w' base (.slice (some ⟨g, 0, none⟩) n c) (l ++ decDigits x.toNat) ∧ Kept base w w' := by
  have e : itoa x = decDigits x.toNat := by unfold itoa; rw [if_neg (by omega)]
  have htab : Lib.TabBelow Tryd.prog base w "internal/strconv.uint64pow10" .u64 Lib.pow10Tab := fun w' hb => var?_below hb gPow (by omega) hE.pow
  refine (Tryd.strconv_AppendInt_10 base l.length x (by omega) (by omega) v (byteCells l) w hown hB (by omega) htab).mono ?_
  rintro en w' ⟨v', rfl, hown', hb, ho⟩
  rw [e] at hown'
  have h2 : OwnB w' base v' (l ++ decDigits x.toNat) := by
    unfold OwnB
    rw [List.length_append, byteCells_app]
    exact hown'
  have hpos : 0 < (l ++ decDigits x.toNat).length := by
    have := List.length_pos_iff.2 (dd_ne x.toNat)
    rw [List.length_append]; omega
  obtain ⟨g, c, rfl⟩ := h2.some hpos
  exact ⟨g, _, c, rfl, h2, Kept.ofOthers hb ho⟩

section
variable {F : Fence} {n : Nat} {ops : Array Oper} {rest : List Oper} {o : Oper} {a : Act} {W : World} {Q : Exit → Act → World → Prop}
/-- append of one byte, inside a fence. -/
theorem wpListIn_pushB (s x : Operand) (base : Nat) (v : Value) (l : Bs) (c : UInt8) (k : Int) (hk : k = (c.toNat : Int)) (hgd : o.guard = none) (ho : o.op = .call { callee := .builtin .append, args := #[s, x], argTypes := #[59, 59] })
    (hs : a.eval s = v) (hx : a.eval x = .slice (some ⟨W.heap.size, 0, none⟩) 1 1) (hown : OwnB W base v l) (hn : l.length ≤ 1000000) (hbase : base ≤ W.heap.size)
    (h : ∀ g cap w', OwnB w' base (.slice (some ⟨g, 0, none⟩) (l.length + 1) cap) (l ++ [c]) → Kept base W w' → wpListIn F n Tryd.prog ops Q rest (a.put o.dst (.slice (some ⟨g, 0, none⟩) (l.length + 1) cap)) w') : wpListIn F n Tryd.prog ops Q (o :: rest) a (W.alloc (.cells #[.int .u8 k] 5)) := by
  subst hk
  obtain ⟨i0, hi, hz0, hz1, hz2⟩ := info_parts info_u8
  have hown' : OwnB (W.alloc (.cells #[.int .u8 c.toNat] 5)) base v l := World.ownsRow.alloc hown _
  refine wpListIn_append_own _ hgd s x 59 ho base 5 i0 (.int .u8 0) 1 1 upb hi hz0 hz1 hz2 rfl (by decide) v l.length (byteCells l) hs hown' ⟨W.heap.size, 0, none⟩ 1 1 [.int .u8 c.toNat] hx rfl
    (cell_one_new _ _ _) (by simp [Value.oneCell']) (by unfold maxLen; omega) (by omega) (by simp; omega) ?_
  intro v' w' hown2 hg _
  have h2 : OwnB w' base v' (l ++ [c]) := by
    unfold OwnB
    rw [List.length_append, byteCells_app]
    exact hown2
  obtain ⟨g, cap, rfl⟩ := h2.some (by simp)
  have e : (l ++ [c]).length = l.length + 1 := by simp
  rw [e] at h2 ⊢
  exact h g cap w' h2 ((Kept.ofBelow ((Below.refl _ _).alloc (Nat.le_refl _) _) hbase).trans (Kept.ofGrown hg hown' (by simp; omega)))
end

theorem OwnB.text {W : World} {base : Nat} {v : Value} {l : Bs} (h : OwnB W base v l) : (convert 59 9 v).run Tryd.prog W = .ok (.string ⟨l.toArray⟩) W := by
  rcases h.2 with ⟨rfl, h0⟩ | ⟨g, cap, cur, rfl, _⟩
  · obtain rfl : l = [] := List.eq_nil_of_length_eq_zero h0
    rw [run_convert_bytes_string W 59 9 5 none 0 0 upb Tryd.underlying5 Tryd.underlying9]
    rfl
  · refine run_convert_bytes_back (P := Tryd.prog) W 59 9 5 ⟨g, 0, none⟩ cap l upb Tryd.underlying5 Tryd.underlying9 fun j hj => ?_
    refine World.ownsRow.cells h (g := g) rfl j _ ?_
    simp [byteCells, hj]

theorem OwnB.to {w w' : World} {base : Nat} {v : Value} {l : Bs} (h : OwnB w base v l) (hb : Below w.heap.size w w') : OwnB w' base v l := by
  obtain ⟨h1, h2⟩ := h
  refine ⟨h1, ?_⟩
  rcases h2 with h2 | ⟨g, cap, cur, hv, hg, hh, r⟩
  · exact Or.inl h2
  · exact Or.inr ⟨g, cap, cur, hv, hg, by rw [hb.block g (Array.getElem?_eq_some_iff.1 hh).1]; exact hh, r⟩

/-- Where the loop's body stands: the round began in W0, the text l lies in the box B, the set p in the block S. -/
structure St (base B S : Nat) (p : Nat → Bool) (W0 W : World) (v : Value) (l : Bs) : Prop where
  others : KeepsOthers W0 W
  below : Below base W0 W
  box : Boxed W B 59 v
  own : OwnB W base v l
  set : SetAt W S p

theorem St.call {base B S : Nat} {p : Nat → Bool} {W0 W w2 : World} {v : Value} {l : Bs} (h : St base B S p W0 W v l) (hb : Below W.heap.size W w2) (hB : base ≤ W.heap.size) : St base B S p W0 w2 v l :=
  let K := Kept.ofBelow hb hB
  ⟨h.others.trans K.others, h.below.trans K.below, K.box _ _ _ (by decide) h.box, h.own.to hb, K.set _ _ h.set⟩

theorem St.write {base B S : Nat} {p : Nat → Bool} {W0 W w2 : World} {v v' : Value} {l l' : Bs} (h : St base B S p W0 W v l) (K : Kept base W w2) (hown : OwnB w2 base v' l') (hB : base ≤ B) (hS : S ≠ B) : St base B S p W0 (w2.setCell ⟨B, 0, none⟩ v') v' l' :=
  have hb := K.box _ _ _ (by decide) h.box
  ⟨(h.others.trans K.others).trans (KeepsOthers.setCell _ _ _), (h.below.trans K.below).setCell (p := ⟨B, 0, none⟩) hB _, hb.set v', hown.set hb, (K.set _ _ h.set).far (a := ⟨B, 0, none⟩) hS _⟩

theorem step_len (p : Nat → Bool) (acc : Bs) (x : Int) (hx : x < 4096) : (stepTx p acc x).length ≤ acc.length + 5 := by
  have := dd_len x.toNat (by omega)
  unfold stepTx
  split
  · split <;> simp <;> omega
  · split
    · simp; omega
    · omega
theorem fold_len (p : Nat → Bool) : ∀ (l : List Nd) (acc : Bs), ((vals l).foldl (stepTx p) acc).length ≤ acc.length + 5 * l.length
  | [], acc => by simp [vals]
  | x :: l, acc => by
    have h1 := step_len p acc x.1 x.2.2
    have h2 := fold_len p l (stepTx p acc x.1)
    simp only [vals, List.map_cons, List.foldl_cons, List.length_cons] at *
    omega
/-- The text of the first nodes. -/
def textOf (p : Nat → Bool) (l : List Nd) : Bs := (vals l).foldl (stepTx p) []
theorem textOf_snoc (p : Nat → Bool) (l : List Nd) (x : Nd) : textOf p (l ++ [x]) = stepTx p (textOf p l) x.1 := by unfold textOf; rw [vals_snoc, List.foldl_append]; rfl

theorem hasB_hasI (p : Nat → Bool) (n : Int) : hasB p n = hasI p n := rfl

theorem holdsText_own (n₀ B : Nat) (p : Nat → Bool) : Go.Own (fun (l : List Nd) W => ∃ v, Boxed W B 59 v ∧ W.ownsRow n₀ 5 1 v (textOf p l).length (byteCells (textOf p l)) ∧ True) :=
  holdsRow_own n₀ B 59 5 1 (fun l => (textOf p l).length) (fun l => byteCells (textOf p l)) (fun _ _ => True)
theorem setAt_own {β : Type} (B : Nat) (p : Nat → Bool) : Go.Own (fun (_ : β) W => SetAt W B p) := fun s X Y row hs hg hrow => by
  refine (hg.block B hs.lt (fun e => ?_)).trans hs
  obtain ⟨o, ho, hc⟩ := hrow B e.symm
  rw [show X.heap[B]? = _ from hs] at ho
  cases ho; cases hc

set_option maxRecDepth 100000 in
set_option maxHeartbeats 4000000 in
theorem str_any (p : Nat → Bool) (w : World) (hE : Env w) :
    Calls Tryd.prog 29 #[.agg (cells p)] w fun e w' => e = .returned (.string ⟨(txt p).toArray⟩) ∧ Below w.heap.size w w' := by
  have hsz := hE.size
  have s3 : SetAt ((w.alloc (.cells (cells p) 28)).alloc (.cells #[.slice none 0 0] 59)) w.heap.size p := (SetAt.new w p).alloc _
  refine (callsIn_wide (n := 7)).1 ?_
  refine callsIn_of_wp_marks Tryd.func29 rfl trivial ?_ rfl
  simp only [Tryd.ntmps29, List.size_toArray, List.length_cons, List.length_nil, Nat.reduceAdd, Nat.reduceSub, Array.replicate_succ, Array.replicate_zero, List.push_toArray, List.append_toArray, List.nil_append, List.cons_append]
  gi_wp2_with (first
    | refine wpListIn_load_set _ _ _ rfl rfl rfl s3 ?_
    | (refine ⟨trivial, ?_⟩; gi_at_call 33; refine (callsIn_wide.2 (each_any p _)).mono ?_; rintro e w4 ⟨rfl, rfl⟩))
  have B5 : Below w.heap.size w (((w.alloc (.cells (cells p) 28)).alloc (.cells #[.slice none 0 0] 59)).alloc (.cells (cells p) 28)) := (((Below.refl _ w).alloc (Nat.le_refl _) _).alloc (by simp) _).alloc (by simp; omega) _
  have b1 : Boxed (((w.alloc (.cells (cells p) 28)).alloc (.cells #[.slice none 0 0] 59)).alloc (.cells (cells p) 28)) (w.heap.size + 1) 59 (.slice none 0 0) := by
    have := Boxed.new (w.alloc (.cells (cells p) 28)) 59 (.slice none 0 0)
    rw [World.size_alloc] at this
    exact this.alloc _
  have s5 : SetAt (((w.alloc (.cells (cells p) 28)).alloc (.cells #[.slice none 0 0] 59)).alloc (.cells (cells p) 28)) (w.heap.size + 1 + 1) p := by have := SetAt.new ((w.alloc (.cells (cells p) 28)).alloc (.cells #[.slice none 0 0] 59)) p; simpa using this
  refine wpIn_rangeFunc_ownG rfl (by decide) (gf := 42) (lb := #[.pointer (some ⟨w.heap.size + 1 + 1, 0, none⟩)]) rfl trivial (enters_of Tryd.func42 (by kernel_rfl) rfl)
    (each_nodes 6 (by omega) (w.heap.size + 1 + 1) w.heap.size p _ s5 (TabAt.below hE.db B5 (by omega)) hsz (by simp; omega)) belowK_t (belowK_b (by simp; omega)) (Below.refl _ _) (fun _ => rfl)
    (fun (pre : List Nd) W => ((∃ v, Boxed W (w.heap.size + 1) 59 v ∧ W.ownsRow w.heap.size 5 1 v (textOf p pre).length (byteCells (textOf p pre)) ∧ True) ∧ SetAt W w.heap.size p) ∧ Below w.heap.size w W)
    (fun _ _ _ => False)
    (OwnFrom.and (OwnFrom.and (Go.Own.from (holdsText_own _ _ p) _) (Go.Own.from (setAt_own _ p) _)) (ownFrom_below (Nat.le_refl _) (by simp; omega)))
    (fun _ _ _ _ _ hs _ _ => hs)
    ⟨⟨⟨_, b1, OwnB.nil _ _, trivial⟩, s3.alloc _⟩, B5⟩
    (fun x => { tmps := #[.agg (cells p), .pointer (some ⟨w.heap.size, 0, none⟩), .string ⟨#[]⟩, .pointer (some ⟨w.heap.size + 1, 0, none⟩), .int .i64 x.1, .agg (cells p), .func (.func 42) #[] #[.pointer (some ⟨w.heap.size + 1 + 1, 0, none⟩)], .int .i64 x.1, undef, undef, undef, undef, undef, undef, undef, undef, undef, undef, undef, undef, undef, undef, undef, undef, undef, undef, undef, undef, undef, undef, undef, undef, undef, undef, undef, undef, undef], defers := [] }) ?assign ?body ?done ?stop
  case assign =>
    intro l x W K hK
    gi_wp2
    exact hK
  case body =>
    rintro l pre ⟨x, hx0, hx1⟩ W ⟨⟨⟨v, hv, hrow, _⟩, hs⟩, hB⟩ hlt
    have hpl := eisz p
    have hBs := hB.size
    have hfl := fold_len p pre []
    have htx := textOf_snoc p pre ⟨x, hx0, hx1⟩
    change (textOf p pre).length ≤ _ at hfl
    simp only [List.length_nil, Nat.zero_add] at hfl
    generalize textOf p pre = acc at hrow hfl htx
    have hEW := hE.of hB
    obtain ⟨A, cp, rfl⟩ := OwnB.slice (w := W) hrow
    have S0 : St w.heap.size (w.heap.size + 1) w.heap.size p W W (.slice A acc.length cp) acc := ⟨KeepsOthers.refl _, Below.refl _ _, hv, hrow, hs⟩
    clear hv hrow
    unfold stepTx at htx
    rw [← hasB_hasI, ← hasB_hasI] at htx
    cases hp1 : hasB p (x - 1)
    · rw [if_pos hp1] at htx
      by_cases hemp : acc = []
      · rw [if_pos hemp] at htx
        subst hemp
        have HT := Lib.hid htx; clear htx
        gi_wp2_with (refine wpListIn_load_set _ _ _ rfl rfl rfl hs ?_)
        refine ⟨trivial, ?_⟩
        refine (CallsIn.inRound l (callsIn_wide.2 (has_any p _ _))).mono ?_
        rintro e w1 ⟨rfl, b1⟩
        have S1 := S0.call b1 hBs
        have hz1 := b1.size
        have hc1 := S1.box.cell
        have hf1 := S1.box.frozen
        gi_wp2_with fail
        refine ⟨trivial, ?_⟩
        refine (CallsIn.inRound l (callsIn_wide.2 (appendInt_any w.heap.size _ ([]) x _ (hE.of (hB.trans S1.below)) S1.own hsz (by have := (hB.trans S1.below).size; omega) (by simp) hx0 hx1))).mono ?_
        rintro e w9 ⟨g9, n9, c9, rfl, hown9, k9⟩
        have hb9 := k9.box _ _ _ (by decide) S1.box
        have hc9 := hb9.cell
        have hf9 := hb9.frozen
        have S9 := S1.write k9 hown9 (by omega) (by omega)
        gi_wp2
        exact ⟨S9.others.from _, S9.below, ⟨⟨_, S9.box, by rw [HT.out]; exact S9.own, trivial⟩, S9.set⟩, hB.trans S9.below⟩
      · rw [if_neg hemp] at htx
        have hpos : 0 < acc.length := List.length_pos_iff.2 hemp
        clear hemp
        have HT := Lib.hid htx; clear htx
        gi_wp2_with (refine wpListIn_load_set _ _ _ rfl rfl rfl hs ?_)
        refine ⟨trivial, ?_⟩
        refine (CallsIn.inRound l (callsIn_wide.2 (has_any p _ _))).mono ?_
        rintro e w1 ⟨rfl, b1⟩
        have S1 := S0.call b1 hBs
        have hz1 := b1.size
        have hc1 := S1.box.cell
        have hf1 := S1.box.frozen
        gi_wp2_with (gi_at_builtin; refine wpListIn_pushB _ _ w.heap.size _ acc 44 44 rfl rfl rfl rfl rfl S1.own (by omega) (by omega) ?_; intro g3 c3 w3 hown3 k3; have hb3 := k3.box _ _ _ (by decide) S1.box; have hc3 := hb3.cell; have hf3 := hb3.frozen; have S3 := S1.write k3 hown3 (by omega) (by omega); have hc3' := S3.box.cell; have hf3' := S3.box.frozen)
        refine ⟨trivial, ?_⟩
        refine (CallsIn.inRound l (callsIn_wide.2 (appendInt_any w.heap.size _ (acc ++ [44]) x _ (hE.of (hB.trans S3.below)) S3.own hsz (by have := (hB.trans S3.below).size; omega) (by simp; omega) hx0 hx1))).mono ?_
        rintro e w9 ⟨g9, n9, c9, rfl, hown9, k9⟩
        have hb9 := k9.box _ _ _ (by decide) S3.box
        have hc9 := hb9.cell
        have hf9 := hb9.frozen
        have S9 := S3.write k9 hown9 (by omega) (by omega)
        gi_wp2
        exact ⟨S9.others.from _, S9.below, ⟨⟨_, S9.box, by rw [HT.out]; exact S9.own, trivial⟩, S9.set⟩, hB.trans S9.below⟩
    · rw [if_neg (by rw [hp1]; simp)] at htx
      cases hp2 : hasB p (x + 1)
      · rw [if_pos hp2] at htx
        have HT := Lib.hid htx; clear htx
        gi_wp2_with (refine wpListIn_load_set _ _ _ rfl rfl rfl hs ?_)
        refine ⟨trivial, ?_⟩
        refine (CallsIn.inRound l (callsIn_wide.2 (has_any p _ _))).mono ?_
        rintro e w1 ⟨rfl, b1⟩
        have S1 := S0.call b1 hBs
        have hs1 := S1.set
        have hz1 := b1.size
        gi_wp2_with (refine wpListIn_load_set _ _ _ rfl rfl rfl hs1 ?_)
        refine ⟨trivial, ?_⟩
        refine (CallsIn.inRound l (callsIn_wide.2 (has_any p _ _))).mono ?_
        rintro e w2 ⟨rfl, b2⟩
        have S2 := S1.call b2 (by omega)
        have hz2 := b2.size
        have hc2 := S2.box.cell
        have hf2 := S2.box.frozen
        gi_wp2_with (gi_at_builtin; refine wpListIn_pushB _ _ w.heap.size _ acc 45 45 rfl rfl rfl rfl rfl S2.own (by omega) (by omega) ?_; intro g3 c3 w3 hown3 k3; have hb3 := k3.box _ _ _ (by decide) S2.box; have hc3 := hb3.cell; have hf3 := hb3.frozen; have S3 := S2.write k3 hown3 (by omega) (by omega); have hc3' := S3.box.cell; have hf3' := S3.box.frozen)
        refine ⟨trivial, ?_⟩
        refine (CallsIn.inRound l (callsIn_wide.2 (appendInt_any w.heap.size _ (acc ++ [45]) x _ (hE.of (hB.trans S3.below)) S3.own hsz (by have := (hB.trans S3.below).size; omega) (by simp; omega) hx0 hx1))).mono ?_
        rintro e w9 ⟨g9, n9, c9, rfl, hown9, k9⟩
        have hb9 := k9.box _ _ _ (by decide) S3.box
        have hc9 := hb9.cell
        have hf9 := hb9.frozen
        have S9 := S3.write k9 hown9 (by omega) (by omega)
        gi_wp2
        exact ⟨S9.others.from _, S9.below, ⟨⟨_, S9.box, by rw [HT.out]; exact S9.own, trivial⟩, S9.set⟩, hB.trans S9.below⟩
      · rw [if_neg (by rw [hp2]; simp)] at htx
        have HT := Lib.hid htx; clear htx
        gi_wp2_with (refine wpListIn_load_set _ _ _ rfl rfl rfl hs ?_)
        refine ⟨trivial, ?_⟩
        refine (CallsIn.inRound l (callsIn_wide.2 (has_any p _ _))).mono ?_
        rintro e w1 ⟨rfl, b1⟩
        have S1 := S0.call b1 hBs
        have hs1 := S1.set
        have hz1 := b1.size
        gi_wp2_with (refine wpListIn_load_set _ _ _ rfl rfl rfl hs1 ?_)
        refine ⟨trivial, ?_⟩
        refine (CallsIn.inRound l (callsIn_wide.2 (has_any p _ _))).mono ?_
        rintro e w2 ⟨rfl, b2⟩
        have S2 := S1.call b2 (by omega)
        gi_wp2
        exact ⟨S2.others.from _, S2.below, ⟨⟨_, S2.box, by rw [HT.out]; exact S2.own, trivial⟩, S2.set⟩, hB.trans S2.below⟩
  case done =>
    rintro D ys W hD hys ⟨⟨⟨v, hv, hrow, _⟩, hs⟩, hB⟩ hK
    have hc := hv.cell
    have ht := OwnB.text (W := W) hrow
    have he : textOf p ys = txt p := by unfold textOf; rw [hys, fold_txt]
    rw [he] at ht
    clear he
    gi_wp2
    refine ⟨by simp, .inl ⟨_, _, rfl, run_takeDeferred hK, ?_⟩⟩
    exact ⟨_, results_tmp rfl _ _ _, rfl, hB.trans (belowK_b (w := w) (Nat.le_refl _) W D _ _ (by simp at hD; omega) hK rfl rfl)⟩
  case stop =>
    rintro D c pre W _ _ h _
    exact h.elim

end Go.Proofs.YtggalncjookkiaaDoor
