/- The law on set algebra: walk. -/
import Derived.Test.YtggalncjookkiaaDoorVS
import Derived.Test.YtggalncjookkiaaDoorW6
import Derived.Lib.QuietBelow
import Derived.BigQuiet
namespace Go.Proofs.YtggalncjookkiaaDoor
open Go.RowKit Go.Lib Nds

/-! ### Regions that draw their order, between calls that make memory -/

theorem wp_region_G {G : Regrown → World} {id : Nat} {Q : Exit → Act → World → Prop} {a : Act} {w : World} {l : List Oper} (hm : Tryd.prog.follows .mixedOrders = true) (hB : Region.lexB .any l.toArray = true)
    (hC : ∃ p, w.drew = G p) (h : wpQuiet Tryd.prog l.toArray (fun w' => ∃ p : Regrown, w' = G p) (fun a' => ∀ w', (∃ p : Regrown, w' = G p) → Q .normal a' w') l a) : (Code.region id l.toArray true).wp Tryd.prog Q a w :=
  wp_region_quiet (C := fun w' => ∃ p : Regrown, w' = G p) hm hB hC (by simpa using h)

theorem q_load {G : Regrown → World} {a : Act} {o : Oper} {K : Act → Prop} (x : Operand) (g : Nat) (p : Nat → Bool) (ho : o.op = .load 28 x) (hx : a.eval x = .pointer (some ⟨g, 0, none⟩))
    (hs : ∀ r, SetAt (G r) g p) (h : K (a.put o.dst (.agg (cells p)))) : o.quiet Tryd.prog a (fun w' => ∃ p : Regrown, w' = G p) K := by
  refine ⟨_, ?_, h⟩
  rintro w ⟨r, rfl⟩
  unfold Oper.quietAt
  rw [run_load_set x g p (run_loadVar_row (G r) g 28 28 (cells p) (0, 0) _ (hs r) Tryd.underlying28 rfl (info_set' p)) _ ho hx]
  exact ⟨rfl, rfl⟩

theorem equal_yes {p q : Nat → Bool} (h : els p = els q) (w : World) :
    Calls Tryd.prog 28 #[.agg (cells p), .agg (cells q)] w fun e w' => e = .returned (.bool true) ∧ Below w.heap.size w w' :=
  (equal_any p q w).mono fun e w' ⟨he, hb⟩ => ⟨by rw [he, decide_eq_true h], hb⟩
theorem len_is {p : Nat → Bool} {N : Int} (h : ((els p).length : Int) = N) (w : World) :
    Calls Tryd.prog 19 #[.agg (cells p)] w fun e w' => e = .returned (.int .i64 N) ∧ Below w.heap.size w w' :=
  (len_any p w).mono fun e w' ⟨he, hb⟩ => ⟨by rw [he, h], hb⟩

/-! ### Set algebra -/

theorem alg1 (x y z : Nat → Bool) : els (fun n => x n && !(y n || z n)) = els (fun n => (x n && !y n) && !z n) := els_congr fun n _ => by cases x n <;> cases y n <;> cases z n <;> rfl
theorem alg2 (x y z : Nat → Bool) : els (fun n => x n && !(y n && z n)) = els (fun n => (x n && !y n) || (x n && !z n)) := els_congr fun n _ => by cases x n <;> cases y n <;> cases z n <;> rfl
theorem alg1' (x y z : Nat → Bool) : els (fun n => x n && (!y n && !z n)) = els (fun n => (x n && !y n) && !z n) := els_congr fun n _ => by cases x n <;> cases y n <;> cases z n <;> rfl
theorem alg2' (x y z : Nat → Bool) : els (fun n => x n && (!y n || !z n)) = els (fun n => (x n && !y n) || (x n && !z n)) := els_congr fun n _ => by cases x n <;> cases y n <;> cases z n <;> rfl
theorem alg3 (x y z : Nat → Bool) : els (fun n => x n && (y n || z n)) = els (fun n => (x n && y n) || (x n && z n)) := els_congr fun n _ => by cases x n <;> cases y n <;> cases z n <;> rfl
theorem alg4 (x y : Nat → Bool) : els (fun n => (x n && y n) && !x n) = [] := by
  symm
  refine eq_els (by simp) fun n => ?_
  constructor
  · intro h; cases h
  · rintro ⟨_, h⟩; revert h; cases x n <;> cases y n <;> simp
theorem els_nodup (p : Nat → Bool) : (els p).Nodup := (els_sorted p).imp fun h => Nat.ne_of_lt h
theorem alg5 (x y : Nat → Bool) : (els (fun n => x n || y n)).length = (els x).length + (els (fun n => y n && !x n)).length := by
  rw [← List.length_append]
  refine Nat.le_antisymm (sub_length _ _ (els_nodup _) fun n h => ?_) (sub_length _ _ ?_ fun n h => ?_)
  · rw [mem_els] at h
    rw [List.mem_append, mem_els, mem_els]
    obtain ⟨h1, h2⟩ := h
    cases hx : x n
    · right; refine ⟨h1, ?_⟩; rw [hx] at h2; simpa [hx] using h2
    · left; exact ⟨h1, rfl⟩
  · rw [List.nodup_append]
    refine ⟨els_nodup _, els_nodup _, fun a ha b hb e => ?_⟩
    subst e
    rw [mem_els] at ha hb
    have := ha.2
    have := hb.2
    simp_all
  · rw [List.mem_append, mem_els, mem_els] at h
    rw [mem_els]
    rcases h with h | h
    · exact ⟨h.1, by simp [h.2]⟩
    · refine ⟨h.1, ?_⟩
      have := h.2
      simp at this
      simp [this.1]

/-! ### The law -/

def tripleW (w : World) (p q r : Nat → Bool) : World := (((((w.alloc (.cells (cells fun _ => false) 28)).alloc (.cells (cells fun _ => false) 28)).alloc (.cells (cells fun _ => false) 28)).setRow w.heap.size (cells p)).setRow (w.heap.size + 1) (cells q)).setRow (w.heap.size + 2) (cells r)
theorem triple_facts (w : World) (p q r : Nat → Bool) :
    SetAt (((w.alloc (.cells (cells fun _ => false) 28)).alloc (.cells (cells fun _ => false) 28)).alloc (.cells (cells fun _ => false) 28)) w.heap.size (fun _ => false) ∧
    SetAt ((((w.alloc (.cells (cells fun _ => false) 28)).alloc (.cells (cells fun _ => false) 28)).alloc (.cells (cells fun _ => false) 28)).setRow w.heap.size (cells p)) (w.heap.size + 1) (fun _ => false) ∧
    SetAt (((((w.alloc (.cells (cells fun _ => false) 28)).alloc (.cells (cells fun _ => false) 28)).alloc (.cells (cells fun _ => false) 28)).setRow w.heap.size (cells p)).setRow (w.heap.size + 1) (cells q)) (w.heap.size + 2) (fun _ => false) ∧
    SetAt (tripleW w p q r) w.heap.size p ∧ SetAt (tripleW w p q r) (w.heap.size + 1) q ∧ SetAt (tripleW w p q r) (w.heap.size + 2) r ∧ Below w.heap.size w (tripleW w p q r) := by
  have h0 : SetAt (((w.alloc (.cells (cells fun _ => false) 28)).alloc (.cells (cells fun _ => false) 28)).alloc (.cells (cells fun _ => false) 28)) w.heap.size (fun _ => false) := ((SetAt.new w _).alloc _).alloc _
  have h1 : SetAt (((w.alloc (.cells (cells fun _ => false) 28)).alloc (.cells (cells fun _ => false) 28)).alloc (.cells (cells fun _ => false) 28)) (w.heap.size + 1) (fun _ => false) := by
    have := SetAt.new (w.alloc (.cells (cells fun _ => false) 28)) (fun _ => false)
    rw [World.size_alloc] at this
    exact this.alloc _
  have h2 : SetAt (((w.alloc (.cells (cells fun _ => false) 28)).alloc (.cells (cells fun _ => false) 28)).alloc (.cells (cells fun _ => false) 28)) (w.heap.size + 2) (fun _ => false) := by
    have := SetAt.new ((w.alloc (.cells (cells fun _ => false) 28)).alloc (.cells (cells fun _ => false) 28)) (fun _ => false)
    rw [World.size_alloc, World.size_alloc] at this
    exact this
  have k1 := (setRow_other _ w.heap.size (w.heap.size + 1) (cells p) (by omega)).trans h1
  have k2 := (setRow_other _ w.heap.size (w.heap.size + 2) (cells p) (by omega)).trans h2
  have j0 := h0.row (q := p)
  have m0 := (setRow_other _ (w.heap.size + 1) w.heap.size (cells q) (by omega)).trans j0
  have m1 := SetAt.row (q := q) k1
  have m2 := (setRow_other _ (w.heap.size + 1) (w.heap.size + 2) (cells q) (by omega)).trans k2
  refine ⟨h0, k1, m2, (setRow_other _ _ _ _ (by omega)).trans m0, (setRow_other _ _ _ _ (by omega)).trans m1, SetAt.row (q := r) m2, ?_⟩
  exact below_setRow (below_setRow (below_setRow ((((Below.refl _ _).alloc (Nat.le_refl _) _).alloc (by simp) _).alloc (by simp; omega) _) (Nat.le_refl _) _) (by omega) _) (by omega) _

set_option maxRecDepth 100000 in
set_option maxHeartbeats 16000000 in
theorem lawAlg' (A B D : Option Addr) (c d f n m k : Nat) (xs ys zs : List Int) (w : World) (hE : Env w) (hr : Rd w A n xs) (hs : Rd w B m ys) (ht : Rd w D k zs)
    (hn : n ≤ 9223372036854775807) (hm : m ≤ 9223372036854775807) (hk : k ≤ 9223372036854775807) (hd : decide (60 < n) = false) (hd2 : decide (60 < m) = false) (hd3 : decide (60 < k) = false)
    (x y z : Nat → Bool) (ex : ofP xs = x) (ey : ofP ys = y) (ez : ofP zs = z) :
    Calls Tryd.prog 6 #[.slice A n c, .slice B m d, .slice D k f] w fun e w' => e = .returned (.bool true) ∧ Below w.heap.size w w' := by
  have h3 := alg3 x y z
  have h4 : ((els (fun n => (x n && y n) && !x n)).length : Int) = 0 := by rw [alg4]; rfl
  obtain ⟨a, ha⟩ : ∃ a : Int, ((els x).length : Int) = a := ⟨_, rfl⟩
  obtain ⟨b, hb⟩ : ∃ b : Int, ((els (fun n => y n && !x n)).length : Int) = b := ⟨_, rfl⟩
  obtain ⟨u, hu⟩ : ∃ u : Int, ((els (fun n => x n || y n)).length : Int) = u := ⟨_, rfl⟩
  have hab : IntKind.i64.wrap (a + b) = u := by
    have := alg5 x y
    have l1 := els_length (fun n => x n || y n)
    rw [IntKind.wrap_i64]; omega
  have H3 := Lib.hid h3; clear h3
  have H4 := Lib.hid h4; clear h4
  have HA := Lib.hid ha; clear ha
  have HB := Lib.hid hb; clear hb
  have HU := Lib.hid hu; clear hu
  go_enter Tryd.func6, Tryd.ntmps6
  go_wp2_with (go_at_call 10; refine (great_any _ _ _ _ (by assumption)).mono ?_; rintro e w' ⟨rfl, rfl⟩)
  refine (of_any A c n xs w hr hn).mono ?_
  rintro e w1 ⟨rfl, b1⟩
  go_wp2_with fail
  refine (of_any B d m ys w1 (hs.below b1) hm).mono ?_
  rintro e w2 ⟨rfl, b2⟩
  have B2 := then_ b1 b2
  go_wp2_with fail
  refine (of_any D f k zs w2 (ht.below B2) hk).mono ?_
  rintro e w3 ⟨rfl, b3⟩
  have B3 := then_ B2 b3
  rw [ez]
  obtain ⟨f0, f1, f2, s0, s1, s2, f6⟩ := triple_facts w3 x y z
  go_wp2_with (first | refine wpList_alloc_set_at (w3.heap.size + 2) ((World.size_alloc _ _).trans (congrArg (fun i => i + 1) (World.size_alloc _ _))) rfl rfl ?_ | refine wpList_alloc_set_at (w3.heap.size + 1) (World.size_alloc _ _) rfl rfl ?_ | refine wpList_alloc_set rfl rfl ?_ | refine wpList_store_set _ _ w3.heap.size _ _ rfl rfl rfl rfl f0 ?_ | refine wpList_store_set _ _ (w3.heap.size + 1) _ _ rfl rfl rfl rfl f1 ?_ | refine wpList_store_set _ _ (w3.heap.size + 2) _ _ rfl rfl rfl rfl f2 ?_)
  clear f0 f1 f2
  unfold tripleW at s0 s1 s2 f6
  generalize (((((w3.alloc (.cells (cells fun _ => false) 28)).alloc (.cells (cells fun _ => false) 28)).alloc (.cells (cells fun _ => false) 28)).setRow w3.heap.size (cells x)).setRow (w3.heap.size + 1) (cells y)).setRow (w3.heap.size + 2) (cells z) = W at s0 s1 s2 f6 ⊢
  have B4 := then_ B3 f6
  generalize w3.heap.size = g at s0 s1 s2 ⊢
  obtain ⟨G, hG1, hG2⟩ : ∃ G : Regrown → World, (∀ r, Below W.heap.size W (G r)) ∧ (∀ w', Below W.heap.size W w' → ∃ r, w' = G r) := ⟨fun p => Sort.grow (redrawn W p.d) p.os, fun r => below_regrown W r.d r.os, fun w' h => regrown_of_below h⟩
  have hx := fun r => s0.below (hG1 r) s0.lt
  have hy := fun r => s1.below (hG1 r) s1.lt
  have hz := fun r => s2.below (hG1 r) s2.lt
  have hEG := fun r => hE.of (B4.trans ((hG1 r).mono B4.size))
  have hBG := fun r => B4.trans ((hG1 r).mono B4.size)
  have hW0 : ∃ q, W.drew = G q := hG2 _ (below_drewN (Below.refl _ _) 1)
  have hdr : ∀ r, ∃ q, (G r).drew = G q := fun r => hG2 _ (below_drewN (hG1 r) 1)
  have hcall : ∀ (r : Regrown) (fn : FuncId) (args : Array Value) (v : Value), Calls Tryd.prog fn args (G r) (fun e w' => e = .returned v ∧ Below (G r).heap.size (G r) w') → Calls Tryd.prog fn args (G r) fun e w'' => e = .returned v ∧ ∃ q : Regrown, w'' = G q :=
    fun r _ _ _ h => h.mono fun _ _ ⟨he, hb⟩ => ⟨he, hG2 _ ((hG1 r).trans (hb.mono (hG1 r).size))⟩
  have HX := Lib.hid hx; clear hx
  have HY := Lib.hid hy; clear hy
  have HZ := Lib.hid hz; clear hz
  have HEG := Lib.hid hEG; clear hEG
  have HBG := Lib.hid hBG; clear hBG
  have HDR := Lib.hid hdr; clear hdr
  have HCALL := Lib.hid hcall; clear hcall
  clear hG1 hG2 s0 s1 s2 f6 B4 B3 B2 b1 b2 b3 hr hs ht ex ey ez
  refine wp_region_G (G := G) (by kernel_rfl) (by kernel_rfl) hW0 ?_
  simp only [Act.put, List.setIfInBounds_toArray, List.set_cons_zero, List.set_cons_succ]
  repeat (first | go_big_quiet_skip | (go_big_quiet_want; first
      | (refine q_load _ g _ rfl rfl HX.out ?_; simp only [Act.put, List.setIfInBounds_toArray, List.set_cons_zero, List.set_cons_succ]; go_big_quiet_on)
      | (refine q_load _ (g + 1) _ rfl rfl HY.out ?_; simp only [Act.put, List.setIfInBounds_toArray, List.set_cons_zero, List.set_cons_succ]; go_big_quiet_on)
      | (refine q_load _ (g + 2) _ rfl rfl HZ.out ?_; simp only [Act.put, List.setIfInBounds_toArray, List.set_cons_zero, List.set_cons_succ]; go_big_quiet_on)
      | (go_big_quiet_op; first | go_big_quiet_on | go_big_quiet_call (first
        | (go_at_call 22; exact HCALL.out _ _ _ _ (union_any _ _ _))
        | (go_at_call 24; exact HCALL.out _ _ _ _ (inter_any _ _ _))
        | (go_at_call 26; exact HCALL.out _ _ _ _ (diff_any _ _ _))))))
  go_big_quiet_want
  go_big_quiet_op
  go_big_quiet_call ((go_at_call 28; exact HCALL.out _ _ _ _ (equal_yes (alg1' x y z) _)))
  repeat (first | go_big_quiet_skip | (go_big_quiet_want; first
      | (refine q_load _ g _ rfl rfl HX.out ?_; simp only [Act.put, List.setIfInBounds_toArray, List.set_cons_zero, List.set_cons_succ]; go_big_quiet_on)
      | (refine q_load _ (g + 1) _ rfl rfl HY.out ?_; simp only [Act.put, List.setIfInBounds_toArray, List.set_cons_zero, List.set_cons_succ]; go_big_quiet_on)
      | (refine q_load _ (g + 2) _ rfl rfl HZ.out ?_; simp only [Act.put, List.setIfInBounds_toArray, List.set_cons_zero, List.set_cons_succ]; go_big_quiet_on)
      | (go_big_quiet_op; first | go_big_quiet_on | go_big_quiet_call (first
        | (go_at_call 22; exact HCALL.out _ _ _ _ (union_any _ _ _))
        | (go_at_call 24; exact HCALL.out _ _ _ _ (inter_any _ _ _))
        | (go_at_call 26; exact HCALL.out _ _ _ _ (diff_any _ _ _))))))
  go_big_quiet_want
  go_big_quiet_op
  go_big_quiet_call ((go_at_call 28; exact HCALL.out _ _ _ _ (equal_yes (alg2' x y z) _)))
  repeat (first | go_big_quiet_skip | (go_big_quiet_want; first
      | (refine q_load _ g _ rfl rfl HX.out ?_; simp only [Act.put, List.setIfInBounds_toArray, List.set_cons_zero, List.set_cons_succ]; go_big_quiet_on)
      | (refine q_load _ (g + 1) _ rfl rfl HY.out ?_; simp only [Act.put, List.setIfInBounds_toArray, List.set_cons_zero, List.set_cons_succ]; go_big_quiet_on)
      | (refine q_load _ (g + 2) _ rfl rfl HZ.out ?_; simp only [Act.put, List.setIfInBounds_toArray, List.set_cons_zero, List.set_cons_succ]; go_big_quiet_on)
      | (go_big_quiet_op; first | go_big_quiet_on | go_big_quiet_call (first
        | (go_at_call 22; exact HCALL.out _ _ _ _ (union_any _ _ _))
        | (go_at_call 24; exact HCALL.out _ _ _ _ (inter_any _ _ _))
        | (go_at_call 26; exact HCALL.out _ _ _ _ (diff_any _ _ _))))))
  go_big_quiet_want
  go_big_quiet_op
  go_big_quiet_call ((go_at_call 28; exact HCALL.out _ _ _ _ (equal_yes H3.out _)))
  repeat (first | go_big_quiet_skip | (go_big_quiet_want; first
      | (refine q_load _ g _ rfl rfl HX.out ?_; simp only [Act.put, List.setIfInBounds_toArray, List.set_cons_zero, List.set_cons_succ]; go_big_quiet_on)
      | (refine q_load _ (g + 1) _ rfl rfl HY.out ?_; simp only [Act.put, List.setIfInBounds_toArray, List.set_cons_zero, List.set_cons_succ]; go_big_quiet_on)
      | (refine q_load _ (g + 2) _ rfl rfl HZ.out ?_; simp only [Act.put, List.setIfInBounds_toArray, List.set_cons_zero, List.set_cons_succ]; go_big_quiet_on)
      | (go_big_quiet_op; first | go_big_quiet_on | go_big_quiet_call (first
        | (go_at_call 22; exact HCALL.out _ _ _ _ (union_any _ _ _))
        | (go_at_call 24; exact HCALL.out _ _ _ _ (inter_any _ _ _))
        | (go_at_call 26; exact HCALL.out _ _ _ _ (diff_any _ _ _))))))
  refine wpQuiet_nil ?_
  rintro _ ⟨r, rfl⟩
  go_wp2_with fail
  refine wp_region_G (G := G) (by kernel_rfl) (by kernel_rfl) (HDR.out r) ?_
  repeat (first | go_big_quiet_skip | (go_big_quiet_want; first
      | (refine q_load _ g _ rfl rfl HX.out ?_; simp only [Act.put, List.setIfInBounds_toArray, List.set_cons_zero, List.set_cons_succ]; go_big_quiet_on)
      | (refine q_load _ (g + 1) _ rfl rfl HY.out ?_; simp only [Act.put, List.setIfInBounds_toArray, List.set_cons_zero, List.set_cons_succ]; go_big_quiet_on)
      | (refine q_load _ (g + 2) _ rfl rfl HZ.out ?_; simp only [Act.put, List.setIfInBounds_toArray, List.set_cons_zero, List.set_cons_succ]; go_big_quiet_on)
      | (go_big_quiet_op; first | go_big_quiet_on | go_big_quiet_call (first
        | (go_at_call 22; exact HCALL.out _ _ _ _ (union_any _ _ _))
        | (go_at_call 24; exact HCALL.out _ _ _ _ (inter_any _ _ _))
        | (go_at_call 26; exact HCALL.out _ _ _ _ (diff_any _ _ _))))))
  go_big_quiet_want
  go_big_quiet_op
  go_big_quiet_call ((go_at_call 19; exact HCALL.out _ _ _ _ (len_is H4.out _)))
  repeat (first | go_big_quiet_skip | (go_big_quiet_want; first
      | (refine q_load _ g _ rfl rfl HX.out ?_; simp only [Act.put, List.setIfInBounds_toArray, List.set_cons_zero, List.set_cons_succ]; go_big_quiet_on)
      | (refine q_load _ (g + 1) _ rfl rfl HY.out ?_; simp only [Act.put, List.setIfInBounds_toArray, List.set_cons_zero, List.set_cons_succ]; go_big_quiet_on)
      | (refine q_load _ (g + 2) _ rfl rfl HZ.out ?_; simp only [Act.put, List.setIfInBounds_toArray, List.set_cons_zero, List.set_cons_succ]; go_big_quiet_on)
      | (go_big_quiet_op; first | go_big_quiet_on | go_big_quiet_call (first
        | (go_at_call 22; exact HCALL.out _ _ _ _ (union_any _ _ _))
        | (go_at_call 24; exact HCALL.out _ _ _ _ (inter_any _ _ _))
        | (go_at_call 26; exact HCALL.out _ _ _ _ (diff_any _ _ _))))))
  go_big_quiet_want
  go_big_quiet_op
  go_big_quiet_call ((go_at_call 19; exact HCALL.out _ _ _ _ (len_is HU.out _)))
  repeat (first | go_big_quiet_skip | (go_big_quiet_want; first
      | (refine q_load _ g _ rfl rfl HX.out ?_; simp only [Act.put, List.setIfInBounds_toArray, List.set_cons_zero, List.set_cons_succ]; go_big_quiet_on)
      | (refine q_load _ (g + 1) _ rfl rfl HY.out ?_; simp only [Act.put, List.setIfInBounds_toArray, List.set_cons_zero, List.set_cons_succ]; go_big_quiet_on)
      | (refine q_load _ (g + 2) _ rfl rfl HZ.out ?_; simp only [Act.put, List.setIfInBounds_toArray, List.set_cons_zero, List.set_cons_succ]; go_big_quiet_on)
      | (go_big_quiet_op; first | go_big_quiet_on | go_big_quiet_call (first
        | (go_at_call 22; exact HCALL.out _ _ _ _ (union_any _ _ _))
        | (go_at_call 24; exact HCALL.out _ _ _ _ (inter_any _ _ _))
        | (go_at_call 26; exact HCALL.out _ _ _ _ (diff_any _ _ _))))))
  go_big_quiet_want
  go_big_quiet_op
  go_big_quiet_call ((go_at_call 19; exact HCALL.out _ _ _ _ (len_is HA.out _)))
  repeat (first | go_big_quiet_skip | (go_big_quiet_want; first
      | (refine q_load _ g _ rfl rfl HX.out ?_; simp only [Act.put, List.setIfInBounds_toArray, List.set_cons_zero, List.set_cons_succ]; go_big_quiet_on)
      | (refine q_load _ (g + 1) _ rfl rfl HY.out ?_; simp only [Act.put, List.setIfInBounds_toArray, List.set_cons_zero, List.set_cons_succ]; go_big_quiet_on)
      | (refine q_load _ (g + 2) _ rfl rfl HZ.out ?_; simp only [Act.put, List.setIfInBounds_toArray, List.set_cons_zero, List.set_cons_succ]; go_big_quiet_on)
      | (go_big_quiet_op; first | go_big_quiet_on | go_big_quiet_call (first
        | (go_at_call 22; exact HCALL.out _ _ _ _ (union_any _ _ _))
        | (go_at_call 24; exact HCALL.out _ _ _ _ (inter_any _ _ _))
        | (go_at_call 26; exact HCALL.out _ _ _ _ (diff_any _ _ _))))))
  go_big_quiet_want
  go_big_quiet_op
  go_big_quiet_call ((go_at_call 19; exact HCALL.out _ _ _ _ (len_is HB.out _)))
  repeat (first | go_big_quiet_skip | (go_big_quiet_want; first
      | (refine q_load _ g _ rfl rfl HX.out ?_; simp only [Act.put, List.setIfInBounds_toArray, List.set_cons_zero, List.set_cons_succ]; go_big_quiet_on)
      | (refine q_load _ (g + 1) _ rfl rfl HY.out ?_; simp only [Act.put, List.setIfInBounds_toArray, List.set_cons_zero, List.set_cons_succ]; go_big_quiet_on)
      | (refine q_load _ (g + 2) _ rfl rfl HZ.out ?_; simp only [Act.put, List.setIfInBounds_toArray, List.set_cons_zero, List.set_cons_succ]; go_big_quiet_on)
      | (go_big_quiet_op; first | go_big_quiet_on | go_big_quiet_call (first
        | (go_at_call 22; exact HCALL.out _ _ _ _ (union_any _ _ _))
        | (go_at_call 24; exact HCALL.out _ _ _ _ (inter_any _ _ _))
        | (go_at_call 26; exact HCALL.out _ _ _ _ (diff_any _ _ _))))))
  go_big_quiet_want
  go_big_quiet_op
  go_big_quiet_call ((go_at_call 11; exact HCALL.out _ _ _ _ (awake_any _ (HEG.out _))))
  repeat (first | go_big_quiet_skip | (go_big_quiet_want; first
      | (refine q_load _ g _ rfl rfl HX.out ?_; simp only [Act.put, List.setIfInBounds_toArray, List.set_cons_zero, List.set_cons_succ]; go_big_quiet_on)
      | (refine q_load _ (g + 1) _ rfl rfl HY.out ?_; simp only [Act.put, List.setIfInBounds_toArray, List.set_cons_zero, List.set_cons_succ]; go_big_quiet_on)
      | (refine q_load _ (g + 2) _ rfl rfl HZ.out ?_; simp only [Act.put, List.setIfInBounds_toArray, List.set_cons_zero, List.set_cons_succ]; go_big_quiet_on)
      | (go_big_quiet_op; first | go_big_quiet_on | go_big_quiet_call (first
        | (go_at_call 22; exact HCALL.out _ _ _ _ (union_any _ _ _))
        | (go_at_call 24; exact HCALL.out _ _ _ _ (inter_any _ _ _))
        | (go_at_call 26; exact HCALL.out _ _ _ _ (diff_any _ _ _))))))
  refine wpQuiet_nil ?_
  rintro _ ⟨r2, rfl⟩
  go_wp2
  go_ret
  exact ⟨rfl, HBG.out r2⟩

theorem lawAlg (A B D : Option Addr) (c d f n m k : Nat) (xs ys zs : List Int) (w : World) (hE : Env w) (hr : Rd w A n xs) (hs : Rd w B m ys) (ht : Rd w D k zs)
    (hn : n ≤ 9223372036854775807) (hm : m ≤ 9223372036854775807) (hk : k ≤ 9223372036854775807) :
    Calls Tryd.prog 6 #[.slice A n c, .slice B m d, .slice D k f] w fun e w' => e = .returned (.bool true) ∧ Below w.heap.size w w' := by
  by_cases hg : 60 < n
  · have hd : decide (60 < n) = true := decide_eq_true hg
    go_enter Tryd.func6, Tryd.ntmps6
    go_wp2_with (go_at_call 10; refine (great_any _ _ _ _ (by assumption)).mono ?_; rintro e w' ⟨rfl, rfl⟩)
    refine (awake_any w hE).mono ?_
    rintro e w1 ⟨rfl, b1⟩
    go_wp2_with fail
    go_ret
    exact ⟨rfl, b1⟩
  · have hd : decide (60 < n) = false := decide_eq_false hg
    by_cases hg2 : 60 < m
    · have hd2 : decide (60 < m) = true := decide_eq_true hg2
      go_enter Tryd.func6, Tryd.ntmps6
      go_wp2_with (go_at_call 10; refine (great_any _ _ _ _ (by assumption)).mono ?_; rintro e w' ⟨rfl, rfl⟩)
      refine (awake_any w hE).mono ?_
      rintro e w1 ⟨rfl, b1⟩
      go_wp2_with fail
      go_ret
      exact ⟨rfl, b1⟩
    · have hd2 : decide (60 < m) = false := decide_eq_false hg2
      by_cases hg3 : 60 < k
      · have hd3 : decide (60 < k) = true := decide_eq_true hg3
        go_enter Tryd.func6, Tryd.ntmps6
        go_wp2_with (go_at_call 10; refine (great_any _ _ _ _ (by assumption)).mono ?_; rintro e w' ⟨rfl, rfl⟩)
        refine (awake_any w hE).mono ?_
        rintro e w1 ⟨rfl, b1⟩
        go_wp2_with fail
        go_ret
        exact ⟨rfl, b1⟩
      · exact lawAlg' A B D c d f n m k xs ys zs w hE hr hs ht hn hm hk hd hd2 (decide_eq_false hg3) _ _ _ rfl rfl rfl

end Go.Proofs.YtggalncjookkiaaDoor
