/- The reference's lists: walks. -/
import Derived.Test.YtggalncjookkiaaDoorW2
import Derived.Test.YtggalncjookkiaaDoorLists
import Derived.Deep.QuietTactic
import Derived.BigQuiet
namespace Go.Proofs.YtggalncjookkiaaDoor
open Go.RowKit Go.Lib Nds

theorem ups : Tryd.prog.underlying 22 = some (.slice 3) := Tryd.underlying22
theorem info_int : (Tryd.prog.info? 3).map (fun i => (i.zero, i.size, i.bytes)) = some (some (.int .i64 0), 1, 8) := by kernel_rfl

/-- The slice v is the call's own from block base on and holds xs. -/
def OwnI (w : World) (base : Nat) (v : Value) (xs : List Int) : Prop := w.ownsRow base 3 1 v xs.length (xs.map (Value.int .i64))

theorem OwnI.nil (w : World) (base : Nat) : OwnI w base (.slice none 0 0) [] := World.ownsRow_nil _ _ _ _
theorem OwnI.slice {w : World} {base : Nat} {v : Value} {xs : List Int} (h : OwnI w base v xs) : ∃ A c, v = .slice A xs.length c := by
  rcases h.2 with ⟨h1, h2⟩ | ⟨g, cap, _, h1, _⟩
  · exact ⟨none, 0, by rw [h1, h2]⟩
  · exact ⟨_, _, h1⟩
theorem OwnI.rd {w : World} {base c : Nat} {A : Option Addr} {xs : List Int} (h : OwnI w base (.slice A xs.length c) xs) : Rd w A xs.length xs := Rd.own h
theorem OwnI.below {w w' : World} {base B : Nat} {v : Value} {xs : List Int} (h : OwnI w base v xs) (hb : Below w.heap.size w w') (_hB : base ≤ B) : OwnI w' base v xs := by
  obtain ⟨h1, h2⟩ := h
  refine ⟨h1, ?_⟩
  rcases h2 with h2 | ⟨g, cap, cur, hv, hg, hh, r⟩
  · exact Or.inl h2
  · exact Or.inr ⟨g, cap, cur, hv, hg, by rw [hb.block g (Array.getElem?_eq_some_iff.1 hh).1]; exact hh, r⟩

theorem OwnI.to {w w' : World} {base : Nat} {v : Value} {xs : List Int} (h : OwnI w base v xs) (hb : Below w.heap.size w w') : OwnI w' base v xs := h.below hb (Nat.le_refl base)

/-- A call gives a new slice with xs. -/
def Gives (w : World) (xs : List Int) (e : Ending) (w' : World) : Prop := ∃ A c, e = .returned (.slice A xs.length c) ∧ Rd w' A xs.length xs ∧ Below w.heap.size w w'

theorem OwnI.gives {w w' : World} {v : Value} {xs : List Int} (h : OwnI w' w.heap.size v xs) (hb : Below w.heap.size w w') : Gives w xs (.returned v) w' := by
  obtain ⟨A, c, rfl⟩ := h.slice
  exact ⟨A, c, rfl, h.rd, hb⟩

section
variable {ops : Array Oper} {rest : List Oper} {o : Oper} {a : Act} {W : World} {Q : Exit → Act → World → Prop}
/-- append of one number. -/
theorem wpList_push (s x : Operand) (base : Nat) (v : Value) (xs : List Int) (y : Int) (hgd : o.guard = none) (ho : o.op = .call { callee := .builtin .append, args := #[s, x], argTypes := #[22, 22] })
    (hs : a.eval s = v) (hx : a.eval x = .slice (some ⟨W.heap.size, 0, none⟩) 1 1) (hown : OwnI W base v xs) (hn : xs.length ≤ 1000000) (hbase : base ≤ W.heap.size)
    (h : ∀ v' w', OwnI w' base v' (xs ++ [y]) → Below base W w' → wpList Tryd.prog ops Q rest (a.put o.dst v') w') : wpList Tryd.prog ops Q (o :: rest) a (W.alloc (.cells #[.int .i64 y] 3)) := by
  obtain ⟨i0, hi, hz0, hz1, hz2⟩ := info_parts info_int
  have hown' : (W.alloc (.cells #[.int .i64 y] 3)).ownsRow base 3 1 v xs.length (xs.map (Value.int .i64)) := hown.alloc _
  refine wpList_append_own _ hgd s x 22 ho base 3 i0 (.int .i64 0) 1 8 ups hi hz0 hz1 hz2 rfl (by decide) v xs.length (xs.map (Value.int .i64)) hs hown' ⟨W.heap.size, 0, none⟩ 1 1 [.int .i64 y] hx rfl
    (cell_one_new _ _ _) (by simp [Value.oneCell']) (by unfold maxLen; omega) (by omega) (by simp; omega) ?_
  intro v' w' hown2 hg _
  refine h v' w' ?_ ?_
  · unfold OwnI
    rw [List.length_append, List.map_append]
    exact hown2
  · refine ((Below.refl base W).alloc hbase _).grown hg (by simp; omega) (fun k hk => ?_)
    exact (hown'.lt k hk).1
end

/-! ### Great, Has, Same -/

theorem great_any (A : Option Addr) (c n : Nat) (w : World) (hn : n ≤ 9223372036854775807) :
    Calls Tryd.prog 10 #[.slice A n c] w fun e w' => e = .returned (.bool (decide (60 < n))) ∧ w = w' := by
  go_enter Tryd.func10, Tryd.ntmps10
  go_wp2
  go_ret
  exact ⟨ret_b (by rw [decide_eq_decide]; omega), rfl⟩

set_option maxRecDepth 100000 in
theorem rhas_any (A : Option Addr) (c n : Nat) (xs : List Int) (y : Int) (w : World) (hr : Rd w A n xs) (hn : n ≤ 9223372036854775807) :
    Calls Tryd.prog 16 #[.slice A n c, .int .i64 y] w fun e w' => e = .returned (.bool (decide (y ∈ xs))) ∧ w = w' := by
  have hl1 : n ≤ xs.length := Nat.le_of_eq hr.1
  have hl2 : xs.length ≤ n := Nat.le_of_eq hr.1.symm
  go_enter Tryd.func16, Tryd.ntmps16
  go_wp2
  go_loop [9] (fun i => ∃ k : Nat, i = .int .i64 k ∧ k ≤ n ∧ y ∉ xs.take k) (fun i => n - (intOf i).toNat)
  case atStart => exact ⟨0, rfl, by omega, by simp⟩
  case round =>
    obtain ⟨k, rfl, hk, hno⟩ := hrel
    by_cases hlt : k < n
    · obtain ⟨ad, rfl, hc⟩ := hr.at_ hlt
      have ht := take_next xs k (by omega)
      have hm : xs.getD k 0 ∈ xs := by rw [List.getD_eq_getElem?_getD, List.getElem?_eq_getElem (by omega)]; simp
      generalize xs.getD k 0 = x at hc ht hm
      have HT := Lib.hid ht; clear ht
      have HM := Lib.hid hm; clear hm
      have HN := Lib.hid hno; clear hno
      clear hr
      by_cases hx : x = y
      · subst hx
        go_wp2
        go_ret
        exact ⟨ret_b (by simpa using HM.out), rfl⟩
      · have hxb : (x == y) = false := by simpa using hx
        go_wp2
        go_round
        case rel =>
          refine ⟨k + 1, by go_num, by omega, ?_⟩
          rw [HT.out, List.mem_append, List.mem_singleton]
          rintro (h | h)
          · exact HN.out h
          · exact hx h.symm
        case measure => simp [intOf]; omega
    · have HN := Lib.hid hno; clear hno
      clear hr
      go_wp2
      go_ret
      refine ⟨ret_b ?_, rfl⟩
      have := HN.out
      rw [List.take_of_length_le (by omega)] at this
      simpa using this

set_option maxRecDepth 100000 in
theorem rsame_any (A B : Option Addr) (c d n m : Nat) (xs ys : List Int) (w : World) (hr : Rd w A n xs) (hs : Rd w B m ys) (hn : n ≤ 9223372036854775807) (hm : m ≤ 9223372036854775807) :
    Calls Tryd.prog 20 #[.slice A n c, .slice B m d] w fun e w' => e = .returned (.bool (decide (xs = ys))) ∧ Below w.heap.size w w' := by
  have hl1 : n ≤ xs.length := Nat.le_of_eq hr.1
  have hl2 : xs.length ≤ n := Nat.le_of_eq hr.1.symm
  have hm1 : m ≤ ys.length := Nat.le_of_eq hs.1
  have hm2 : ys.length ≤ m := Nat.le_of_eq hs.1.symm
  by_cases hnm : n = m
  · obtain rfl : m = n := hnm.symm
    go_enter Tryd.func20, Tryd.ntmps20
    go_wp2
    go_loopw [13] (fun i w' => ∃ k : Nat, i = .int .i64 k ∧ k ≤ m ∧ xs.take k = ys.take k ∧ Below w.heap.size w w') (fun i _ => m - (intOf i).toNat)
    case atStart => exact ⟨0, rfl, by omega, by simp, Below.refl _ _⟩
    case round =>
      obtain ⟨k, rfl, hk, he, hb⟩ := hrel
      have HE := Lib.hid he; clear he
      by_cases hlt : k < m
      · obtain ⟨ad, rfl, hc⟩ := (hr.below hb).at_ hlt
        obtain ⟨bd, rfl, hd⟩ := (hs.below hb).at_ hlt
        have ht := take_next xs k (by omega)
        have hu := take_next ys k (by omega)
        have hX : xs.getD k 0 = xs[k]'(by omega) := by rw [List.getD_eq_getElem?_getD, List.getElem?_eq_getElem (by omega)]; rfl
        have hY : ys.getD k 0 = ys[k]'(by omega) := by rw [List.getD_eq_getElem?_getD, List.getElem?_eq_getElem (by omega)]; rfl
        generalize hx : xs.getD k 0 = x at hc ht hX
        generalize hy : ys.getD k 0 = y at hd hu hY
        have HT := Lib.hid ht; clear ht
        have HU := Lib.hid hu; clear hu
        have HX := Lib.hid hX; clear hX
        have HY := Lib.hid hY; clear hY
        clear hr hs hx hy
        by_cases hxy : x = y
        · subst hxy
          go_wp2
          go_quiet (fail)
          go_wp2
          go_roundw
          case rel => exact ⟨k + 1, by go_num, by omega, by rw [HT.out, HU.out, HE.out], hb.trans (below_drewN (Below.refl _ _) _)⟩
          case measure => simp [intOf]; omega
        · have hxb : (x != y) = true := by simpa using hxy
          go_wp2
          go_quiet (fail)
          go_wp2
          go_ret
          refine ⟨ret_b ?_, hb.trans (below_drewN (Below.refl _ _) _)⟩
          symm
          rw [decide_eq_false_iff_not]
          intro e
          subst e
          exact hxy (HX.out.trans HY.out.symm)
      · clear hr hs
        go_wp2
        go_ret
        refine ⟨ret_b ?_, hb⟩
        have := HE.out
        rw [List.take_of_length_le (by omega), List.take_of_length_le (by omega)] at this
        simpa using this
  · have hnb : ((n : Int) != (m : Int)) = true := by simp; omega
    have hne : xs ≠ ys := fun e => by subst e; omega
    have HE := Lib.hid hne; clear hne
    go_enter Tryd.func20, Tryd.ntmps20
    go_wp2
    go_ret
    exact ⟨ret_b (by simpa using HE.out), Below.refl _ _⟩

/-! ### All, And, Less -/

theorem OwnI.mono {w : World} {b b' : Nat} {v : Value} {xs : List Int} (h : OwnI w b v xs) (hb : b' ≤ b) : OwnI w b' v xs := by
  obtain ⟨h1, h2⟩ := h
  refine ⟨h1, ?_⟩
  rcases h2 with h2 | ⟨g, cap, cur, hv, hg, r⟩
  · exact Or.inl h2
  · exact Or.inr ⟨g, cap, cur, hv, Nat.le_trans hb hg, r⟩

set_option maxRecDepth 100000 in
theorem rall_any (n : Int) (w : World) :
    Calls Tryd.prog 18 #[.int .i64 n] w (Gives w (ei fun m => decide ((m : Int) < n))) := by
  rw [ei_all]
  go_enter Tryd.func18, Tryd.ntmps18
  go_wp2
  go_loopw [3, 4] (fun v i w' => ∃ k : Nat, i = .int .i64 k ∧ k ≤ (min n 4096).toNat ∧ OwnI w' w.heap.size v ((List.range k).map fun (m : Nat) => (m : Int)) ∧ Below w.heap.size w w') (fun _ i _ => 4096 - (intOf i).toNat)
  case atStart => exact ⟨0, rfl, by omega, OwnI.nil _ _, Below.refl _ _⟩
  case round =>
    obtain ⟨k, rfl, hk, hown, hb⟩ := hrel
    have hz := hb.size
    by_cases hlt : (k : Int) < n ∧ k < 4096
    · obtain ⟨hlt, hlt2⟩ := hlt
      have hs : (List.range (k + 1)).map (fun (m : Nat) => (m : Int)) = (List.range k).map (fun (m : Nat) => (m : Int)) ++ [(k : Int)] := by rw [List.range_succ, List.map_append]; rfl
      have HS := Lib.hid hs; clear hs
      clear hk
      go_wp2_with (at_builtin; refine wpList_push _ _ w.heap.size _ _ _ rfl rfl rfl rfl hown (by simp; omega) (by omega) ?_; intro v2 w2 hown2 hb2)
      go_roundw
      case rel => exact ⟨k + 1, by go_num, by omega, by rw [HS.out]; exact hown2, hb.trans hb2⟩
      case measure => simp [intOf]; omega
    · have e : k = (min n 4096).toNat := by omega
      have hge : n ≤ k ∨ 4096 ≤ k := by omega
      have HE := Lib.hid e; clear e hk
      clear hlt
      by_cases h1 : (k : Int) < n
      all_goals
        go_wp2
        go_ret
        have := hown.gives hb
        rw [HE.out] at this
        exact this

def filt (g : Int → Bool) (xs : List Int) (k : Nat) : List Int := (xs.take k).filter g
theorem filt_len (g : Int → Bool) (xs : List Int) (k : Nat) : (filt g xs k).length ≤ k := by
  unfold filt
  have h1 := List.length_filter_le g (xs.take k)
  have h2 := List.length_take_le k xs
  omega

set_option maxRecDepth 100000 in
theorem rand_any (A B : Option Addr) (c d n m : Nat) (xs ys : List Int) (w : World) (hr : Rd w A n xs) (hs : Rd w B m ys) (hn : n ≤ 1000000) (hm : m ≤ 1000000) :
    Calls Tryd.prog 25 #[.slice A n c, .slice B m d] w (Gives w (xs.filter fun x => decide (x ∈ ys))) := by
  have hl1 : n ≤ xs.length := Nat.le_of_eq hr.1
  have hl2 : xs.length ≤ n := Nat.le_of_eq hr.1.symm
  go_enter Tryd.func25, Tryd.ntmps25
  go_wp2
  go_loopw [5, 10] (fun v i w' => ∃ k : Nat, i = .int .i64 k ∧ k ≤ n ∧ OwnI w' w.heap.size v (filt (fun x => decide (x ∈ ys)) xs k) ∧ Below w.heap.size w w') (fun _ i _ => n - (intOf i).toNat)
  case atStart => exact ⟨0, rfl, by omega, OwnI.nil _ _, Below.refl _ _⟩
  case round =>
    obtain ⟨k, rfl, hk, hown, hb⟩ := hrel
    have hz := hb.size
    have hs' := hs.below hb
    by_cases hlt : k < n
    · obtain ⟨ad, rfl, hc⟩ := (hr.below hb).at_ hlt
      have ht := take_next xs k (by omega)
      have hfl := filt_len (fun x => decide (x ∈ ys)) xs k
      generalize xs.getD k 0 = x at hc ht
      by_cases hx : x ∈ ys
      · have hd : decide (x ∈ ys) = true := decide_eq_true hx
        have hf : filt (fun x => decide (x ∈ ys)) xs (k + 1) = filt (fun x => decide (x ∈ ys)) xs k ++ [x] := by unfold filt; rw [ht, List.filter_append]; simp [hd]
        have HF := Lib.hid hf; clear hf ht hx hr hs
        go_wp2_with (first | (go_at_call 16; refine (rhas_any _ _ _ _ _ _ hs' (by omega)).mono ?_; rintro e w' ⟨rfl, rfl⟩) | (at_builtin; refine wpList_push _ _ w.heap.size _ _ _ rfl rfl rfl rfl hown (by omega) (by omega) ?_; intro v2 w2 hown2 hb2))
        go_roundw
        case rel => exact ⟨k + 1, by go_num, by omega, by rw [HF.out]; exact hown2, hb.trans hb2⟩
        case measure => simp [intOf]; omega
      · have hd : decide (x ∈ ys) = false := decide_eq_false hx
        have hf : filt (fun x => decide (x ∈ ys)) xs (k + 1) = filt (fun x => decide (x ∈ ys)) xs k := by unfold filt; rw [ht, List.filter_append]; simp [hd]
        have HF := Lib.hid hf; clear hf ht hx hr hs
        go_wp2_with (go_at_call 16; refine (rhas_any _ _ _ _ _ _ hs' (by omega)).mono ?_; rintro e w' ⟨rfl, rfl⟩)
        go_roundw
        case rel => exact ⟨k + 1, by go_num, by omega, by rw [HF.out]; exact hown, hb⟩
        case measure => simp [intOf]; omega
    · have e : filt (fun x => decide (x ∈ ys)) xs k = xs.filter (fun x => decide (x ∈ ys)) := by unfold filt; rw [List.take_of_length_le (by omega)]
      have HE := Lib.hid e; clear e
      clear hr hs hs'
      go_wp2
      go_ret
      have := hown.gives hb
      rw [HE.out] at this
      exact this

set_option maxRecDepth 100000 in
theorem rless_any (A B : Option Addr) (c d n m : Nat) (xs ys : List Int) (w : World) (hr : Rd w A n xs) (hs : Rd w B m ys) (hn : n ≤ 1000000) (hm : m ≤ 1000000) :
    Calls Tryd.prog 27 #[.slice A n c, .slice B m d] w (Gives w (xs.filter fun x => !decide (x ∈ ys))) := by
  have hl1 : n ≤ xs.length := Nat.le_of_eq hr.1
  have hl2 : xs.length ≤ n := Nat.le_of_eq hr.1.symm
  go_enter Tryd.func27, Tryd.ntmps27
  go_wp2
  go_loopw [5, 10] (fun v i w' => ∃ k : Nat, i = .int .i64 k ∧ k ≤ n ∧ OwnI w' w.heap.size v (filt (fun x => !decide (x ∈ ys)) xs k) ∧ Below w.heap.size w w') (fun _ i _ => n - (intOf i).toNat)
  case atStart => exact ⟨0, rfl, by omega, OwnI.nil _ _, Below.refl _ _⟩
  case round =>
    obtain ⟨k, rfl, hk, hown, hb⟩ := hrel
    have hz := hb.size
    have hs' := hs.below hb
    by_cases hlt : k < n
    · obtain ⟨ad, rfl, hc⟩ := (hr.below hb).at_ hlt
      have ht := take_next xs k (by omega)
      have hfl := filt_len (fun x => !decide (x ∈ ys)) xs k
      generalize xs.getD k 0 = x at hc ht
      by_cases hx : x ∈ ys
      · have hd : decide (x ∈ ys) = true := decide_eq_true hx
        have hf : filt (fun x => !decide (x ∈ ys)) xs (k + 1) = filt (fun x => !decide (x ∈ ys)) xs k := by unfold filt; rw [ht, List.filter_append]; simp [hd]
        have HF := Lib.hid hf; clear hf ht hx hr hs
        go_wp2_with (go_at_call 16; refine (rhas_any _ _ _ _ _ _ hs' (by omega)).mono ?_; rintro e w' ⟨rfl, rfl⟩)
        go_roundw
        case rel => exact ⟨k + 1, by go_num, by omega, by rw [HF.out]; exact hown, hb⟩
        case measure => simp [intOf]; omega
      · have hd : decide (x ∈ ys) = false := decide_eq_false hx
        have hf : filt (fun x => !decide (x ∈ ys)) xs (k + 1) = filt (fun x => !decide (x ∈ ys)) xs k ++ [x] := by unfold filt; rw [ht, List.filter_append]; simp [hd]
        have HF := Lib.hid hf; clear hf ht hx hr hs
        go_wp2_with (first | (go_at_call 16; refine (rhas_any _ _ _ _ _ _ hs' (by omega)).mono ?_; rintro e w' ⟨rfl, rfl⟩) | (at_builtin; refine wpList_push _ _ w.heap.size _ _ _ rfl rfl rfl rfl hown (by omega) (by omega) ?_; intro v2 w2 hown2 hb2))
        go_roundw
        case rel => exact ⟨k + 1, by go_num, by omega, by rw [HF.out]; exact hown2, hb.trans hb2⟩
        case measure => simp [intOf]; omega
    · have e : filt (fun x => !decide (x ∈ ys)) xs k = xs.filter (fun x => !decide (x ∈ ys)) := by unfold filt; rw [List.take_of_length_le (by omega)]
      have HE := Lib.hid e; clear e
      clear hr hs hs'
      go_wp2
      go_ret
      have := hown.gives hb
      rw [HE.out] at this
      exact this

end Go.Proofs.YtggalncjookkiaaDoor
