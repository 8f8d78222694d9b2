/- The law ConfigTooLong. -/
import Derived.Test.YtjklpikopgihgaaGreatDoorV2
set_option linter.unusedVariables false
set_option maxRecDepth 100000
set_option linter.unusedSimpArgs false
namespace Go.Proofs.YtjklpikopgihgaaGreatDoor
open Go.RowKit Go.Lib Cf

def tooS : Bs := [110, 111, 100, 101, 32, 48, 44, 32, 97, 110, 100, 32, 115, 111, 32, 111, 110, 44, 32, 111, 118, 101, 114, 32, 97, 110, 100, 32, 111, 118, 101, 114, 58, 32, 116, 104, 105, 115, 32, 105, 115, 32, 110, 111, 32, 99, 111, 117, 110, 116, 114, 121, 39, 115, 32, 116, 101, 120, 116, 46, 32]
theorem too61 : (⟨#[110, 111, 100, 101, 32, 48, 44, 32, 97, 110, 100, 32, 115, 111, 32, 111, 110, 44, 32, 111, 118, 101, 114, 32, 97, 110, 100, 32, 111, 118, 101, 114, 58, 32, 116, 104, 105, 115, 32, 105, 115, 32, 110, 111, 32, 99, 111, 117, 110, 116, 114, 121, 39, 115, 32, 116, 101, 120, 116, 46, 32]⟩ : ByteArray).size = 61 := rfl
theorem extract_take (l : Bs) (k : Nat) : (⟨l.toArray⟩ : ByteArray).extract 0 k = ⟨(l.take k).toArray⟩ := by
  apply ByteArray.ext
  simp
theorem too_many {S : Bs} (h : 65536 < S.length) : mParse S = (zeroC, 0, .tooMany) := by unfold mParse; rw [if_pos h]
theorem too_line {S : Bs} (h : S.length = 65536) (h10 : (10 : UInt8) ∉ S) : mParse S = (zeroC, 1, .bad) := by
  have hne : S ≠ [] := by intro e; subst e; simp at h
  have hc := cut_none 10 S h10
  have hl : mLines dflt 0 0 S = (zeroC, 1, false) := mLines_bad hne (by rw [hc]; simp)
  unfold mParse
  rw [if_neg (by omega), hl]
  rfl
theorem run_arr (w : World) (g : Nat) (t : TypeId) (old arr : Array Value) (hg : w.heap[g]? = some (.cells old t (0, 0))) (ho : old.size = arr.size) (h1 : arr.all (·.oneCell') = true) :
    Sem.run Tryz.prog (storeCells ⟨g, 0, none⟩ arr.toList) w = .ok () (w.setRow g arr) := by
  have := run_storeCells_from (P := Tryz.prog) g t arr.toList 0 old w hg (by simp; omega) (fun v hv => (Array.all_eq_true_iff_forall_mem.1 h1) v (by simpa using hv))
  simpa using this
set_option maxHeartbeats 8000000 in
theorem lawTooLong (n : Nat) (w : World) (hn : n ≤ 255) (hE : Env w) :
    Calls Tryz.prog 7 #[.int .u8 (n : Int)] w fun e w' => e = .returned (.bool true) ∧ Below w.heap.size w w' := by
  have hE' := Lib.hid hE
  have HA := Lib.hid (fun (w' : World) (hb : Below w.heap.size w w') => awake_any w' (hE'.out.of hb))
  have htl : tooS.length = 61 := rfl
  have ht10 := Lib.hid (show (10 : UInt8) ∉ tooS from by decide)
  clear hE
  go_enter Tryz.func7, Tryz.ntmps7
  go_wp2_with fail
  go_loop [3] (fun s => ∃ l : Bs, s = .string ⟨l.toArray⟩ ∧ l.length ≤ 65600 ∧ (10 : UInt8) ∉ l) (fun s => 70000 - strLen s)
  case atStart => exact ⟨[], rfl, by simp, by simp⟩
  case round =>
    obtain ⟨l, rfl, hl, h10⟩ := hrel
    have h10' := Lib.hid h10
    have hsz : (⟨l.toArray⟩ : ByteArray).size = l.length := by simp [ByteArray.size]
    clear h10
    by_cases hlt : l.length < 65536
    · have t : (l.length : Int) < 65536 := by omega
      have hno := Lib.hid (show (10 : UInt8) ∉ l ++ tooS from by rw [List.mem_append]; rintro (h | h); exact h10'.out h; exact ht10.out h)
      go_wp2
      go_round
      case rel =>
        refine ⟨l ++ tooS, ?_, by rw [List.length_append]; omega, hno.out⟩
        rw [← cat]; rfl
      case measure =>
        simp only [strLen, ByteArray.size_append, sz]
        change 70000 - (l.length + tooS.length) < 70000 - l.length
        rw [htl]
        omega
    · have t : ¬ (l.length : Int) < 65536 := by omega
      go_wp2_with fail
      have x1 := extract_take l 65536
      have x2 := extract_take l n
      obtain ⟨A, hA⟩ : ∃ A, l.take 65536 = A := ⟨_, rfl⟩
      obtain ⟨C, hC⟩ : ∃ C, l.take n = C := ⟨_, rfl⟩
      have hAl : A.length = 65536 := by rw [← hA, List.length_take]; omega
      have hCl : C.length = n := by rw [← hC, List.length_take]; omega
      rw [hA] at x1
      rw [hC] at x2
      have hA10 : (10 : UInt8) ∉ A := by rw [← hA]; exact fun h => h10'.out (List.mem_of_mem_take h)
      have HP := Lib.hid (fun (w' : World) (hb : Below w.heap.size w w') => show Calls Tryz.prog 13 #[.string ((⟨A.toArray⟩ : ByteArray) ++ ⟨C.toArray⟩)] w' (fun e w'' => ∃ v, e = .returned (.tuple #[v, .int .i64 ((mParse (A ++ C)).2.1 : Nat), .int .i64 (pErr (mParse (A ++ C)).2.2)]) ∧ CfgV w'' v (mParse (A ++ C)).1 ∧ Below w'.heap.size w' w'') from by
        rw [cat]; exact parse_any (A ++ C) w' (hE'.out.of hb) (by rw [List.length_append]; omega))
      have y1 : (65536 : Int) ≤ (l.length : Int) := by omega
      have y2 : (n : Int) ≤ (l.length : Int) := by omega
      have y3 : (0 : Int) ≤ (n : Int) := by omega
      have y4 : ¬ 9223372036854775807 < A.length + C.length := by omega
      have y6 : ¬ 9223372036854775807 < 65536 + n := by omega
      have y5 : A.length + C.length ≤ 9223372036854775807 := by omega
      have hb0 : Below w.heap.size w w.drew := (Below.refl _ _).drew
      clear hA hC h10' t
      have hwr : IntKind.i64.wrap (n : Int) = (n : Int) := by rw [IntKind.wrap_i64]; omega
      have hb1 : Below w.heap.size w (w.alloc (.cells zArr 27)).drew := (alloc_below w _).drew
      have hz1 : (w.alloc (.cells zArr 27)).drew.heap[w.heap.size]? = some (.cells zArr 27 (0, 0)) := heap_alloc_new w _
      by_cases hn0 : n = 0
      · have hm := too_line (S := A ++ C) (by rw [List.length_append]; omega) (by
          obtain rfl : C = [] := List.eq_nil_of_length_eq_zero (by omega)
          simpa using hA10)
        rw [hm] at HP
        have t0 : ¬ (0 : Int) < (n : Int) := by omega
        clear hm hn0 hA10
        go_region_law (first
          | (go_simp; go_at_call 13; refine (HP.out _ hb0).mono ?_; rintro e w2 ⟨v, rfl, hV, b2⟩; obtain ⟨arr, rfl, hs, hone⟩ := cfgV_arr hV; have hold : zArr.size = arr.size := hs.symm ▸ rfl; have hb2 : Below w.heap.size w w2 := then_ hb0 b2; have hst := run_arr (w2.alloc (.cells #[.int .i64 0, .slice none 0 0, .slice none 0 0, .slice none 0 0, .slice none 0 0, .int .i64 0, .int .i64 0, .int .i64 0, .int .i64 0, .int .i64 0, .int .i64 0, .int .i64 0, .int .i64 0, .int .i64 0, .int .i64 0] 27)) w2.heap.size 27 zArr arr (heap_alloc_new w2 (.cells zArr 27)) hold hone; have hBend : Below w.heap.size w ((w2.alloc (.cells #[.int .i64 0, .slice none 0 0, .slice none 0 0, .slice none 0 0, .slice none 0 0, .int .i64 0, .int .i64 0, .int .i64 0, .int .i64 0, .int .i64 0, .int .i64 0, .int .i64 0, .int .i64 0, .int .i64 0, .int .i64 0] 27)).setRow w2.heap.size arr) := below_setRow (hb2.alloc hb2.size _) hb2.size arr; clear hV b2)
          | (go_simp; go_at_call 13; refine (HP.out _ hb1).mono ?_; rintro e w2 ⟨v, rfl, hV, b2⟩; obtain ⟨arr, rfl, hs, hone⟩ := cfgV_arr hV; have hold : zArr.size = arr.size := hs.symm ▸ rfl; have hz2 : w2.heap[w.heap.size]? = some (.cells zArr 27 (0, 0)) := (b2.block _ (Array.getElem?_eq_some_iff.1 hz1).1).trans hz1; have hb2 : Below w.heap.size w w2 := hb1.trans (b2.mono hb1.size); have hst := run_arr w2 w.heap.size 27 zArr arr hz2 hold hone; have hBend : Below w.heap.size w (w2.setRow w.heap.size arr) := below_setRow hb2 (Nat.le_refl _) arr; clear hV b2 hz2))
        all_goals (
          have HW := HA.out _ hBend
          have hBe := Lib.hid hBend
          generalize World.setRow _ _ _ = Wz at HW hBe ⊢
          clear hBend
          go_wp2_with fail
          refine HW.mono ?_
          rintro e w6 ⟨rfl, b6⟩
          have hBf := Lib.hid (then_ hBe.out b6)
          clear b6
          go_wp2
          go_ret
          exact ⟨rfl, hBf.out⟩)
      · have hm := too_many (S := A ++ C) (by rw [List.length_append]; omega)
        rw [hm] at HP
        have t0 : (0 : Int) < (n : Int) := by omega
        clear hm hn0 hA10
        go_region_law (first
          | (go_simp; go_at_call 13; refine (HP.out _ hb0).mono ?_; rintro e w2 ⟨v, rfl, hV, b2⟩; obtain ⟨arr, rfl, hs, hone⟩ := cfgV_arr hV; have hold : zArr.size = arr.size := hs.symm ▸ rfl; have hb2 : Below w.heap.size w w2 := then_ hb0 b2; have hst := run_arr (w2.alloc (.cells #[.int .i64 0, .slice none 0 0, .slice none 0 0, .slice none 0 0, .slice none 0 0, .int .i64 0, .int .i64 0, .int .i64 0, .int .i64 0, .int .i64 0, .int .i64 0, .int .i64 0, .int .i64 0, .int .i64 0, .int .i64 0] 27)) w2.heap.size 27 zArr arr (heap_alloc_new w2 (.cells zArr 27)) hold hone; have hBend : Below w.heap.size w ((w2.alloc (.cells #[.int .i64 0, .slice none 0 0, .slice none 0 0, .slice none 0 0, .slice none 0 0, .int .i64 0, .int .i64 0, .int .i64 0, .int .i64 0, .int .i64 0, .int .i64 0, .int .i64 0, .int .i64 0, .int .i64 0, .int .i64 0] 27)).setRow w2.heap.size arr) := below_setRow (hb2.alloc hb2.size _) hb2.size arr; clear hV b2)
          | (go_simp; go_at_call 13; refine (HP.out _ hb1).mono ?_; rintro e w2 ⟨v, rfl, hV, b2⟩; obtain ⟨arr, rfl, hs, hone⟩ := cfgV_arr hV; have hold : zArr.size = arr.size := hs.symm ▸ rfl; have hz2 : w2.heap[w.heap.size]? = some (.cells zArr 27 (0, 0)) := (b2.block _ (Array.getElem?_eq_some_iff.1 hz1).1).trans hz1; have hb2 : Below w.heap.size w w2 := hb1.trans (b2.mono hb1.size); have hst := run_arr w2 w.heap.size 27 zArr arr hz2 hold hone; have hBend : Below w.heap.size w (w2.setRow w.heap.size arr) := below_setRow hb2 (Nat.le_refl _) arr; clear hV b2 hz2))
        all_goals (
          have HW := HA.out _ hBend
          have hBe := Lib.hid hBend
          generalize World.setRow _ _ _ = Wz at HW hBe ⊢
          clear hBend
          go_wp2_with fail
          refine HW.mono ?_
          rintro e w6 ⟨rfl, b6⟩
          have hBf := Lib.hid (then_ hBe.out b6)
          clear b6
          go_wp2
          go_ret
          exact ⟨rfl, hBf.out⟩)
end Go.Proofs.YtjklpikopgihgaaGreatDoor
