/- The code: Parse. -/
import Derived.Test.YtjklpikopgihgaaGreatDoorKG
set_option linter.unusedVariables false
set_option maxRecDepth 100000
set_option linter.unusedSimpArgs false
namespace Go.Proofs.YtjklpikopgihgaaGreatDoor
open Go.RowKit Go.Lib Cf

def pErr : PEnd → Int
  | .ok => 0
  | .tooMany => 3
  | .bad => 2
theorem zero_in : CfgIn zeroC := by
  refine ⟨?_, (fun d h => by cases h), (fun d h => by cases h), (fun d h => by cases h), (fun d h => by cases h), ?_⟩
  · unfold zeroC I64; simp
  · unfold zeroC I64; simp [Cfg.nums]
theorem okc_zero (n : Nat) : Okc n zeroC := ⟨Nat.zero_le _, Nat.zero_le _, Nat.zero_le _, Nat.zero_le _, zero_in, (fun p h => by cases h)⟩
theorem Okc.mono {n m : Nat} {c : Cfg} (h : Okc n c) (hm : n ≤ m) : Okc m c := ⟨Nat.le_trans h.ds hm, Nat.le_trans h.es hm, Nat.le_trans h.us hm, Nat.le_trans h.ps hm, h.inn, h.pin⟩
theorem lines_ok : ∀ (m : Nat) (l : Bs) (n : Nat) (c : Cfg) (p : Int), l.length ≤ m → Okc n c → n + l.length ≤ 900000 → Okc 900000 (mLines c n p l).1 ∧ (mLines c n p l).2.1 ≤ 900000 := by
  intro m
  induction m with
  | zero =>
    intro l n c p hl hok hn
    obtain rfl := List.eq_nil_of_length_eq_zero (by omega : l.length = 0)
    rw [mLines_nil]
    exact ⟨hok.mono (by simpa using hn), by simpa using hn⟩
  | succ m ih =>
    intro l n c p hl hok hn
    by_cases e : l = []
    · subst e; rw [mLines_nil]; exact ⟨hok.mono (by simpa using hn), by simpa using hn⟩
    · have h1 := (cut_le l [10]).1
      have h2 := cut_shorter l 10 e
      by_cases h : (cut l [10]).2.2 = true ∧ mayF (mLine c (cut l [10]).1).2 p = true
      · rw [mLines_step e h.1 h.2]
        exact ih _ _ _ _ (by omega) (hok.line _ (by omega)) (by omega)
      · rw [mLines_bad e h]
        exact ⟨okc_zero _, by have := List.length_pos_iff.2 e; show n + 1 ≤ 900000; omega⟩

theorem cfgV_arr {w : World} {v : Value} {c : Cfg} (h : CfgV w v c) : ∃ arr : Array Value, v = .agg arr ∧ arr.size = 15 ∧ (arr.all (·.oneCell')) = true := by
  obtain ⟨vd, ve, vu, vp, rfl, h1, h2, h3, h4⟩ := h
  obtain ⟨Ad, cd, rfl⟩ := h1.form
  obtain ⟨Ae, ce, rfl⟩ := h2.form
  obtain ⟨Au, cu, rfl⟩ := h3.form
  obtain ⟨Ap, cp, rfl⟩ := h4.form
  exact ⟨_, rfl, rfl, by simp [cfgCells, Value.oneCell']⟩
theorem load_arr {w : World} {g : Nat} {arr : Array Value} (hg : w.heap[g]? = some (.cells arr 27 (0, 0))) (hs : arr.size = 15) : (loadVar 27 ⟨g, 0, none⟩).run Tryz.prog w = .ok (.agg arr) w :=
  run_loadVar_row (P := Tryz.prog) w g 27 27 arr (0, 0) _ hg Tryz.underlying27 rfl (info_cfg arr hs)
def zArr : Array Value := (cfgCells zeroC (.slice none 0 0) (.slice none 0 0) (.slice none 0 0) (.slice none 0 0)).toArray
theorem zArr_v (w : World) : CfgV w (.agg zArr) zeroC := ⟨_, _, _, _, rfl, RN.nil _, R3.nil _, R3.nil _, RP.nil _⟩
theorem zArr_one : (zArr.all (·.oneCell')) = true := by simp [zArr, cfgCells, Value.oneCell']
theorem fmt_ok {c : Cfg} (h : fmtE c = 0) : right c = 0 ∧ (text c).length ≤ 65536 ∧ fmtS c = text c := by
  unfold fmtE at h
  split at h
  · rename_i h1
    split at h
    · rename_i h2
      exact ⟨h1, h2, by unfold fmtS; rw [if_pos ⟨h1, h2⟩]⟩
    · cases h
  · cases h
theorem fmt_no {c : Cfg} (h : fmtE c ≠ 0) : ¬ (right c = 0 ∧ (text c).length ≤ 65536) := fun e => h (by unfold fmtE; rw [if_pos e.1, if_pos e.2])

set_option maxHeartbeats 4000000 in
theorem parse_any (S : Bs) (w : World) (hE : Env w) (hS : S.length ≤ 900000) :
    Calls Tryz.prog 13 #[.string ⟨S.toArray⟩] w fun e w' => ∃ v, e = .returned (.tuple #[v, .int .i64 ((mParse S).2.1 : Nat), .int .i64 (pErr (mParse S).2.2)]) ∧ CfgV w' v (mParse S).1 ∧ Below w.heap.size w w' := by
  have hz0 : (w.alloc (.cells zArr 27)).heap[w.heap.size]? = some (.cells zArr 27 (0, 0)) := heap_alloc_new _ _
  have hBa := alloc_below w (.cells zArr 27)
  have hW9 := hE.size
  have hE' := Lib.hid hE
  have hsz : (⟨S.toArray⟩ : ByteArray).size = S.length := by simp [ByteArray.size]
  by_cases hbig : 65536 < S.length
  · have t : (65536 : Int) < (S.length : Int) := by omega
    have hr := Lib.hid (show mParse S = (zeroC, 0, .tooMany) from by unfold mParse; rw [if_pos hbig])
    have hld := load_arr hz0 rfl
    have hend := Lib.hid hBa
    unfold zArr cfgCells zeroC at hld hend
    clear hz0 hBa hE hbig
    go_enter Tryz.func13, Tryz.ntmps13
    go_wp2
    refine bodyPost_ret (results_cell3 rfl _ _ w.heap.size _ rfl hld) rfl ⟨.agg zArr, ?_, ?_, hend.out⟩
    · rw [hr.out]; rfl
    · rw [hr.out]; exact zArr_v _
  have t : ¬ (65536 : Int) < (S.length : Int) := by omega
  have hzs : zArr.size = 15 := rfl
  have hz0' := Lib.hid hz0
  have hBa' := Lib.hid hBa
  clear hz0 hBa hE
  go_enter Tryz.func13, Tryz.ntmps13
  go_wp2_with fail
  rw [show w.alloc (.cells #[.int .i64 0, .slice none 0 0, .slice none 0 0, .slice none 0 0, .slice none 0 0, .int .i64 0, .int .i64 0, .int .i64 0, .int .i64 0, .int .i64 0, .int .i64 0, .int .i64 0, .int .i64 0, .int .i64 0, .int .i64 0] 27) = w.alloc (.cells zArr 27) from rfl]
  generalize w.alloc (.cells zArr 27) = W1 at hz0' hBa' ⊢
  refine (readLines_any S W1 (hE'.out.of hBa'.out) hS).mono ?_
  rintro e w2 ⟨vd, ve, vu, vp, ps, rfl, hR, b2⟩
  have hok := (lines_ok S.length S 0 dflt 0 (Nat.le_refl _) okc_dflt (by omega)).1
  obtain ⟨c, n, ok, hml⟩ : ∃ c n ok, mLines dflt 0 0 S = (c, (n, ok)) := ⟨_, _, _, rfl⟩
  have hmp := Lib.hid (show mParse S = if ok = false then (zeroC, n, .bad) else if right c = 0 ∧ (text c).length ≤ 65536 ∧ text c = S then (c, 0, .ok) else (zeroC, n, .bad) from by unfold mParse; rw [if_neg hbig, hml])
  rw [hml] at hR hok
  rw [hml]
  simp only at hR hok ⊢
  have hV := hR.cfgV
  have hR' := Lib.hid hR
  obtain ⟨arr, harr, hs, hone⟩ := cfgV_arr hV
  injection harr with harr
  rw [harr] at hV ⊢
  have harr' := Lib.hid harr
  clear harr hR
  have hi := info_cfg arr hs
  have hiz := info_cfg zArr hzs
  have hz2 := (b2.block _ (Array.getElem?_eq_some_iff.1 hz0'.out).1).trans hz0'.out
  have B2 := hBa'.out.trans (b2.mono hBa'.out.size)
  have hg2 : w.heap.size < w2.heap.size := (Array.getElem?_eq_some_iff.1 hz2).1
  have hx0 : (w2.alloc (.cells zArr 27)).heap[w2.heap.size]? = some (.cells zArr 27 (0, 0)) := heap_alloc_new _ _
  have b3 : Below w2.heap.size w2 ((w2.alloc (.cells zArr 27)).setRow w2.heap.size arr) := below_setRow (alloc_below w2 _) (Nat.le_refl _) arr
  have hold0 : zArr.size = arr.size := by rw [hs]; rfl
  have hx3 := setRow_heap _ _ _ arr _ _ hx0
  have hV3 := Lib.hid (hV.below b3)
  have hR3 := Lib.hid (hR'.out.below b3)
  have B3 := Lib.hid (B2.trans (b3.mono (by omega)))
  have hz3 := (b3.block _ hg2).trans hz2
  clear hml hV B2 b2 hz2 b3 hbig hz0' hBa'
  cases ok with
  | false =>
    have hr := Lib.hid (show mParse S = (zeroC, n, .bad) from by rw [hmp.out, if_pos rfl])
    have hld := load_arr (setRow_heap _ _ _ zArr _ _ hz3) hzs
    have hend := Lib.hid (below_setRow B3.out (Nat.le_refl _) zArr)
    go_wp2_with (first
      | (refine wpList_store_row rfl 27 _ _ rfl w2.heap.size arr rfl rfl 27 zArr hx0 hi hold0 hone ?_)
      | (refine wpList_store_row rfl 27 _ _ rfl w.heap.size zArr rfl rfl 27 zArr hz3 hiz rfl zArr_one ?_))
    refine bodyPost_ret (results_cell3 rfl _ _ w.heap.size _ rfl hld) rfl ⟨.agg zArr, ?_, ?_, hend.out⟩
    · rw [hr.out]; rfl
    · rw [hr.out]; exact zArr_v _
  | true =>
    have hmp := Lib.hid (show mParse S = if right c = 0 ∧ (text c).length ≤ 65536 ∧ text c = S then (c, 0, .ok) else (zeroC, n, .bad) from by rw [hmp.out, if_neg (by decide)])
    have hld3 := load_arr hx3 hs
    have hE3 := hE'.out.of B3.out
    have HF := Lib.hid (format_any c _ _ hE3 hV3.out hok.inn (hok.fair (by decide)))
    have hx3' := Lib.hid hx3
    have hz3' := Lib.hid hz3
    clear hx3 hz3 hE3
    go_wp2_with (first
      | (refine wpList_store_row rfl 27 _ _ rfl w2.heap.size arr rfl rfl 27 zArr hx0 hi hold0 hone ?_)
      | (refine wpList_load_arr rfl 27 _ rfl ⟨w2.heap.size, 0, none⟩ rfl arr hld3 ?_))
    refine HF.out.mono ?_
    rintro e w4 ⟨rfl, b4⟩
    have hz4 := (b4.block _ (Array.getElem?_eq_some_iff.1 hz3'.out).1).trans hz3'.out
    have hx4 := (b4.block _ (Array.getElem?_eq_some_iff.1 hx3'.out).1).trans hx3'.out
    have V4 := Lib.hid (hV3.out.below b4)
    have B4 := Lib.hid (B3.out.trans (b4.mono B3.out.size))
    have hbad := Lib.hid (fun (h : ¬ (right c = 0 ∧ (text c).length ≤ 65536 ∧ text c = S)) => show mParse S = (zeroC, n, .bad) from by rw [hmp.out, if_neg h])
    have hgood := Lib.hid (fun (h : right c = 0 ∧ (text c).length ≤ 65536 ∧ text c = S) => show mParse S = (c, 0, .ok) from by rw [hmp.out, if_pos h])
    have hld4 := load_arr hx4 hs
    have hldz := load_arr (setRow_heap _ _ _ zArr _ _ hz4) hzs
    have hldc := load_arr (setRow_heap _ _ _ arr _ _ hz4) hs
    have hendz := Lib.hid (below_setRow B4.out (Nat.le_refl _) zArr)
    have hendc := Lib.hid (below_setRow B4.out (Nat.le_refl _) arr)
    have hvc := Lib.hid (show CfgV (w4.setRow w.heap.size arr) (.agg arr) c from harr'.out ▸ ((hR3.out.below b4).kt (Kt.setRow hz4 (by simp))).cfgV)
    clear hx0 hld3 HF b4 hx3' hz3'
    by_cases qe : fmtE c = 0
    · obtain ⟨f1, f2, f3⟩ := fmt_ok qe
      have q1 : (fmtE c != 0) = false := by simp [qe]
      rw [f3]
      have f1' := Lib.hid f1
      by_cases qs : text c = S
      · have q2 : (text c != S) = false := by simp [qs]
        have q3 : (text c == S) = true := by simp [qs]
        have hr := Lib.hid (hgood.out ⟨f1, f2, qs⟩)
        clear qe f1 f2 f3 qs
        go_wp2_with (first
          | (refine wpList_load_arr rfl 27 _ rfl ⟨w2.heap.size, 0, none⟩ rfl arr hld4 ?_)
          | (refine wpList_store_row rfl 27 _ _ rfl w.heap.size arr rfl rfl 27 zArr hz4 hi hold0 hone ?_))
        refine bodyPost_ret (results_cell3 rfl _ _ w.heap.size _ rfl hldc) rfl ⟨.agg arr, ?_, ?_, hendc.out⟩
        · rw [hr.out]; rfl
        · rw [hr.out]; exact hvc.out
      · have q2 : (text c != S) = true := by simp [qs]
        have q3 : (text c == S) = false := by simp [qs]
        have hr := Lib.hid (hbad.out (fun e => qs e.2.2))
        clear qe f1 f2 f3 qs
        go_wp2_with (refine wpList_store_row rfl 27 _ _ rfl w.heap.size zArr rfl rfl 27 zArr hz4 hiz rfl zArr_one ?_)
        refine bodyPost_ret (results_cell3 rfl _ _ w.heap.size _ rfl hldz) rfl ⟨.agg zArr, ?_, ?_, hendz.out⟩
        · rw [hr.out]; rfl
        · rw [hr.out]; exact zArr_v _
    · have q1 : (fmtE c != 0) = true := by simp [qe]
      have hr := Lib.hid (hbad.out (fun e => fmt_no qe ⟨e.1, e.2.1⟩))
      clear qe
      go_wp2_with (refine wpList_store_row rfl 27 _ _ rfl w.heap.size zArr rfl rfl 27 zArr hz4 hiz rfl zArr_one ?_)
      refine bodyPost_ret (results_cell3 rfl _ _ w.heap.size _ rfl hldz) rfl ⟨.agg zArr, ?_, ?_, hendz.out⟩
      · rw [hr.out]; rfl
      · rw [hr.out]; exact zArr_v _
end Go.Proofs.YtjklpikopgihgaaGreatDoor
