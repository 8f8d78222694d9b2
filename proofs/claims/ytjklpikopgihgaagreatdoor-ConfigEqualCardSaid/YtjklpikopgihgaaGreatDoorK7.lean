/- The code: planWords. -/
import Derived.Test.YtjklpikopgihgaaGreatDoorK6
set_option linter.unusedVariables false
set_option maxRecDepth 100000
set_option linter.unusedSimpArgs false
namespace Go.Proofs.YtjklpikopgihgaaGreatDoor
open Go.RowKit Go.Lib Cf

theorem own_mono {w : World} {base b : Nat} {T : TypeId} {k : Nat} {v : Value} {n : Nat} {xs : List Value} (h : w.ownsRow base T k v n xs) (hb : b ≤ base) : w.ownsRow b T k v n xs := by
  refine ⟨h.1, ?_⟩
  rcases h.2 with h2 | ⟨g, cap, cur, hv, hg, r⟩
  · exact .inl h2
  · exact .inr ⟨g, cap, cur, hv, by omega, r⟩
theorem one_sv (x : Bs) : ∀ u ∈ ([sv x] : List Value), u.oneCell' = true := by simp [sv, Value.oneCell']
set_option maxHeartbeats 2000000 in
theorem planWords_any (p : Plan) (u : Value) (w : World) (hE : Env w) (hu : RN w u p.kinds) (hg : Dg p.urg) (hk : ∀ k ∈ p.kinds, kndOk k = true) (hl : p.kinds.length ≤ 100) (hcl : p.code.length ≤ 1000000) :
    Calls Tryz.prog 35 #[.agg #[.string ⟨p.code.toArray⟩, .int .i64 p.urg, u]] w fun e w' => ∃ v, e = .returned v ∧ OwnS w' w.heap.size v (wordsP p) ∧ Below w.heap.size w w' := by
  obtain ⟨A, c, rfl⟩ := hu.form
  obtain ⟨code, urg, kinds⟩ := p
  simp only at hu hg hk hl hcl ⊢
  have hu' := Lib.hid hu
  have hB := (Below.refl w.heap.size w).alloc (Nat.le_refl _) (.cells #[.string ⟨code.toArray⟩, .int .i64 urg, .slice A kinds.length c] 43)
  have hc := heap_alloc_new w (.cells #[.string ⟨code.toArray⟩, .int .i64 urg, .slice A kinds.length c] 43)
  have hk' := Lib.hid hk
  obtain ⟨X, hX⟩ : ∃ X, dig urg = X := ⟨_, rfl⟩
  have hX' := Lib.hid hX
  clear hk hu
  go_enter Tryz.func35, Tryz.ntmps35
  go_wp2_with fail
  generalize w.alloc (.cells #[.string ⟨code.toArray⟩, .int .i64 urg, .slice A kinds.length c] 43) = W at hB hc ⊢
  have hWE : Env W := hE.of hB
  have HN := Lib.hid (fun w' (h : Below W.heap.size W w') => show Calls Tryz.prog 32 #[.int .i64 urg] w' (fun e w'' => e = .returned (.string ⟨X.toArray⟩) ∧ Below w'.heap.size w' w'') from hX ▸ numI_any urg w' (hWE.of h) hg)
  have hcell : ∀ i v, (#[.string ⟨code.toArray⟩, .int .i64 urg, .slice A kinds.length c] : Array Value)[i]? = some v → ∀ w', Below W.heap.size W w' → w'.cell? ⟨w.heap.size, i, none⟩ = some v := fun i v hv w' h => cell_keep (by rw [cell_of_row _ _ i _ _ _ hc]; exact hv) h
  have HS := Lib.hid (fun w' (h : Below W.heap.size W w') => show w'.cell? ⟨w.heap.size, 0, none⟩ = some (.string ⟨code.toArray⟩) ∧ w'.cell? ⟨w.heap.size, 1, none⟩ = some (.int .i64 urg) from ⟨hcell 0 _ rfl w' h, hcell 1 _ rfl w' h⟩)
  have HC := Lib.hid (hcell 2 _ rfl)
  have hW := hB.size
  have hB' := Lib.hid hB
  have hE' := Lib.hid hE
  clear hcell hc hWE hB hX hE
  have Bw : Below W.heap.size W W.drew := (Below.refl _ _).drew
  have hS := HS.out _ Bw
  go_region_held3 (fun w' => w'.cell? ⟨w.heap.size, 0, none⟩ = some (.string ⟨code.toArray⟩) ∧ w'.cell? ⟨w.heap.size, 1, none⟩ = some (.int .i64 urg)) (first | exact HS.out _ Bw | exact HS.out _ (then_ Bw ((Below.refl _ _).alloc (Nat.le_refl _) _))) (first | (go_at_call 32; refine (HN.out _ Bw).mono ?_; rintro r w1 ⟨rfl, b1⟩; have Bw := then_ Bw b1; have hS := HS.out _ Bw))
  clear hS
  have hWl : w.heap.size ≤ w1.heap.size := by have := Bw.size; omega
  have O1 : OwnS (w1.alloc (.cells (([wdPlan, code, X] : List Bs).map sv).toArray 9)) w1.heap.size (.slice (some ⟨w1.heap.size, 0, none⟩) 3 3) [wdPlan, code, X] := OwnS.lit w1 [wdPlan, code, X] (by simp)
  have O1 := Lib.hid (own_mono O1 hWl)
  have B2 := Lib.hid (then_ Bw ((Below.refl _ w1).alloc (Nat.le_refl _) (.cells #[.string ⟨#[112, 108, 97, 110]⟩, .string ⟨code.toArray⟩, .string ⟨X.toArray⟩] 9)))
  have c2 := HC.out _ B2.out
  have B3 := Lib.hid (hB'.out.trans (B2.out.mono hW))
  clear Bw b1
  go_wp2_with fail
  clear c2
  go_loopw [3, 15] (fun s i w' => ∃ k : Nat, i = .int .i64 (k : Int) ∧ k ≤ kinds.length ∧ OwnS w' w.heap.size s ([wdPlan, code, X] ++ (kinds.take k).map kindName) ∧ Below w.heap.size w w') (fun _ i _ => kinds.length - (RowKit.intOf i).toNat)
  case atStart => exact ⟨0, rfl, by omega, O1.out, B3.out⟩
  case round =>
    obtain ⟨k, rfl, hk, hO, hBk⟩ := hrel
    have hBk' := Lib.hid hBk
    have hws : w.heap.size ≤ wr.heap.size := hBk.size
    obtain ⟨vA, vn, vc, rfl⟩ := own_form3 hO
    have hO' := Lib.hid hO
    clear hO hBk O1 B2 B3
    by_cases hlt : k < kinds.length
    · obtain ⟨z, hz⟩ : ∃ z, kinds[k]? = some z := ⟨_, List.getElem?_eq_getElem hlt⟩
      obtain ⟨ad, rfl, d0⟩ := (hu'.out.below hBk'.out).at_ hz
      have e1 : (k : Int) < (kinds.length : Int) := by omega
      have e2 : (0 : Int) ≤ (k : Int) := by omega
      have hkz := hk'.out z (List.mem_of_getElem? hz)
      have hst := Lib.hid (show (kinds.take (k + 1)).map kindName = (kinds.take k).map kindName ++ [kindName z] from by rw [List.take_add_one, hz]; simp)
      have hEr := hE'.out.of hBk'.out
      have hlen := Lib.hid (show ([wdPlan, code, X] ++ (kinds.take k).map kindName).length ≤ 10000000 from by simp; omega)
      obtain ⟨Y, hY⟩ : ∃ Y, kindName z = Y := ⟨_, rfl⟩
      have HK := kname_any z wr hEr hkz
      rw [hY] at HK
      have HK' := Lib.hid HK
      have hY' := Lib.hid hY
      have O2 := Lib.hid (World.ownsRow.alloc hO'.out (.cells #[sv Y] 9))
      have hnew := Lib.hid (one_new wr 9 (sv Y))
      have hsz : w.heap.size ≤ (wr.alloc (.cells #[sv Y] 9)).heap.size := le_alloc hws
      have hall := Lib.hid (hBk'.out.alloc hws (.cells #[sv Y] 9))
      clear hz hEr HK hY hkz
      go_wp2_with fail
      refine HK'.out.mono ?_
      rintro r w2 ⟨rfl, rfl⟩
      clear d0
      go_wp2_with (at_builtin; refine wpList_append1 rfl _ _ 60 9 rfl 1 16 _ Tryz.underlying60 infoStr rfl (by decide) (by decide) w.heap.size (.slice vA vn vc) _ _ rfl O2.out wr.heap.size rfl [sv Y] rfl hnew.out (one_sv Y) hlen.out hsz ?_; intro v3 w3 hO3 hg3 _; obtain ⟨A3, n3, cap3, rfl⟩ := own_form3 hO3; have b3 := Lib.hid (hall.out.grown hg3 hsz (fun k hk => (World.ownsRow.lt O2.out k hk).1)); have O3 := Lib.hid hO3; clear hO3 hg3)
      go_roundw
      case rel =>
        refine ⟨k + 1, by go_num, by omega, ?_, b3.out⟩
        have h := O3.out
        unfold OwnS
        rw [hst.out, hY'.out, ← List.append_assoc, List.length_append, List.map_append]
        exact h
      case measure => simp [RowKit.intOf]; omega
    · obtain rfl : k = kinds.length := by omega
      have hfin := Lib.hid (show OwnS wr w.heap.size (.slice vA vn vc) (wordsP ⟨code, urg, kinds⟩) from by
        have h := hO'.out
        rw [List.take_length, ← hX'.out] at h
        exact h)
      clear hO'
      go_wp2
      go_ret
      exact ⟨_, rfl, hfin.out, hBk'.out⟩
end Go.Proofs.YtjklpikopgihgaaGreatDoor
