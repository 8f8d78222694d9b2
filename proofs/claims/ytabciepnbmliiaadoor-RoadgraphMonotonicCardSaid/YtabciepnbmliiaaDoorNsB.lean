/- How many bits a word has, as the library reckons it. -/
import Derived.Test.YtabciepnbmliiaaDoorNsM
namespace Nds
open Go Go.Lib

def val : List Nat → Nat
  | [] => 0
  | b :: l => 256 * val l + b

def rep (m : Nat) (l : List Nat) : Nat := val (l.map fun _ => m)

theorem half_val (l : List Nat) (h : ∀ b ∈ l, b < 256) : val l / 2 &&& rep 85 l = val (l.map fun b => b / 2 &&& 85) := by
  have key : ∀ b, b < 256 → ∀ c, c < 2 → (b / 2 + 128 * c) &&& 85 = b / 2 &&& 85 := by decide +kernel
  induction l with
  | nil => simp [val, rep]
  | cons b l ih =>
    have hb := h b (by simp)
    have ih := ih fun x hx => h x (by simp [hx])
    unfold rep at *
    simp only [val, List.map_cons]
    rw [show (256 * val l + b) / 2 = 2 ^ 8 * (val l / 2) + (b / 2 + 128 * (val l % 2)) by omega, show (256 : Nat) = 2 ^ 8 by rfl, lane_and 8 _ _ _ _ (by omega) (by omega), ih, key b hb _ (by omega)]

theorem low_val (m : Nat) (hm : m < 256) (l : List Nat) (h : ∀ b ∈ l, b < 256) : val l &&& rep m l = val (l.map fun b => b &&& m) := by
  induction l with
  | nil => simp [val, rep]
  | cons b l ih =>
    have hb := h b (by simp)
    have ih := ih fun x hx => h x (by simp [hx])
    unfold rep at *
    simp only [val, List.map_cons]
    rw [show (256 : Nat) = 2 ^ 8 by rfl, lane_and 8 _ _ _ _ (by omega) (by omega), ih]

theorem quarter_val (l : List Nat) (h : ∀ b ∈ l, b < 256) : val l / 4 &&& rep 51 l = val (l.map fun b => b / 4 &&& 51) := by
  have key : ∀ b, b < 256 → ∀ c, c < 4 → (b / 4 + 64 * c) &&& 51 = b / 4 &&& 51 := by decide +kernel
  induction l with
  | nil => simp [val, rep]
  | cons b l ih =>
    have hb := h b (by simp)
    have ih := ih fun x hx => h x (by simp [hx])
    unfold rep at *
    simp only [val, List.map_cons]
    rw [show (256 * val l + b) / 4 = 2 ^ 8 * (val l / 4) + (b / 4 + 64 * (val l % 4)) by omega, show (256 : Nat) = 2 ^ 8 by rfl, lane_and 8 _ _ _ _ (by omega) (by omega), ih, key b hb _ (by omega)]

theorem add_val (f g : Nat → Nat) (l : List Nat) : val (l.map f) + val (l.map g) = val (l.map fun b => f b + g b) := by
  induction l with
  | nil => rfl
  | cons b l ih => simp only [val, List.map_cons]; rw [← ih]; omega

def Nib (b : Nat) : Prop := b < 256 ∧ b % 16 ≤ 4 ∧ b / 16 ≤ 4

theorem nib_val (l : List Nat) (h : ∀ b ∈ l, Nib b) : (val l / 16 + val l) &&& rep 15 l = val (l.map fun b => b % 16 + b / 16) ∧ val l % 16 ≤ 4 := by
  have key : ∀ b, b < 256 → ∀ c, c < 5 → b % 16 ≤ 4 → b / 16 ≤ 4 → (b / 16 + b + 16 * c) &&& 15 = b % 16 + b / 16 := by decide +kernel
  induction l with
  | nil => simp [val, rep]
  | cons b l ih =>
    have hb := h b (by simp)
    obtain ⟨ih, hc⟩ := ih fun x hx => h x (by simp [hx])
    unfold rep at *
    unfold Nib at hb
    simp only [val, List.map_cons]
    refine ⟨?_, by omega⟩
    rw [show (256 * val l + b) / 16 + (256 * val l + b) = 2 ^ 8 * (val l / 16 + val l) + (b / 16 + b + 16 * (val l % 16)) by omega, show (256 : Nat) = 2 ^ 8 by rfl, lane_and 8 _ _ _ _ (by omega) (by omega), ih, key b hb.1 _ (by omega) hb.2.1 hb.2.2]

def pc8 (b : Nat) : Nat := ((List.range 8).filter fun j => b.testBit j).length
def g1 (b : Nat) : Nat := (b / 2 &&& 85) + (b &&& 85)
def g2 (b : Nat) : Nat := (b / 4 &&& 51) + (b &&& 51)
theorem g_all : ∀ b, b < 256 → g1 b < 256 ∧ g2 (g1 b) < 256 ∧ g2 (g1 b) % 16 ≤ 4 ∧ g2 (g1 b) / 16 ≤ 4 ∧ g2 (g1 b) % 16 + g2 (g1 b) / 16 = pc8 b ∧ pc8 b ≤ 8 := by decide +kernel

def ones1 (x : Nat) : Nat := (x / 2 &&& 6148914691236517205) + (x &&& 6148914691236517205)
def ones2 (x : Nat) : Nat := (x / 4 &&& 3689348814741910323) + (x &&& 3689348814741910323)
def ones3 (x : Nat) : Nat := (x / 16 + x) &&& 1085102592571150095

theorem bytes_of (x : Nat) (h : x < 18446744073709551616) : ∃ b0 b1 b2 b3 b4 b5 b6 b7, x = val [b0, b1, b2, b3, b4, b5, b6, b7] ∧ ∀ b ∈ [b0, b1, b2, b3, b4, b5, b6, b7], b < 256 := by
  refine ⟨x % 256, x / 256 % 256, x / 65536 % 256, x / 16777216 % 256, x / 4294967296 % 256, x / 1099511627776 % 256, x / 281474976710656 % 256, x / 72057594037927936 % 256, ?_, ?_⟩
  · simp only [val]; omega
  · intro b hb
    simp only [List.mem_cons, List.not_mem_nil, or_false] at hb
    omega

theorem cnt_step (b v k : Nat) (hb : b < 256) : ((List.range (8 + k)).filter fun j => (256 * v + b).testBit j).length = pc8 b + ((List.range k).filter fun j => v.testBit j).length := by
  have tb : ∀ j, (256 * v + b).testBit j = if j < 8 then b.testBit j else v.testBit (j - 8) := fun j => by
    rw [show (256 : Nat) = 2 ^ 8 by rfl, Nat.testBit_two_pow_mul_add _ (by omega)]
  rw [List.range_add, List.filter_append, List.length_append, List.filter_map, List.length_map]
  unfold pc8
  congr 2
  · apply List.filter_congr
    intro j hj
    rw [List.mem_range] at hj
    rw [tb, if_pos hj]
  · apply List.filter_congr
    intro j _
    simp only [Function.comp]
    rw [tb, if_neg (by omega)]
    congr 1; omega

theorem bitsOf_val (b0 b1 b2 b3 b4 b5 b6 b7 : Nat) (h : ∀ b ∈ [b0, b1, b2, b3, b4, b5, b6, b7], b < 256) :
    (bitsOf (val [b0, b1, b2, b3, b4, b5, b6, b7])).length = pc8 b0 + (pc8 b1 + (pc8 b2 + (pc8 b3 + (pc8 b4 + (pc8 b5 + (pc8 b6 + pc8 b7)))))) := by
  unfold bitsOf
  simp only [val]
  rw [show 64 = 8 + 56 by rfl, cnt_step _ _ _ (h _ (by simp)), show 56 = 8 + 48 by rfl, cnt_step _ _ _ (h _ (by simp)), show 48 = 8 + 40 by rfl, cnt_step _ _ _ (h _ (by simp)), show 40 = 8 + 32 by rfl, cnt_step _ _ _ (h _ (by simp)),
    show 32 = 8 + 24 by rfl, cnt_step _ _ _ (h _ (by simp)), show 24 = 8 + 16 by rfl, cnt_step _ _ _ (h _ (by simp)), show 16 = 8 + 8 by rfl, cnt_step _ _ _ (h _ (by simp)), show 8 = 8 + 0 by rfl, cnt_step _ _ _ (h _ (by simp))]
  simp

theorem val_lt (m : Nat) (hm : 1 ≤ m) (hm2 : m ≤ 256) : ∀ l : List Nat, (∀ b ∈ l, b < m) → val l < 256 ^ l.length
  | [], _ => by simp [val]
  | b :: l, h => by
    have ih := val_lt m hm hm2 l fun x hx => h x (by simp [hx])
    have hb := h b (by simp)
    simp only [val, List.length_cons, Nat.pow_succ]
    omega

theorem fold_val (c0 c1 c2 c3 c4 c5 c6 c7 : Nat) (h0 : c0 ≤ 8) (h1 : c1 ≤ 8) (h2 : c2 ≤ 8) (h3 : c3 ≤ 8) (h4 : c4 ≤ 8) (h5 : c5 ≤ 8) (h6 : c6 ≤ 8) (h7 : c7 ≤ 8) :
    let z := val [c0, c1, c2, c3, c4, c5, c6, c7]; let y := z + z / 256; let u := y + y / 65536; z ≤ 578721382704613384 ∧ (u + u / 4294967296) % 128 = c0 + (c1 + (c2 + (c3 + (c4 + (c5 + (c6 + c7)))))) := by
  intro z y u
  have hz : z = c0 + 256 * val [c1, c2, c3, c4, c5, c6, c7] := by show 256 * val [c1, c2, c3, c4, c5, c6, c7] + c0 = _; omega
  have e1 : z / 256 = val [c1, c2, c3, c4, c5, c6, c7] := by omega
  have f1 : val [c1, c2, c3, c4, c5, c6, c7] = c1 + 256 * c2 + 65536 * c3 + 16777216 * c4 + 4294967296 * c5 + 1099511627776 * c6 + 281474976710656 * c7 := by simp only [val]; omega
  have hy : y = (c0 + c1) + 256 * (c1 + c2) + 65536 * ((c2 + c3) + 256 * (c3 + c4) + 65536 * (c4 + c5) + 16777216 * (c5 + c6) + 4294967296 * (c6 + c7) + 1099511627776 * c7) := by
    show z + z / 256 = _
    rw [e1, hz, f1]; omega
  have e2 : y / 65536 = (c2 + c3) + 256 * (c3 + c4) + 65536 * (c4 + c5) + 16777216 * (c5 + c6) + 4294967296 * (c6 + c7) + 1099511627776 * c7 := by
    rw [hy]; clear hy e1 f1 hz; omega
  have hu : u = (c0 + c1 + c2 + c3) + 256 * (c1 + c2 + c3 + c4) + 65536 * (c2 + c3 + c4 + c5) + 16777216 * (c3 + c4 + c5 + c6) + 4294967296 * ((c4 + c5 + c6 + c7) + 256 * (c5 + c6 + c7) + 65536 * (c6 + c7) + 16777216 * c7) := by
    show y + y / 65536 = _
    rw [e2, hy]; clear hy e1 e2 f1 hz; omega
  have e3 : u / 4294967296 = (c4 + c5 + c6 + c7) + 256 * (c5 + c6 + c7) + 65536 * (c6 + c7) + 16777216 * c7 := by
    rw [hu]; clear hu e2 hy e1 f1 hz; omega
  refine ⟨by rw [hz, f1]; clear hu e3 e2 hy e1 f1 hz; omega, ?_⟩
  rw [e3, hu]
  clear hu e3 e2 hy e1 f1 hz
  omega

theorem ones_facts (x : Nat) (h : x < 18446744073709551616) :
    ones1 x < 18446744073709551616 ∧ ones2 (ones1 x) < 18446744073709551616 ∧ ones2 (ones1 x) / 16 + ones2 (ones1 x) < 18446744073709551616 ∧
    ones3 (ones2 (ones1 x)) ≤ 578721382704613384 ∧
    (let z := ones3 (ones2 (ones1 x)); let y := z + z / 256; let u := y + y / 65536; (u + u / 4294967296) % 128 = (bitsOf x).length) := by
  obtain ⟨b0, b1, b2, b3, b4, b5, b6, b7, rfl, hb⟩ := bytes_of x h
  have hg := fun b hm => g_all b (hb b hm)
  obtain ⟨l, hl⟩ : ∃ l, l = [b0, b1, b2, b3, b4, b5, b6, b7] := ⟨_, rfl⟩
  have e1 : ones1 (val l) = val (l.map g1) := by
    have h1 := half_val l (by rw [hl]; exact hb)
    have h2 := low_val 85 (by omega) l (by rw [hl]; exact hb)
    have hr : rep 85 l = 6148914691236517205 := by rw [hl]; simp [rep, val]
    rw [hr] at h1 h2
    unfold ones1
    rw [h1, h2, add_val]; rfl
  have hb1 : ∀ b ∈ l.map g1, b < 256 := by
    intro b hm
    rw [List.mem_map] at hm
    obtain ⟨a, ha, rfl⟩ := hm
    exact (hg a (by rw [← hl]; exact ha)).1
  have e2 : ones2 (ones1 (val l)) = val ((l.map g1).map g2) := by
    have h1 := quarter_val (l.map g1) hb1
    have h2 := low_val 51 (by omega) (l.map g1) hb1
    have hr : rep 51 (l.map g1) = 3689348814741910323 := by rw [hl]; simp [rep, val]
    rw [hr] at h1 h2
    unfold ones2
    rw [e1, h1, h2, add_val]; rfl
  have hb2 : ∀ b ∈ (l.map g1).map g2, Nib b := by
    intro b hm
    rw [List.map_map, List.mem_map] at hm
    obtain ⟨a, ha, rfl⟩ := hm
    have := hg a (by rw [← hl]; exact ha)
    exact ⟨this.2.1, this.2.2.1, this.2.2.2.1⟩
  have e3 : ones3 (ones2 (ones1 (val l))) = val (((l.map g1).map g2).map fun b => b % 16 + b / 16) := by
    have h1 := (nib_val ((l.map g1).map g2) hb2).1
    have hr : rep 15 ((l.map g1).map g2) = 1085102592571150095 := by rw [hl]; simp [rep, val]
    rw [hr] at h1
    unfold ones3
    rw [e2, h1]
  have e4 : ((l.map g1).map g2).map (fun b => b % 16 + b / 16) = l.map pc8 := by
    rw [List.map_map, List.map_map]
    refine List.map_congr_left fun a ha => ?_
    exact (hg a (by rw [← hl]; exact ha)).2.2.2.2.1
  have hcnt := bitsOf_val b0 b1 b2 b3 b4 b5 b6 b7 hb
  have p : (256 : Nat) ^ 8 = 18446744073709551616 := by decide
  have l1 : ones1 (val l) < 18446744073709551616 := by
    rw [e1, ← p]
    have := val_lt 256 (by omega) (by omega) (l.map g1) hb1
    rw [List.length_map, hl] at this
    rw [hl]; exact this
  have l2 : ones2 (ones1 (val l)) < 18446744073709551616 ∧ ones2 (ones1 (val l)) / 16 + ones2 (ones1 (val l)) < 18446744073709551616 := by
    rw [e2]
    have hv : val ((l.map g1).map g2) ≤ 4919131752989213764 := by
      rw [hl]
      simp only [List.map_cons, List.map_nil, val]
      have q := fun b (hm : b ∈ [b0, b1, b2, b3, b4, b5, b6, b7]) => (show g2 (g1 b) ≤ 68 by have := hg b hm; omega)
      have q0 := q b0 (by simp)
      have q1 := q b1 (by simp)
      have q2 := q b2 (by simp)
      have q3 := q b3 (by simp)
      have q4 := q b4 (by simp)
      have q5 := q b5 (by simp)
      have q6 := q b6 (by simp)
      have q7 := q b7 (by simp)
      clear q hg hb e1 e2 e3 e4 hcnt hb1 hb2 h hl l1
      omega
    clear hg hb e1 e2 e3 e4 hcnt hb1 hb2 h hl l1
    omega
  have hr8 := fun b hm => (hg b hm).2.2.2.2.2
  have hf := fold_val (pc8 b0) (pc8 b1) (pc8 b2) (pc8 b3) (pc8 b4) (pc8 b5) (pc8 b6) (pc8 b7) (hr8 _ (by simp)) (hr8 _ (by simp)) (hr8 _ (by simp)) (hr8 _ (by simp)) (hr8 _ (by simp)) (hr8 _ (by simp)) (hr8 _ (by simp)) (hr8 _ (by simp))
  rw [← hl]
  refine ⟨l1, l2.1, l2.2, ?_, ?_⟩
  · rw [e3, e4, hl]; exact hf.1
  · rw [e3, e4]
    rw [← hl] at hcnt
    rw [hcnt, hl]; exact hf.2

end Nds
