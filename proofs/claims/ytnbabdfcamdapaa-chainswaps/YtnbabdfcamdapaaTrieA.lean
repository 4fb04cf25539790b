/-
  The walks of package trie's small functions: how many bits a byte has, two beginnings' first bits, a bit.
-/
import Derived.Test.YtnbabdfcamdapaaRr
import Derived.Test.YtnbabdfcamdapaaTriC
import Derived.Laws.CopyOwn
namespace Go.Proofs.Ytnbabdfcamdapaa
open Go.RowKit Go.Deep

/-- A byte of an address. -/
def byt (a : List Int) (i : Nat) : Int := a.getD i 0

/-- How many of a byte's first bits are 0. -/
def lzN (z : Int) : Nat := if 128 ≤ z then 0 else if 64 ≤ z then 1 else if 32 ≤ z then 2 else if 16 ≤ z then 3 else if 8 ≤ z then 4 else if 4 ≤ z then 5 else if 2 ≤ z then 6 else if 1 ≤ z then 7 else 8

theorem lz_le (z : Int) : lzN z ≤ 8 := by
  unfold lzN
  repeat' split
  all_goals omega

/-- The first unlike bit of two bytes is the first 1 of both held against each other. -/
theorem lz_bits : ∀ z : Fin 256, ∀ k : Fin 8, (k.val < lzN (z.val : Int) → Nat.testBit z.val (7 - k.val) = false) ∧ (k.val = lzN (z.val : Int) → Nat.testBit z.val (7 - k.val) = true) := by decide +kernel

theorem bit_test (x k : Nat) : ((x : Int) / 2 ^ k % 2) = (if Nat.testBit x k then 1 else 0) := by
  have : ((x : Int) / 2 ^ k % 2) = ((x / 2 ^ k % 2 : Nat) : Int) := by
    rw [Int.natCast_emod, Int.natCast_ediv, Int.natCast_pow]; rfl
  rw [this, Nat.testBit_eq_decide_div_mod_eq]
  by_cases h : x / 2 ^ k % 2 = 1
  · rw [h]; simp
  · have h0 : x / 2 ^ k % 2 = 0 := by omega
    rw [h0]; simp

theorem xor_byte (x y : Nat) (hx : x < 256) (hy : y < 256) : bits .xor .u8 (x : Int) (y : Int) = ((x ^^^ y : Nat) : Int) ∧ x ^^^ y < 256 := by
  have h1 : x ^^^ y < 256 := Nat.xor_lt_two_pow (n := 8) hx hy
  refine ⟨?_, h1⟩
  have ha' : x % 2 ^ IntKind.u8.bits = x := Nat.mod_eq_of_lt hx
  have hb' : y % 2 ^ IntKind.u8.bits = y := Nat.mod_eq_of_lt hy
  simp only [bits, BitVec.ofInt_natCast, BitVec.toNat_xor, BitVec.toNat_ofNat, ha', hb']
  rw [IntKind.wrap_u8]
  omega

/-- How many of the first bits, so many at most, two addresses share. -/
def comU (a k : List Int) : Nat → Nat
  | 0 => 0
  | j + 1 => if comU a k j = j ∧ bitN a j = bitN k j then j + 1 else comU a k j

theorem comU_le (a k : List Int) (p : Nat) : comU a k p ≤ p := by
  induction p with
  | zero => simp [comU]
  | succ j ih => unfold comU; split <;> omega

theorem comU_al (a k : List Int) (p : Nat) : Al a k (comU a k p) := by
  induction p with
  | zero => intro i hi; simp [comU] at hi
  | succ j ih =>
    unfold comU
    split
    · rename_i h
      intro i hi
      rcases Nat.lt_or_ge i j with q | q
      · exact ih i (by omega)
      · obtain rfl : i = j := by omega
        exact h.2
    · exact ih

theorem comU_most (a k : List Int) (p s : Nat) (hs : s ≤ p) (h : Al a k s) : s ≤ comU a k p := by
  induction p with
  | zero => omega
  | succ j ih =>
    have hj := comU_le a k j
    unfold comU
    split
    · exact hs
    · rename_i hn
      rcases Nat.lt_or_ge s (j + 1) with q | q
      · exact ih (by omega)
      · exfalso
        have h1 : Al a k j := h.mono (by omega)
        have h2 : bitN a j = bitN k j := h j (by omega)
        have h3 : comU a k j = j := by
          clear ih hn
          have : ∀ i, i ≤ j → comU a k i = i := by
            intro i
            induction i with
            | zero => intro _; rfl
            | succ i ih =>
              intro hi
              unfold comU
              rw [if_pos ⟨ih (by omega), h1 i (by omega)⟩]
          exact this j (Nat.le_refl _)
        exact hn ⟨h3, h2⟩

theorem comU_eq (a k : List Int) (p s : Nat) (hs : s ≤ p) (h : Al a k s) (hb : s = p ∨ ¬ bitN a s = bitN k s) : comU a k p = s := by
  have h1 := comU_most a k p s hs h
  have h2 := comU_le a k p
  have h3 := comU_al a k p
  rcases hb with rfl | hb
  · omega
  · rcases Nat.lt_or_ge s (comU a k p) with q | q
    · exact absurd (h3 s q) hb
    · omega

theorem byt_bit {a : List Int} (i : Nat) : bitN a i = byt a (i / 8) / 2 ^ (7 - i % 8) % 2 := rfl

theorem byt_nat {a : List Int} (h : ∀ x ∈ a, 0 ≤ x ∧ x ≤ 255) (i : Nat) : ∃ x : Nat, byt a i = (x : Int) ∧ x < 256 := by
  have := getD_byte h i
  exact ⟨(byt a i).toNat, by unfold byt; omega, by unfold byt; omega⟩

/-- Where two bytes part. -/
theorem part_byte {a k : List Int} {i x y : Nat} (hx : byt a i = (x : Int)) (hy : byt k i = (y : Int)) (lx : x < 256) (ly : y < 256) (d : Nat) (hd : lzN ((x ^^^ y : Nat) : Int) = d) :
    (∀ j, j < d → j < 8 → bitN a (8 * i + j) = bitN k (8 * i + j)) ∧ (d < 8 → ¬ bitN a (8 * i + d) = bitN k (8 * i + d)) := by
  have hb : ∀ j, j < 8 → (bitN a (8 * i + j) = if Nat.testBit x (7 - j) then 1 else 0) ∧ (bitN k (8 * i + j) = if Nat.testBit y (7 - j) then 1 else 0) := fun j hj => by
    rw [byt_bit, byt_bit, show (8 * i + j) / 8 = i by omega, show (8 * i + j) % 8 = j by omega, hx, hy]
    exact ⟨bit_test x (7 - j), bit_test y (7 - j)⟩
  have hz : x ^^^ y < 256 := Nat.xor_lt_two_pow (n := 8) lx ly
  have hl := fun k : Fin 8 => lz_bits ⟨x ^^^ y, hz⟩ k
  simp only at hl
  refine ⟨fun j h1 h2 => ?_, fun h2 q => ?_⟩
  · have h3 := (hl ⟨j, h2⟩).1 (by rw [hd]; exact h1)
    simp only [Nat.testBit_xor] at h3
    rw [(hb j h2).1, (hb j h2).2]
    cases e1 : Nat.testBit x (7 - j) <;> cases e2 : Nat.testBit y (7 - j) <;> simp_all
  · have h3 := (hl ⟨d, h2⟩).2 (by rw [hd])
    simp only [Nat.testBit_xor] at h3
    rw [(hb d h2).1, (hb d h2).2] at q
    cases e1 : Nat.testBit x (7 - d) <;> cases e2 : Nat.testBit y (7 - d) <;> simp_all

theorem lz_zero (z : Nat) (hz : z < 256) : lzN (z : Int) = 8 ↔ z = 0 := by
  unfold lzN
  constructor
  · intro h
    repeat' split at h
    all_goals first | omega | skip
  · rintro rfl; rfl

theorem list16 {a : List Int} (h : a.length = 16) : a.map (Value.int .u8) = [.int .u8 (byt a 0), .int .u8 (byt a 1), .int .u8 (byt a 2), .int .u8 (byt a 3), .int .u8 (byt a 4), .int .u8 (byt a 5), .int .u8 (byt a 6), .int .u8 (byt a 7), .int .u8 (byt a 8), .int .u8 (byt a 9), .int .u8 (byt a 10), .int .u8 (byt a 11), .int .u8 (byt a 12), .int .u8 (byt a 13), .int .u8 (byt a 14), .int .u8 (byt a 15)] := by
  match a, h with
  | [_, _, _, _, _, _, _, _, _, _, _, _, _, _, _, _], _ => rfl

theorem beg_at (a : List Int) (n : Int) (i : Nat) (h : i < 16) : (#[.int .u8 (byt a 0), .int .u8 (byt a 1), .int .u8 (byt a 2), .int .u8 (byt a 3), .int .u8 (byt a 4), .int .u8 (byt a 5), .int .u8 (byt a 6), .int .u8 (byt a 7), .int .u8 (byt a 8), .int .u8 (byt a 9), .int .u8 (byt a 10), .int .u8 (byt a 11), .int .u8 (byt a 12), .int .u8 (byt a 13), .int .u8 (byt a 14), .int .u8 (byt a 15), .int .i64 n] : Array Value)[i]? = some (.int .u8 (byt a i)) := by
  match i, h with
  | 0, _ => rfl
  | 1, _ => rfl
  | 2, _ => rfl
  | 3, _ => rfl
  | 4, _ => rfl
  | 5, _ => rfl
  | 6, _ => rfl
  | 7, _ => rfl
  | 8, _ => rfl
  | 9, _ => rfl
  | 10, _ => rfl
  | 11, _ => rfl
  | 12, _ => rfl
  | 13, _ => rfl
  | 14, _ => rfl
  | 15, _ => rfl
  | i + 16, h => exact absurd h (by omega)

/-- An address filled up with zeros. -/
def padN (A : List Int) : List Int := A ++ List.replicate (16 - A.length) 0

theorem padN_len {A : List Int} (h : A.length ≤ 16) : (padN A).length = 16 := by simp [padN]; omega

theorem padN_bytes {A : List Int} (h : ∀ x ∈ A, 0 ≤ x ∧ x ≤ 255) : ∀ x ∈ padN A, 0 ≤ x ∧ x ≤ 255 := by
  intro x hx
  unfold padN at hx
  rcases List.mem_append.1 hx with q | q
  · exact h x q
  · rw [List.mem_replicate] at q; rw [q.2]; omega

theorem padN_byt {A : List Int} (i : Nat) : byt (padN A) i = byt A i := by
  unfold byt padN
  rw [List.getD_eq_getElem?_getD, List.getElem?_append, List.getD_eq_getElem?_getD]
  split
  · rfl
  · rename_i q
    rw [List.getElem?_eq_none (l := A) (by omega), List.getElem?_replicate]
    split <;> rfl

theorem padN_bit {A : List Int} (i : Nat) : bitN (padN A) i = bitN A i := by
  rw [byt_bit, byt_bit, padN_byt]

theorem pad_splice {A : List Int} (h : A.length ≤ 16) (n : Int) :
    splice ([.int .u8 0, .int .u8 0, .int .u8 0, .int .u8 0, .int .u8 0, .int .u8 0, .int .u8 0, .int .u8 0, .int .u8 0, .int .u8 0, .int .u8 0, .int .u8 0, .int .u8 0, .int .u8 0, .int .u8 0, .int .u8 0, .int .i64 n] : List Value) 0 (A.map (Value.int .u8)) = [.int .u8 (byt (padN A) 0), .int .u8 (byt (padN A) 1), .int .u8 (byt (padN A) 2), .int .u8 (byt (padN A) 3), .int .u8 (byt (padN A) 4), .int .u8 (byt (padN A) 5), .int .u8 (byt (padN A) 6), .int .u8 (byt (padN A) 7), .int .u8 (byt (padN A) 8), .int .u8 (byt (padN A) 9), .int .u8 (byt (padN A) 10), .int .u8 (byt (padN A) 11), .int .u8 (byt (padN A) 12), .int .u8 (byt (padN A) 13), .int .u8 (byt (padN A) 14), .int .u8 (byt (padN A) 15), .int .i64 n] := by
  have e : ([.int .u8 0, .int .u8 0, .int .u8 0, .int .u8 0, .int .u8 0, .int .u8 0, .int .u8 0, .int .u8 0, .int .u8 0, .int .u8 0, .int .u8 0, .int .u8 0, .int .u8 0, .int .u8 0, .int .u8 0, .int .u8 0, .int .i64 n] : List Value) = List.replicate 16 (.int .u8 0) ++ [.int .i64 n] := rfl
  have e2 : ([.int .u8 (byt (padN A) 0), .int .u8 (byt (padN A) 1), .int .u8 (byt (padN A) 2), .int .u8 (byt (padN A) 3), .int .u8 (byt (padN A) 4), .int .u8 (byt (padN A) 5), .int .u8 (byt (padN A) 6), .int .u8 (byt (padN A) 7), .int .u8 (byt (padN A) 8), .int .u8 (byt (padN A) 9), .int .u8 (byt (padN A) 10), .int .u8 (byt (padN A) 11), .int .u8 (byt (padN A) 12), .int .u8 (byt (padN A) 13), .int .u8 (byt (padN A) 14), .int .u8 (byt (padN A) 15), .int .i64 n] : List Value) = (padN A).map (Value.int .u8) ++ [.int .i64 n] := by rw [list16 (padN_len h)]; rfl
  rw [e, e2]
  unfold splice padN
  rw [List.take_zero, List.nil_append, List.map_append, List.append_assoc, Nat.zero_add, List.length_map, List.drop_append_of_le_length (by simp; omega), List.drop_replicate, List.map_replicate]

end Go.Proofs.Ytnbabdfcamdapaa
