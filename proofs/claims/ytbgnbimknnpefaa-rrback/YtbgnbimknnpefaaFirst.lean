/-
  The walks of isDigit and firstByte: what stands at a text's head. They only read.
-/
import Derived.Test.YtbgnbimknnpefaaLabels
import Derived.Test.YtbgnbimknnpefaaText
import Derived.Test.YtbgnbimknnpefaaNames
namespace Go.Proofs.Ytbgnbimknnpefaa
open Go.RowKit

theorem bs_cons (s : ByteArray) (k : Nat) (h : k < s.size) : (Nm.bs s).drop k = (s[k].toNat : Int) :: (Nm.bs s).drop (k + 1) := by
  rw [List.drop_eq_getElem_cons (by rw [bs_length]; exact h), bs_get s k h]

theorem bs_over (s : ByteArray) (k : Nat) (h : s.size ≤ k) : (Nm.bs s).drop k = [] := List.drop_of_length_le (by rw [bs_length]; exact h)

theorem first_one (s : ByteArray) (h : s.size = 1) : Nm.first (Nm.bs s) = ((s[0].toNat : Int), 1) := by
  have e := bs_cons s 0 (by omega)
  rw [bs_over s 1 (by omega), List.drop_zero] at e
  rw [e]; rfl

theorem first_plain (s : ByteArray) (h : 2 ≤ s.size) (hc : ¬ (s[0].toNat : Int) = 92) : Nm.first (Nm.bs s) = ((s[0].toNat : Int), 1) := by
  have e := bs_cons s 0 (by omega)
  rw [bs_cons s 1 (by omega), List.drop_zero] at e
  rw [e]; simp only [Nm.first]; rw [if_neg hc]

theorem first_dig (s : ByteArray) (h : 4 ≤ s.size) (hc : (s[0].toNat : Int) = 92) (hd : (48 : Int) ≤ (s[1].toNat : Int) ∧ (s[1].toNat : Int) ≤ (57 : Int)) :
    Nm.first (Nm.bs s) = ((((s[1].toNat : Int) - (48 : Int)) * (100 : Int) + ((s[2].toNat : Int) - (48 : Int)) * (10 : Int) + ((s[3].toNat : Int) - (48 : Int))) % (256 : Int), 4) := by
  have e := bs_cons s 0 (by omega)
  rw [bs_cons s 1 (by omega), bs_cons s 2 (by omega), bs_cons s 3 (by omega), List.drop_zero] at e
  rw [e]; simp only [Nm.first]; rw [if_pos hc, if_pos hd]

theorem first_two (s : ByteArray) (h : 2 ≤ s.size) (hc : (s[0].toNat : Int) = 92) (hd : ¬ (4 ≤ s.size ∧ (48 : Int) ≤ (s[1].toNat : Int) ∧ (s[1].toNat : Int) ≤ (57 : Int))) :
    Nm.first (Nm.bs s) = ((s[1].toNat : Int), 2) := by
  have e := bs_cons s 0 (by omega)
  rw [bs_cons s 1 (by omega), List.drop_zero] at e
  rw [e]; simp only [Nm.first]; rw [if_pos hc]
  by_cases k : 4 ≤ s.size
  · rw [bs_cons s 2 (by omega), bs_cons s 3 (by omega)]
    simp only
    rw [if_neg (fun q => hd ⟨k, q⟩)]
  · by_cases k2 : 3 ≤ s.size
    · rw [bs_cons s 2 (by omega), bs_over s 3 (by omega)]
    · rw [bs_over s 2 (by omega)]

theorem three_digits (a b c : Int) : (((a - 48) * 100 + (b - 48) * 10 + (c - 48)) % 256, 4) = ((((a - 48) % 256 * 100 + (b - 48) % 256 * 10) % 256 + (c - 48) % 256) % 256, Int.toNat 4) := by
  refine Prod.ext ?_ rfl
  simp only
  omega

theorem ret_first {p : Int × Nat} {a : Int} {b : Int} (h : p = (a, b.toNat)) (hb : 0 ≤ b) : Ending.returned (.tuple #[.int .u8 a, .int .i64 b]) = .returned (.tuple #[.int .u8 p.1, .int .i64 (p.2 : Int)]) := by
  rw [h]; simp only [Int.toNat_of_nonneg hb]

end Go.Proofs.Ytbgnbimknnpefaa
