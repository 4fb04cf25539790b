/-
  The walks of isDigit and firstByte: what stands at a text's head. They only read.
-/
import Derived.Test.YtbngafofmgcngaaDoorLabels
import Derived.Test.YtbngafofmgcngaaDoorText
import Derived.Test.YtbngafofmgcngaaDoorNames
namespace Go.Proofs.YtbngafofmgcngaaDoor
open Go.RowKit

set_option maxHeartbeats 400000 in
theorem isDigit_any (c : Int) (w : World) :
    Calls Tryd.prog 40 #[.int .u8 c] w fun e w' => e = .returned (.bool (decide (48 ≤ c ∧ c ≤ 57))) ∧ w = w' := by
  by_cases a : 48 ≤ c
  · by_cases b : c ≤ 57
    · have e : decide (48 ≤ c ∧ c ≤ 57) = true := decide_eq_true ⟨a, b⟩
      rw [e]
      clear e
      go_enter Tryd.func40, Tryd.ntmps40
      go_wp2
      go_ret
      exact ⟨rfl, rfl⟩
    · have e : decide (48 ≤ c ∧ c ≤ 57) = false := decide_eq_false (fun h => b h.2)
      rw [e]
      clear e
      go_enter Tryd.func40, Tryd.ntmps40
      go_wp2
      go_ret
      exact ⟨rfl, rfl⟩
  · have e : decide (48 ≤ c ∧ c ≤ 57) = false := decide_eq_false (fun h => a h.1)
    rw [e]
    clear e
    go_enter Tryd.func40, Tryd.ntmps40
    go_wp2
    go_ret
    exact ⟨rfl, rfl⟩

theorem isDigit_at (r : Bool) (c : Int) (w : World) (h : decide (48 ≤ c ∧ c ≤ 57) = r) :
    Calls Tryd.prog 40 #[.int .u8 c] w fun e w' => e = .returned (.bool r) ∧ w = w' := by
  subst h; exact isDigit_any c w

theorem bs_cons (s : ByteArray) (k : Nat) (h : k < s.size) : (Nm.bs s).drop k = (s[k].toNat : Int) :: (Nm.bs s).drop (k + 1) := by
  rw [List.drop_eq_getElem_cons (by rw [bs_length]; exact h), bs_get s k h]

theorem bs_over (s : ByteArray) (k : Nat) (h : s.size ≤ k) : (Nm.bs s).drop k = [] := List.drop_of_length_le (by rw [bs_length]; exact h)

theorem first_one (s : ByteArray) (h : s.size = 1) : Nm.first (Nm.bs s) = ((s[0].toNat : Int), 1) := by
  have e := bs_cons s 0 (by omega)
  rw [bs_over s 1 (by omega), List.drop_zero] at e
  rw [e]; rfl

theorem first_plain (s : ByteArray) (h : 2 ≤ s.size) (hc : ¬ (s[0].toNat : Int) = 92) : Nm.first (Nm.bs s) = ((s[0].toNat : Int), 1) := by
  have e := bs_cons s 0 (by omega)
  rw [bs_cons s 1 (by omega), List.drop_zero] at e
  rw [e]; simp only [Nm.first]; rw [if_neg hc]

theorem first_dig (s : ByteArray) (h : 4 ≤ s.size) (hc : (s[0].toNat : Int) = 92) (hd : (48 : Int) ≤ (s[1].toNat : Int) ∧ (s[1].toNat : Int) ≤ (57 : Int)) :
    Nm.first (Nm.bs s) = ((((s[1].toNat : Int) - (48 : Int)) * (100 : Int) + ((s[2].toNat : Int) - (48 : Int)) * (10 : Int) + ((s[3].toNat : Int) - (48 : Int))) % (256 : Int), 4) := by
  have e := bs_cons s 0 (by omega)
  rw [bs_cons s 1 (by omega), bs_cons s 2 (by omega), bs_cons s 3 (by omega), List.drop_zero] at e
  rw [e]; simp only [Nm.first]; rw [if_pos hc, if_pos hd]

theorem first_two (s : ByteArray) (h : 2 ≤ s.size) (hc : (s[0].toNat : Int) = 92) (hd : ¬ (4 ≤ s.size ∧ (48 : Int) ≤ (s[1].toNat : Int) ∧ (s[1].toNat : Int) ≤ (57 : Int))) :
    Nm.first (Nm.bs s) = ((s[1].toNat : Int), 2) := by
  have e := bs_cons s 0 (by omega)
  rw [bs_cons s 1 (by omega), List.drop_zero] at e
  rw [e]; simp only [Nm.first]; rw [if_pos hc]
  by_cases k : 4 ≤ s.size
  · rw [bs_cons s 2 (by omega), bs_cons s 3 (by omega)]
    simp only
    rw [if_neg (fun q => hd ⟨k, q⟩)]
  · by_cases k2 : 3 ≤ s.size
    · rw [bs_cons s 2 (by omega), bs_over s 3 (by omega)]
    · rw [bs_over s 2 (by omega)]

theorem three_digits (a b c : Int) : (((a - 48) * 100 + (b - 48) * 10 + (c - 48)) % 256, 4) = ((((a - 48) % 256 * 100 + (b - 48) % 256 * 10) % 256 + (c - 48) % 256) % 256, Int.toNat 4) := by
  refine Prod.ext ?_ rfl
  simp only
  omega

theorem ret_first {p : Int × Nat} {a : Int} {b : Int} (h : p = (a, b.toNat)) (hb : 0 ≤ b) : Ending.returned (.tuple #[.int .u8 a, .int .i64 b]) = .returned (.tuple #[.int .u8 p.1, .int .i64 (p.2 : Int)]) := by
  rw [h]; simp only [Int.toNat_of_nonneg hb]

set_option maxHeartbeats 400000 in
theorem firstByte_any (s : ByteArray) (w : World) (hs : 1 ≤ s.size) (hm : s.size ≤ 140737488355328) :
    Calls Tryd.prog 34 #[.string s] w fun e w' => e = .returned (.tuple #[.int .u8 (Nm.first (Nm.bs s)).1, .int .i64 ((Nm.first (Nm.bs s)).2 : Int)]) ∧ Drawn w w' := by
  by_cases a : s.size = 1
  · have E : Hid (Nm.first (Nm.bs s) = (((s[0]'hs).toNat : Int), 1)) := first_one s a
    have t1 : ((s.size : Int) == 1) = true := beq_iff_eq.2 (by omega)
    clear a
    by_cases b : (s[0].toNat : Int) = 92
    · have t2 : ((s[0].toNat : Int) != 92) = false := by rw [b]; rfl
      clear b
      go_enter Tryd.func34, Tryd.ntmps34
      go_wp2
      go_ret2
      exact ⟨ret_first E.out (by decide), Drawn.refl w⟩
    · have t2 : ((s[0].toNat : Int) != 92) = true := bne_iff_ne.2 b
      clear b
      go_enter Tryd.func34, Tryd.ntmps34
      go_wp2
      go_ret2
      exact ⟨ret_first E.out (by decide), Drawn.refl w⟩
  · have t1 : ((s.size : Int) == 1) = false := beq_eq_false_iff_ne.2 (by omega)
    have h2 : 2 ≤ s.size := by omega
    clear a
    by_cases b : (s[0].toNat : Int) = 92
    · have t2 : ((s[0].toNat : Int) != 92) = false := by rw [b]; rfl
      by_cases c : 4 ≤ s.size
      · by_cases d : (48 : Int) ≤ (s[1].toNat : Int) ∧ (s[1].toNat : Int) ≤ (57 : Int)
        · have E := hid (first_dig s c b d)
          clear b
          have D := hid (decide_eq_true d)
          have i2 : (2 : Int) < (s.size : Int) := by omega
          have i3 : (3 : Int) < (s.size : Int) := by omega
          have c2 : (4 : Int) ≤ (s.size : Int) := by omega
          clear d
          go_enter Tryd.func34, Tryd.ntmps34
          go_wp2_with (go_at_call 40; refine (isDigit_at true _ _ D.out).mono ?_; rintro e w' ⟨rfl, rfl⟩)
          go_quiet (fail)
          go_wp2
          go_ret2
          exact ⟨ret_first (E.out.trans (three_digits _ _ _)) (by decide), (Drawn.refl w).more _⟩
        · have E := hid (first_two s h2 b (fun q => d q.2))
          clear b
          have D := hid (decide_eq_false d)
          have c2 : (4 : Int) ≤ (s.size : Int) := by omega
          clear d
          go_enter Tryd.func34, Tryd.ntmps34
          go_wp2_with (go_at_call 40; refine (isDigit_at false _ _ D.out).mono ?_; rintro e w' ⟨rfl, rfl⟩)
          go_ret2
          exact ⟨ret_first E.out (by decide), Drawn.refl w⟩
      · have E := hid (first_two s h2 b (fun q => c q.1))
        clear b
        have c2 : ¬ (4 : Int) ≤ (s.size : Int) := by omega
        go_enter Tryd.func34, Tryd.ntmps34
        go_wp2
        go_ret2
        exact ⟨ret_first E.out (by decide), Drawn.refl w⟩
    · have E := hid (first_plain s h2 b)
      have t2 : ((s[0].toNat : Int) != 92) = true := bne_iff_ne.2 b
      clear b
      go_enter Tryd.func34, Tryd.ntmps34
      go_wp2
      go_ret2
      exact ⟨ret_first E.out (by decide), Drawn.refl w⟩

end Go.Proofs.YtbngafofmgcngaaDoor
