/-
  The walk of the law SubnetMasks, all ways.
-/
import Derived.Test.YtodpbkbbefacnabLawMasks
namespace Go.Proofs.Ytodpbkbbefacnab
open Go.RowKit Go.Deep

set_option maxHeartbeats 1000000 in
set_option maxRecDepth 100000 in
theorem masks_no1 {xa xb : Option Addr} {ca cb la lb : Nat} (m n f : Int) (w : World) (hl : la ≤ 200000000000000) (hm : ¬ (0 ≤ m ∧ m ≤ 8 * (la : Int))) :
    Calls Try.prog 3 #[.slice xa la ca, .slice xb lb cb, .int .i64 m, .int .i64 n, .int .i64 f] w fun e w' => e = .returned (.bool true) ∧ Below w.heap.size w w' := by
  have HM := hid hm
  clear hm
  go_enter Try.func3, Try.ntmps3
  go_wp2_with fail
  refine (smasked_ok _).mono ?_
  rintro e w1 ⟨rfl, d1⟩
  have B1 := hid d1
  clear d1
  go_wp2_with fail
  refine (mask_bad m w1 hl HM.out).mono ?_
  rintro e w2 ⟨rfl, rfl⟩
  rw [show errV 6 = .iface 64 (.int .i64 6) from rfl]
  go_wp2_with fail
  go_ret
  exact ⟨rfl, B1.out⟩

set_option maxHeartbeats 1000000 in
set_option maxRecDepth 100000 in
theorem masks_no2 {xa xb : Option Addr} {ca cb la lb : Nat} (a : List Int) (m n f : Int) (w : World) (ha : Bys w xa ca a) (hna : xa = none → ca = 0) (hla : a.length = la) (hm0 : 0 ≤ m) (hm : m ≤ 8 * a.length) (hn : ¬ (0 ≤ n ∧ n ≤ 8 * (la : Int))) :
    Calls Try.prog 3 #[.slice xa la ca, .slice xb lb cb, .int .i64 m, .int .i64 n, .int .i64 f] w fun e w' => e = .returned (.bool true) ∧ Below w.heap.size w w' := by
  have HN := hid hn
  have hal : a.length ≤ 200000000000000 := ha.2.1
  clear hn
  go_enter Try.func3, Try.ntmps3
  go_wp2_with fail
  refine (smasked_ok _).mono ?_
  rintro e w1 ⟨rfl, d1⟩
  have B1 := hid d1
  clear d1
  go_wp2_with fail
  refine (mask_good m a w1 (ha.below B1.out) hna hm0 hm hla).mono ?_
  rintro e w2 ⟨g2, rfl, _, d2⟩
  have B2 := hid (grown_on B1.out d2)
  clear d2
  go_wp2_with fail
  refine (mask_bad n w2 (by omega) HN.out).mono ?_
  rintro e w3 ⟨rfl, rfl⟩
  rw [show errV 6 = .iface 64 (.int .i64 6) from rfl]
  go_wp2_with fail
  go_ret
  exact ⟨rfl, B2.out⟩

theorem masks_walk {xa xb : Option Addr} {ca cb la lb : Nat} (a b : List Int) (m n f : Int) (w : World) (ha : Bys w xa ca a) (hb : Bys w xb cb b) (hna : xa = none → ca = 0) (hnb : xb = none → cb = 0) (hla : a.length = la) (hlb : b.length = lb) :
    Calls Try.prog 3 #[.slice xa la ca, .slice xb lb cb, .int .i64 m, .int .i64 n, .int .i64 f] w fun e w' => e = .returned (.bool true) ∧ Below w.heap.size w w' := by
  have hal : a.length ≤ 200000000000000 := ha.2.1
  by_cases c1 : 0 ≤ m ∧ m ≤ 8 * (la : Int)
  · obtain ⟨hm0, hm⟩ := c1
    rw [← hla] at hm
    by_cases c2 : 0 ≤ n ∧ n ≤ 8 * (la : Int)
    · obtain ⟨hn0, hn⟩ := c2
      rw [← hla] at hn
      by_cases c3 : snE ⟨f, m, 0, a⟩ = 0
      · by_cases c4 : inN b ⟨f, m, 0, a⟩
        · have hbl : b.length = a.length := c4.2.1
          exact masks_in a b m n f w ha hb hna hnb hla hlb hm0 hm hn0 hn c3 (decide_eq_true c4) (by rw [hbl]; exact hm) (decide_eq_true c4.2.2) (by rw [← hla, ← hlb, hbl]; simp)
        · by_cases c5 : 0 ≤ m ∧ m ≤ 8 * (lb : Int)
          · have hmb : m ≤ 8 * (b.length : Int) := by rw [hlb]; exact c5.2
            by_cases c6 : la = lb
            · refine masks_same a b m n f w ha hb hna hnb hla hlb hm0 hm hn0 hn c3 (decide_eq_false c4) hmb (decide_eq_false fun q => c4 ⟨c3, by simp only; omega, q⟩) (by rw [c6]; simp)
            · exact masks_out a b m n f w ha hb hna hnb hla hlb hm0 hm hn0 hn c3 (decide_eq_false c4) hmb _ rfl (by simp; omega)
          · exact masks_far a b m n f w ha hb hna hnb hla hlb hm0 hm hn0 hn c3 (decide_eq_false c4) c5 _ rfl
      · exact masks_bad a b m n f w ha hb hna hnb hla hlb hm0 hm hn0 hn c3
    · exact masks_no2 a m n f w ha hna hla hm0 hm c2
  · exact masks_no1 m n f w (by omega) c1

end Go.Proofs.Ytodpbkbbefacnab
