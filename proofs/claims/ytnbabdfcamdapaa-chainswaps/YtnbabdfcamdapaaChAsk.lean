/-
  The walk of the laws' own chained.
-/
import Derived.Test.YtnbabdfcamdapaaChCon
namespace Go.Proofs.Ytnbabdfcamdapaa.Ru
open Go.RowKit Go.Deep

/-- A question by its number alone. -/
def opN (o : Int) : Mt := ⟨o, 0, [], []⟩

def emptyQ : Qy := ⟨[], 0, 0, 0, false, []⟩

/-- The two rules of the law's own. -/
def twoR : List Ra := [⟨[opN 6], 0⟩, ⟨[opN 1], 5⟩]

theorem opN_mats {w : World} {g : Nat} {o : Int} (ho : -9223372036854775808 ≤ o ∧ o ≤ 9223372036854775807) (K : Bl 41 w g #[.int .i64 o, .int .i64 0, .slice none 0 0, .slice none 0 0]) : Mats w (some ⟨g, 0, none⟩) 1 [opN o] := by
  refine ⟨by simp, by simp, fun m hm => by rw [List.mem_singleton.1 hm]; exact ⟨ho.1, ho.2, by simp [opN], by simp [opN]⟩, Or.inr ⟨_, _, rfl, K.lt, fun i hi => ?_⟩⟩
  obtain rfl : i = 0 := by simpa using hi
  exact ⟨none, 0, none, 0, K.cell (i := 0) rfl, K.cell (i := 1) rfl, K.cell (i := 2) rfl, K.cell (i := 3) rfl, ⟨Nat.zero_le _, by simp [opN], fun s hs => by simp [opN] at hs, Or.inl rfl⟩, Bys.nil _ _ _, fun _ => rfl⟩

theorem twoR_zero : (chainE twoR).2 = 0 := chainE_zero.2 ⟨by decide, fun r hr => by
  simp only [twoR, List.mem_cons, List.not_mem_nil, or_false] at hr
  rcases hr with rfl | rfl <;> decide⟩

theorem twoR_first : chainR emptyQ twoR = 1 := by
  rw [chainR_first twoR_zero]
  have e1 : holdN emptyQ [opN 6] = false := (holdN_of (q := emptyQ) (tr := .leaf (opN 6)) rfl).trans rfl
  have e2 : holdN emptyQ [opN 1] = true := (holdN_of (q := emptyQ) (tr := .leaf (opN 1)) rfl).trans rfl
  simp only [holds, twoR, List.map_cons, List.map_nil, e1, e2]
  rfl

set_option maxHeartbeats 1000000 in
set_option maxRecDepth 100000 in
theorem chained_any (w : World) : Calls Try.prog 5 #[] w fun e w' => e = .returned (.bool true) ∧ Below w.heap.size w w' := by
  have K1 := Bl.new 41 w #[.int .i64 6, .int .i64 0, .slice none 0 0, .slice none 0 0]
  have b1 := boxed 41 w #[.int .i64 6, .int .i64 0, .slice none 0 0, .slice none 0 0]
  obtain ⟨W1, hW1⟩ : ∃ W1, w.alloc (.cells #[.int .i64 6, .int .i64 0, .slice none 0 0, .slice none 0 0] 41) = W1 := ⟨_, rfl⟩
  have z1 : W1.heap.size = w.heap.size + 1 := by rw [← hW1]; simp
  rw [hW1] at K1 b1
  have K2 := Bl.new 41 W1 #[.int .i64 1, .int .i64 0, .slice none 0 0, .slice none 0 0]
  have b2 := boxed 41 W1 #[.int .i64 1, .int .i64 0, .slice none 0 0, .slice none 0 0]
  obtain ⟨W2, hW2⟩ : ∃ W2, W1.alloc (.cells #[.int .i64 1, .int .i64 0, .slice none 0 0, .slice none 0 0] 41) = W2 := ⟨_, rfl⟩
  have z2 : W2.heap.size = w.heap.size + 2 := by rw [← hW2]; simp [z1]
  rw [hW2] at K2 b2
  rw [z1] at K2
  have K3 := Bl.new 25 W2 #[.slice (some ⟨w.heap.size, 0, none⟩) 1 1, .int .i64 0, .slice (some ⟨w.heap.size + 1, 0, none⟩) 1 1, .int .i64 5]
  have b3 := boxed 25 W2 #[.slice (some ⟨w.heap.size, 0, none⟩) 1 1, .int .i64 0, .slice (some ⟨w.heap.size + 1, 0, none⟩) 1 1, .int .i64 5]
  obtain ⟨W3, hW3⟩ : ∃ W3, W2.alloc (.cells #[.slice (some ⟨w.heap.size, 0, none⟩) 1 1, .int .i64 0, .slice (some ⟨w.heap.size + 1, 0, none⟩) 1 1, .int .i64 5] 25) = W3 := ⟨_, rfl⟩
  rw [hW3] at K3 b3
  rw [z2] at K3
  have m1 := opN_mats (by decide) ((K1.below b2).below b3)
  have m2 := opN_mats (by decide) (K2.below b3)
  have HM : Ras W3 (some ⟨w.heap.size + 2, 0, none⟩) 2 twoR := by
    refine ⟨by simp [twoR], by simp [twoR], fun r hr => ?_, Or.inr ⟨_, _, rfl, K3.lt, fun i hi => ?_⟩⟩
    · simp only [twoR, List.mem_cons, List.not_mem_nil, or_false] at hr
      rcases hr with rfl | rfl <;> decide
    · rcases (show i = 0 ∨ i = 1 by simp [twoR] at hi; omega) with rfl | rfl
      · exact ⟨_, _, K3.cell (i := 0) rfl, K3.cell (i := 1) rfl, m1⟩
      · exact ⟨_, _, K3.cell (i := 2) rfl, K3.cell (i := 3) rfl, m2⟩
  have HQ : QyIs W3 emptyQ none 0 none 0 := ⟨⟨Nat.zero_le _, by simp [emptyQ], fun s hs => by simp [emptyQ] at hs, Or.inl rfl⟩, Bys.nil _ _ _, by decide, by decide, by decide, fun _ => rfl⟩
  have C := hid (cfirst_any 1 0 .nilIface twoR emptyQ W3 HM rfl HQ twoR_zero twoR_first rfl)
  have BB := hid (grown_on (grown_on b1 b2) b3)
  subst hW1
  subst hW2
  subst hW3
  clear b1 b2 b3 K1 K2 K3 m1 m2 HM HQ z1 z2
  go_enter Try.func5, Try.ntmps5
  go_wp2_with fail
  refine C.out.mono ?_
  rintro e w2 ⟨rfl, q⟩
  have B2 := hid (grown_on BB.out q)
  clear q
  go_wp2_with fail
  go_ret
  exact ⟨rfl, B2.out⟩

end Go.Proofs.Ytnbabdfcamdapaa.Ru
