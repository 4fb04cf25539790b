/-
  The walk of the laws' own asked.
-/
import Derived.Test.YtdkpdlkcloaoeaaRlCon
namespace Go.Proofs.Ytdkpdlkcloaoeaa.Ru
open Go.RowKit Go.Deep

def askM : Mt := ⟨1, 0, [], []⟩

def askQ : Qy := ⟨[], 0, 0, 0, false, []⟩

set_option maxHeartbeats 1000000 in
set_option maxRecDepth 100000 in
theorem asked_any (w : World) : Calls Try.prog 5 #[] w fun e w' => e = .returned (.bool true) ∧ Below w.heap.size w w' := by
  have B1 := (Below.refl w.heap.size w).alloc (Nat.le_refl _) (.cells #[.int .i64 1, .int .i64 0, .slice none 0 0, .slice none 0 0] 36)
  have K := Bl.new 36 w #[.int .i64 1, .int .i64 0, .slice none 0 0, .slice none 0 0]
  have HM : Mats (w.alloc (.cells #[.int .i64 1, .int .i64 0, .slice none 0 0, .slice none 0 0] 36)) (some ⟨w.heap.size, 0, none⟩) 1 [askM] := by
    refine ⟨by simp, by simp, fun m hm => by rw [List.mem_singleton.1 hm]; decide, Or.inr ⟨_, _, rfl, K.lt, fun i hi => ?_⟩⟩
    obtain rfl : i = 0 := by simpa using hi
    exact ⟨none, 0, none, 0, K.cell (i := 0) rfl, K.cell (i := 1) rfl, K.cell (i := 2) rfl, K.cell (i := 3) rfl, ⟨Nat.zero_le _, by simp [askM], fun s hs => by simp [askM] at hs, Or.inl rfl⟩, Bys.nil _ _ _, fun _ => rfl⟩
  have HQ : QyIs (w.alloc (.cells #[.int .i64 1, .int .i64 0, .slice none 0 0, .slice none 0 0] 36)) askQ none 0 none 0 := ⟨⟨Nat.zero_le _, by simp [askQ], fun s hs => by simp [askQ] at hs, Or.inl rfl⟩, Bys.nil _ _ _, by decide, by decide, by decide, fun _ => rfl⟩
  have C := hid (rholds_good [askM] (.leaf askM) askQ true _ HM rfl HQ (by decide) rfl rfl rfl)
  have BB := hid B1
  clear B1 K HM HQ
  go_enter Try.func5, Try.ntmps5
  go_wp2_with fail
  refine C.out.mono ?_
  rintro e w2 ⟨rfl, q⟩
  have B2 := hid (grown_on BB.out q)
  clear q
  go_wp2_with fail
  go_ret
  exact ⟨rfl, B2.out⟩

end Go.Proofs.Ytdkpdlkcloaoeaa.Ru
