/-
  The walks of target and labelAt over a message that lies in memory: each only reads.
-/
import Derived.Test.YtnbabdfcamdapaaWalkC
import Derived.Test.YtnbabdfcamdapaaWire
import Derived.Laws.BitsLemmas
namespace Go.Proofs.Ytnbabdfcamdapaa
open Go.RowKit Go.Deep

/-- A slice leads to these bytes. -/
def Bys (w : World) (x : Option Addr) (c : Nat) (ms : List Int) : Prop :=
  ms.length ≤ c ∧ ms.length ≤ 200000000000000 ∧ (∀ b ∈ ms, 0 ≤ b ∧ b ≤ 255) ∧
    (ms = [] ∨ ∃ b off, x = some ⟨b, off, none⟩ ∧ b < w.heap.size ∧ ∀ i, i < ms.length → w.cell? ⟨b, off + i, none⟩ = some (.int .u8 (ms.getD i 0)))

theorem Bys.below {w w' : World} {x : Option Addr} {c : Nat} {ms : List Int} (h : Bys w x c ms) (k : Below w.heap.size w w') : Bys w' x c ms := by
  obtain ⟨h1, h2, h3, h4⟩ := h
  refine ⟨h1, h2, h3, ?_⟩
  rcases h4 with h4 | ⟨b, off, hx, hb, hc⟩
  · exact Or.inl h4
  · exact Or.inr ⟨b, off, hx, Nat.lt_of_lt_of_le hb k.size, fun i hi => by rw [k.cell (p := ⟨b, off + i, none⟩) hb]; exact hc i hi⟩

theorem Bys.drawn {w w' : World} {x : Option Addr} {c : Nat} {ms : List Int} (h : Bys w x c ms) (k : Drawn w w') : Bys w' x c ms := h.below (k.below _)

theorem Bys.nil (w : World) (x : Option Addr) (c : Nat) : Bys w x c [] := ⟨Nat.zero_le _, by simp, fun s hs => by simp at hs, Or.inl rfl⟩

theorem getD_byte {ms : List Int} (h : ∀ b ∈ ms, 0 ≤ b ∧ b ≤ 255) (i : Nat) : 0 ≤ ms.getD i 0 ∧ ms.getD i 0 ≤ 255 := by
  rw [List.getD_eq_getElem?_getD]
  cases e : ms[i]? with
  | none => simp
  | some s => exact h s (List.mem_of_getElem? e)

/-- What labelAt tells: what is wrong, and the label. -/
def labN (ms : List Int) (a : Nat) : Int × List Int :=
  if 63 < ms.getD a 0 then (3, []) else if ms.length ≤ a + Nm.long ms a then (2, []) else (0, Nm.cut ms (a + 1) (Nm.long ms a))

theorem cut_getD {ms : List Int} {a k i : Nat} (hi : i < k) : (Nm.cut ms a k).getD i 0 = ms.getD (a + i) 0 := by
  unfold Nm.cut
  rw [List.getD_eq_getElem?_getD, List.getD_eq_getElem?_getD, List.getElem?_take_of_lt hi, List.getElem?_drop]

theorem wrap_i64 (n : Int) (h0 : 0 ≤ n) (h1 : n < 2 ^ 62) : IntKind.wrap .i64 n = n := by
  have e : (2 : Int) ^ 62 = 4611686018427387904 := by decide
  rw [e] at h1
  exact Go.IntWalk.i64_in n (by omega)

theorem or256 (x t : Int) (h0 : 0 ≤ x) (h1 : x ≤ 63) (h2 : 0 ≤ t) (h3 : t ≤ 255) : bits .or .i64 (x * 256) t = x * 256 + t :=
  bits_join .i64 62 (by decide) wrap_i64 8 (x * 256) t (by omega) (by omega) (by omega) h2 (by omega) (by omega)

/-- What target tells: what is wrong, and the place. -/
def tarN (ms : List Int) (a low : Nat) : Int × Nat :=
  if ms.length ≤ a + 1 then (2, 0) else if low ≤ Nm.place ms a then (4, 0) else (0, Nm.place ms a)

end Go.Proofs.Ytnbabdfcamdapaa
