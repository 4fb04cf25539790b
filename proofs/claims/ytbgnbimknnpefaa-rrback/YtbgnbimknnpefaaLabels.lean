/-
  The walk of compareLabels: two texts, byte by byte, small letters for great ones; it hands back what the plain function cL tells, and of the world nothing has turned but draws.
-/
import Derived.Test.YtbgnbimknnpefaaCmp
namespace Go.Proofs.Ytbgnbimknnpefaa
open Go.RowKit

/-- The first k bytes are alike: what is behind them decides. -/
def AlikeTo (a b : ByteArray) (k : Nat) : Prop := Nm.cL a b = Nm.lex Nm.cB ((Nm.bs a).drop k) ((Nm.bs b).drop k)

theorem bs_length (a : ByteArray) : (Nm.bs a).length = a.size := by simp [Nm.bs]
theorem bs_get (a : ByteArray) (k : Nat) (h : k < a.size) (h' : k < (Nm.bs a).length) : (Nm.bs a)[k] = (a[k].toNat : Int) := by
  simp [Nm.bs]; rfl

theorem alike_zero (a b : ByteArray) : AlikeTo a b 0 := by unfold AlikeTo; rfl

theorem alike_next {a b : ByteArray} {k : Nat} (h : AlikeTo a b k) (ha : k < a.size) (hb : k < b.size) (e : Nm.cmpI (Nm.foI (a[k].toNat : Int)) (Nm.foI (b[k].toNat : Int)) = 0) : AlikeTo a b (k + 1) := by
  unfold AlikeTo at h ⊢
  rw [h]
  have la := bs_length a
  have lb := bs_length b
  exact Nm.lex_step (by omega) (by omega) (by rw [bs_get a k ha, bs_get b k hb]; exact e)

theorem alike_here {a b : ByteArray} {k : Nat} (h : AlikeTo a b k) (ha : k < a.size) (hb : k < b.size) (e : ¬ Nm.cmpI (Nm.foI (a[k].toNat : Int)) (Nm.foI (b[k].toNat : Int)) = 0) : Nm.cmpI (Nm.foI (a[k].toNat : Int)) (Nm.foI (b[k].toNat : Int)) = Nm.cL a b := by
  unfold AlikeTo at h
  rw [h]
  have la := bs_length a
  have lb := bs_length b
  rw [Nm.lex_here (by omega) (by omega) (by rw [bs_get a k ha, bs_get b k hb]; exact e), bs_get a k ha, bs_get b k hb]; rfl

theorem alike_end {a b : ByteArray} {k : Nat} (h : AlikeTo a b k) (ha : k ≤ a.size) (hb : k ≤ b.size) (e : a.size ≤ k ∨ b.size ≤ k) : Nm.cmpI (a.size : Int) (b.size : Int) = Nm.cL a b := by
  unfold AlikeTo at h
  rw [h]
  have la := bs_length a
  have lb := bs_length b
  rw [Nm.lex_end (by omega) (by omega) (by omega), la, lb]

theorem u8_bound (c : UInt8) : 0 ≤ (c.toNat : Int) ∧ (c.toNat : Int) ≤ 255 := by have := c.toNat_lt; omega

end Go.Proofs.Ytbgnbimknnpefaa
