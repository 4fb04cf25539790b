/-
  Plain: a bit of an address; when two addresses have their first bits in common.
-/
import Derived.RowKit
namespace Go.Proofs.Ytnbabdfcamdapaa
open Go.RowKit

/-- A bit of an address. -/
def bitN (xs : List Int) (i : Nat) : Int := xs.getD (i / 8) 0 / 2 ^ (7 - i % 8) % 2

theorem bitN_two (xs : List Int) (i : Nat) : bitN xs i = 0 ∨ bitN xs i = 1 := by
  unfold bitN
  omega

/-- Two addresses have their first bits in common. -/
def Al (a b : List Int) (n : Nat) : Prop := ∀ i, i < n → bitN a i = bitN b i

instance (a b : List Int) (n : Nat) : Decidable (Al a b n) := inferInstanceAs (Decidable (∀ i, i < n → bitN a i = bitN b i))

theorem Al.refl (a : List Int) (n : Nat) : Al a a n := fun _ _ => rfl
theorem Al.symm {a b : List Int} {n : Nat} (h : Al a b n) : Al b a n := fun i hi => (h i hi).symm
theorem Al.trans {a b c : List Int} {n : Nat} (h : Al a b n) (k : Al b c n) : Al a c n := fun i hi => (h i hi).trans (k i hi)
theorem Al.mono {a b : List Int} {n m : Nat} (h : Al a b n) (k : m ≤ n) : Al a b m := fun i hi => h i (by omega)

end Go.Proofs.Ytnbabdfcamdapaa
