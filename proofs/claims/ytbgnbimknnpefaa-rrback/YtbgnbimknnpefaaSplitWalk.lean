/-
  The walk of split itself.
-/
import Derived.Test.YtbgnbimknnpefaaSplit
import Derived.Test.YtbgnbimknnpefaaAt
namespace Go.Proofs.Ytbgnbimknnpefaa
open Go.RowKit Go.Deep

theorem one_string (s : ByteArray) : ∀ u ∈ [Value.string s], u.oneCell' = true := by
  intro u hu
  rw [List.mem_singleton.1 hu]; rfl

def strLen : Value → Nat
  | .string t => t.size
  | _ => 0

theorem strLen_cut (t : ByteArray) (k : Nat) (h1 : 1 ≤ k) (h2 : k ≤ t.size) : strLen (.string (t.extract k t.size)) < strLen (.string t) := by
  have : (t.extract k t.size).size = t.size - k := by rw [← bs_length, bs_extract, List.length_drop, bs_length]
  simp only [strLen]
  omega

theorem rowb_shape {w : World} {B : Nat} {v : Value} {xs : List Int} (h : Rowb w B v xs) : (v = .slice none 0 0 ∧ xs = []) ∨ ∃ g cap, v = .slice (some ⟨g, 0, none⟩) xs.length cap := by
  rcases h.2 with ⟨rfl, h3⟩ | ⟨g, cap, cur, rfl, _⟩
  · exact Or.inl ⟨rfl, List.length_eq_zero_iff.1 h3⟩
  · exact Or.inr ⟨g, cap, rfl⟩

theorem grown_below {w w1 w2 : World} {B e n : Nat} {v : Value} {xs : List Value} (hr : w1.ownsRow B e 1 v n xs) (hb : Below B w w1) (hB : B ≤ w1.heap.size) (hg : w1.grownBy w2 v.ownBlock) : Below B w w2 :=
  hb.grown hg hB (fun k hk => (World.ownsRow.lt hr k hk).1)

end Go.Proofs.Ytbgnbimknnpefaa
