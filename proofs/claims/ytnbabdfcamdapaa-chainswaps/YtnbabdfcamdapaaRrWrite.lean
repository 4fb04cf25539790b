/-
  The walk of Write of package rr: the message with a record behind it, in new memory; nothing that was there is written.
-/
import Derived.Test.YtnbabdfcamdapaaRr
import Derived.Test.YtnbabdfcamdapaaMsgPacks
namespace Go.Proofs.Ytnbabdfcamdapaa
open Go.RowKit Go.Deep

/-- What stands behind a record's name. -/
def fieldsN (ty cl ttl : Int) (D : List Int) : List Int := twoN ty ++ twoN cl ++ twoN (ttl / 65536) ++ twoN ttl ++ twoN (D.length : Int) ++ D

/-- What is wrong with a record. -/
def recE (n : List ByteArray) (ty cl ttl : Int) (D : List Int) : Int :=
  if ¬ Nm.checkN (n.map Nm.bs) = 0 then Nm.checkN (n.map Nm.bs) else if ¬ ((0 ≤ ty ∧ ty ≤ 65535) ∧ (0 ≤ cl ∧ cl ≤ 65535) ∧ (0 ≤ ttl ∧ ttl ≤ 4294967295)) then 6 else if 65535 < D.length then 7 else 0

def WroteOwn (out told : List Int) (w : World) (e : Ending) (w' : World) : Prop :=
  ∃ v u, e = .returned (.tuple #[v, u, .nilIface]) ∧ Rowb w' w.heap.size v out ∧ Rowi w' w.heap.size u told ∧ Below w.heap.size w w' ∧
    out.length ≤ 200000000000000 ∧ (∀ b ∈ out, 0 ≤ b ∧ b ≤ 255) ∧ told.length ≤ 17592186044416 ∧ (∀ z ∈ told, -9223372036854775808 ≤ z ∧ z ≤ 9223372036854775807)

theorem two_bytes (n : Int) : ∀ b ∈ twoN n, 0 ≤ b ∧ b ≤ 255 := by
  intro b hb
  simp [twoN] at hb
  omega

theorem fields_bytes (ty cl ttl : Int) {D : List Int} (hD : ∀ b ∈ D, 0 ≤ b ∧ b ≤ 255) : ∀ b ∈ fieldsN ty cl ttl D, 0 ≤ b ∧ b ≤ 255 := by
  intro b hb
  unfold fieldsN at hb
  simp only [List.mem_append] at hb
  rcases hb with ((((hb | hb) | hb) | hb) | hb) | hb
  · exact two_bytes _ b hb
  · exact two_bytes _ b hb
  · exact two_bytes _ b hb
  · exact two_bytes _ b hb
  · exact two_bytes _ b hb
  · exact hD b hb

theorem fields_len (ty cl ttl : Int) (D : List Int) : (fieldsN ty cl ttl D).length = 10 + D.length := by
  simp [fieldsN, twoN]
  omega

theorem two_len (n : Int) : (twoN n).length = 2 := rfl

end Go.Proofs.Ytnbabdfcamdapaa
