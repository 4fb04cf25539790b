/-
  The walk of Bytes: are two slices of bytes the same? It only reads.
-/
import Derived.Test.YtnbabdfcamdapaaMsg
namespace Go.Proofs.Ytnbabdfcamdapaa
open Go.RowKit Go.Deep

theorem byte_next {a b : List Int} {k : Nat} (h : a.take k = b.take k) (ha : k < a.length) (hb : k < b.length) (e : (a.getD k 0 != b.getD k 0) = false) : a.take (k + 1) = b.take (k + 1) := by
  rw [List.take_succ_eq_append_getElem ha, List.take_succ_eq_append_getElem hb, h]
  rw [List.getD_eq_getElem?_getD, List.getD_eq_getElem?_getD, List.getElem?_eq_getElem ha, List.getElem?_eq_getElem hb] at e
  simp at e
  rw [e]

theorem byte_neq {a b : List Int} {k : Nat} (e : (a.getD k 0 != b.getD k 0) = true) : false = decide (a = b) := by
  symm
  apply decide_eq_false
  intro h
  rw [h] at e
  simp at e

theorem byte_all {a b : List Int} {k : Nat} (h : a.take k = b.take k) (ha : a.length ≤ k) (hb : b.length = a.length) : true = decide (a = b) := by
  symm
  apply decide_eq_true
  rwa [List.take_of_length_le ha, List.take_of_length_le (by omega)] at h

end Go.Proofs.Ytnbabdfcamdapaa
