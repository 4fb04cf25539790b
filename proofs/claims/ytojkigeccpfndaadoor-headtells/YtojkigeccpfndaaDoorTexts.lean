/-
  The walk of Texts: are two lists of labels in memory the same? It only reads.
-/
import Derived.Test.YtojkigeccpfndaaDoorNames
namespace Go.Proofs.YtojkigeccpfndaaDoor
open Go.RowKit

theorem text_eq (p q : ByteArray) (h : (!p.toList == q.toList) = false) : p = q := by
  have h2 : p.toList = q.toList := by simpa using h
  rw [ByteArray.toList_eq, ByteArray.toList_eq] at h2
  exact ByteArray.ext (Array.toList_inj.1 h2)

theorem take_next {a b : List ByteArray} {k : Nat} (h : a.take k = b.take k) (ha : k < a.length) (hb : k < b.length) (e : a.getD k ByteArray.empty = b.getD k ByteArray.empty) : a.take (k + 1) = b.take (k + 1) := by
  rw [List.take_succ_eq_append_getElem ha, List.take_succ_eq_append_getElem hb, h]
  rw [List.getD_eq_getElem?_getD, List.getD_eq_getElem?_getD, List.getElem?_eq_getElem ha, List.getElem?_eq_getElem hb] at e
  simp only [Option.getD_some] at e
  rw [e]

theorem text_neq {a b : List ByteArray} {k : Nat} (e : (!(a.getD k ByteArray.empty).toList == (b.getD k ByteArray.empty).toList) = true) : false = decide (a = b) := by
  symm
  apply decide_eq_false
  intro h
  rw [h] at e
  simp at e

theorem take_all {a b : List ByteArray} {k : Nat} (h : a.take k = b.take k) (ha : a.length ≤ k) (hb : b.length = a.length) : true = decide (a = b) := by
  symm
  apply decide_eq_true
  rwa [List.take_of_length_le ha, List.take_of_length_le (by omega)] at h

end Go.Proofs.YtojkigeccpfndaaDoor
