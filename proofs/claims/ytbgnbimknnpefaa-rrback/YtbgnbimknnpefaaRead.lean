/-
  The walk of Read: the name of a text, or that there is none; it makes its own memory, and writes nothing that was there.
-/
import Derived.Test.YtbgnbimknnpefaaSplitWalk
namespace Go.Proofs.Ytbgnbimknnpefaa
open Go.RowKit Go.Deep

theorem nums_bs (s : ByteArray) : strOfNums (Nm.bs s) = s := by
  apply ByteArray.ext
  apply Array.toList_inj.1
  rw [strOfNums_data]
  unfold Nm.bs
  rw [List.map_map]
  have : ∀ c ∈ s.data.toList, ((fun n : Int => UInt8.ofNat n.toNat) ∘ fun c : UInt8 => (c.toNat : Int)) c = id c := by
    intro c _
    simp
  rw [List.map_congr_left this, List.map_id]

theorem bs_inj {s t : ByteArray} (h : Nm.bs s = Nm.bs t) : s = t := by rw [← nums_bs s, ← nums_bs t, h]

theorem split_bytes : ∀ (f : Nat) (s label : List Int) (labels : List (List Int)), (∀ x ∈ s, 0 ≤ x ∧ x ≤ 255) → (∀ x ∈ label, 0 ≤ x ∧ x ≤ 255) → (∀ l ∈ labels, ∀ x ∈ l, 0 ≤ x ∧ x ≤ 255) →
    ∀ l ∈ Nm.splitGo f s label labels, ∀ x ∈ l, 0 ≤ x ∧ x ≤ 255 := by
  intro f
  induction f with
  | zero => intro s label labels _ _ h3; exact h3
  | succ f ih =>
    intro s label labels h1 h2 h3
    cases s with
    | nil => exact h3
    | cons c r =>
      simp only [Nm.splitGo]
      have hd : ∀ x ∈ (c :: r).drop (Nm.first (c :: r)).2, 0 ≤ x ∧ x ≤ 255 := fun x hx => h1 x (List.mem_of_mem_drop hx)
      split
      · refine ih _ _ _ hd (by simp) ?_
        intro l hl
        rcases List.mem_append.1 hl with q | q
        · exact h3 l q
        · rw [List.mem_singleton.1 q]; exact h2
      · refine ih _ _ _ hd ?_ h3
        intro x hx
        rcases List.mem_append.1 hx with q | q
        · exact h2 x q
        · rw [List.mem_singleton.1 q]; exact first_byte (c :: r) h1

theorem splitN_bytes (s : ByteArray) : ∀ l ∈ Nm.splitN (Nm.bs s), ∀ x ∈ l, 0 ≤ x ∧ x ≤ 255 :=
  split_bytes _ _ _ _ (bs_bound s) (by simp) (by simp)

theorem map_bs_of (ls : List (List Int)) (h : ∀ l ∈ ls, ∀ x ∈ l, 0 ≤ x ∧ x ≤ 255) : (ls.map strOfNums).map Nm.bs = ls := by
  rw [List.map_map]
  have : ∀ l ∈ ls, (Nm.bs ∘ strOfNums) l = id l := fun l hl => bs_of l (h l hl)
  rw [List.map_congr_left this, List.map_id]

theorem map_nums_bs (n : List ByteArray) : (n.map Nm.bs).map strOfNums = n := by
  rw [List.map_map]
  have : ∀ s ∈ n, (strOfNums ∘ Nm.bs) s = id s := fun s _ => nums_bs s
  rw [List.map_congr_left this, List.map_id]

theorem rowt_strs {w : World} {B : Nat} {v : Value} {ls : List (List Int)} (h : Rowt w B v ls) (h1 : ∀ l ∈ ls, l.length ≤ 1020) (h2 : ls.length ≤ 1020) :
    ∃ x c, v = .slice x ls.length c ∧ Strs w x c (ls.map strOfNums) := by
  obtain ⟨_, h3⟩ := h
  rcases h3 with ⟨rfl, h4⟩ | ⟨g, cap, cur, rfl, _, hh, hn, _, hs, ht⟩
  · have : ls = [] := List.length_eq_zero_iff.1 h4
    subst this
    exact ⟨none, 0, rfl, Strs.empty w⟩
  · refine ⟨_, cap, rfl, by simpa using hn, by rw [List.length_map]; omega, ?_, ?_⟩
    · intro s hs
      obtain ⟨l, hl, rfl⟩ := List.mem_map.1 hs
      rw [strOfNums_size]
      have := h1 l hl
      omega
    · right
      have hlt : g < w.heap.size := by
        rcases Nat.lt_or_ge g w.heap.size with q | q
        · exact q
        · rw [Array.getElem?_eq_none q] at hh; simp at hh
      refine ⟨g, 0, rfl, hlt, fun i hi => ?_⟩
      rw [List.length_map] at hi
      rw [Nat.zero_add]
      simp only [World.cell?, hh]
      have e : (cur.toList.take (ls.length * 1))[i]? = (ls.map fun l => Value.string (strOfNums l))[i]? := by rw [ht]
      rw [List.getElem?_take, if_pos (by omega), List.getElem?_map, List.getElem?_eq_getElem hi] at e
      simp [List.getD_eq_getElem?_getD, List.getElem?_map, List.getElem?_eq_getElem hi]
      simpa using e

theorem dot_iff (s : ByteArray) : (s.toList == [46]) = decide (Nm.bs s = [46]) := by
  rw [Bool.eq_iff_iff, beq_iff_eq, decide_eq_true_iff, ByteArray.toList_eq]
  constructor
  · intro h
    unfold Nm.bs; rw [h]; rfl
  · intro h
    have e : Nm.bs s = Nm.bs ⟨#[46]⟩ := by rw [h]; rfl
    rw [bs_inj e]

theorem text_is (t s : ByteArray) : (!t.toList == s.toList) = !decide (Nm.bs t = Nm.bs s) := by
  congr 1
  rw [Bool.eq_iff_iff, beq_iff_eq, decide_eq_true_iff, ByteArray.toList_eq, ByteArray.toList_eq]
  constructor
  · intro h; unfold Nm.bs; rw [h]
  · intro h; rw [bs_inj h]

theorem esc_bytes (c : Int) (h0 : 0 ≤ c) (h1 : c ≤ 255) : ∀ x ∈ Nm.esc c, 0 ≤ x ∧ x ≤ 255 := by
  intro x hx
  unfold Nm.esc at hx
  split at hx
  · simp at hx; omega
  · split at hx
    · simp at hx; omega
    · simp at hx; omega

theorem text_bytes (n : List (List Int)) (h : ∀ l ∈ n, ∀ x ∈ l, 0 ≤ x ∧ x ≤ 255) : ∀ x ∈ Nm.textN n, 0 ≤ x ∧ x ≤ 255 := by
  intro x hx
  unfold Nm.textN at hx
  split at hx
  · simp at hx; omega
  · obtain ⟨l, hl, hx⟩ := List.mem_flatMap.1 hx
    unfold Nm.textL at hx
    rcases List.mem_append.1 hx with q | q
    · obtain ⟨c, hc, hx⟩ := List.mem_flatMap.1 q
      have := h l hl c hc
      exact esc_bytes c this.1 this.2 x hx
    · simp at q; omega

end Go.Proofs.Ytbgnbimknnpefaa
