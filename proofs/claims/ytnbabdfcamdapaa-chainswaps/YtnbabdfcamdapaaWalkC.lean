/-
  The walks of isDigit and firstByte: what stands at a text's head. They only read. The walk of split: the labels of a text, cut as the plain function splitN cuts it; it makes its own memory, and writes nothing that was there. The walk of split itself. The walk of Read: the name of a text, or that there is none; it makes its own memory, and writes nothing that was there.
-/
import Derived.Test.YtnbabdfcamdapaaWalkA
import Derived.Test.YtnbabdfcamdapaaText
import Derived.Test.YtnbabdfcamdapaaWalkB
namespace Go.Proofs.Ytnbabdfcamdapaa
open Go.RowKit

theorem bs_cons (s : ByteArray) (k : Nat) (h : k < s.size) : (Nm.bs s).drop k = (s[k].toNat : Int) :: (Nm.bs s).drop (k + 1) := by
  rw [List.drop_eq_getElem_cons (by rw [bs_length]; exact h), bs_get s k h]

theorem bs_over (s : ByteArray) (k : Nat) (h : s.size ≤ k) : (Nm.bs s).drop k = [] := List.drop_of_length_le (by rw [bs_length]; exact h)

theorem first_one (s : ByteArray) (h : s.size = 1) : Nm.first (Nm.bs s) = ((s[0].toNat : Int), 1) := by
  have e := bs_cons s 0 (by omega)
  rw [bs_over s 1 (by omega), List.drop_zero] at e
  rw [e]; rfl

theorem first_plain (s : ByteArray) (h : 2 ≤ s.size) (hc : ¬ (s[0].toNat : Int) = 92) : Nm.first (Nm.bs s) = ((s[0].toNat : Int), 1) := by
  have e := bs_cons s 0 (by omega)
  rw [bs_cons s 1 (by omega), List.drop_zero] at e
  rw [e]; simp only [Nm.first]; rw [if_neg hc]

theorem first_dig (s : ByteArray) (h : 4 ≤ s.size) (hc : (s[0].toNat : Int) = 92) (hd : (48 : Int) ≤ (s[1].toNat : Int) ∧ (s[1].toNat : Int) ≤ (57 : Int)) :
    Nm.first (Nm.bs s) = ((((s[1].toNat : Int) - (48 : Int)) * (100 : Int) + ((s[2].toNat : Int) - (48 : Int)) * (10 : Int) + ((s[3].toNat : Int) - (48 : Int))) % (256 : Int), 4) := by
  have e := bs_cons s 0 (by omega)
  rw [bs_cons s 1 (by omega), bs_cons s 2 (by omega), bs_cons s 3 (by omega), List.drop_zero] at e
  rw [e]; simp only [Nm.first]; rw [if_pos hc, if_pos hd]

theorem first_two (s : ByteArray) (h : 2 ≤ s.size) (hc : (s[0].toNat : Int) = 92) (hd : ¬ (4 ≤ s.size ∧ (48 : Int) ≤ (s[1].toNat : Int) ∧ (s[1].toNat : Int) ≤ (57 : Int))) :
    Nm.first (Nm.bs s) = ((s[1].toNat : Int), 2) := by
  have e := bs_cons s 0 (by omega)
  rw [bs_cons s 1 (by omega), List.drop_zero] at e
  rw [e]; simp only [Nm.first]; rw [if_pos hc]
  by_cases k : 4 ≤ s.size
  · rw [bs_cons s 2 (by omega), bs_cons s 3 (by omega)]
    simp only
    rw [if_neg (fun q => hd ⟨k, q⟩)]
  · by_cases k2 : 3 ≤ s.size
    · rw [bs_cons s 2 (by omega), bs_over s 3 (by omega)]
    · rw [bs_over s 2 (by omega)]

theorem three_digits (a b c : Int) : (((a - 48) * 100 + (b - 48) * 10 + (c - 48)) % 256, 4) = ((((a - 48) % 256 * 100 + (b - 48) % 256 * 10) % 256 + (c - 48) % 256) % 256, Int.toNat 4) := by
  refine Prod.ext ?_ rfl
  simp only
  omega

theorem ret_first {p : Int × Nat} {a : Int} {b : Int} (h : p = (a, b.toNat)) (hb : 0 ≤ b) : Ending.returned (.tuple #[.int .u8 a, .int .i64 b]) = .returned (.tuple #[.int .u8 p.1, .int .i64 (p.2 : Int)]) := by
  rw [h]; simp only [Int.toNat_of_nonneg hb]

end Go.Proofs.Ytnbabdfcamdapaa

namespace Go.Proofs.Ytnbabdfcamdapaa
open Go.RowKit Go.Deep

/-- A slice of texts of the call's own. -/
def Rowt (w : World) (B : Nat) (v : Value) (ls : List (List Int)) : Prop := w.ownsRow B 9 1 v ls.length (ls.map fun l => Value.string (strOfNums l))

theorem Rowt.of {w : World} {B n : Nat} {v : Value} {xs : List (List Int)} {ys : List Value} (h : w.ownsRow B 9 1 v n ys) (hn : n = xs.length) (hy : ys = xs.map fun l => Value.string (strOfNums l)) : Rowt w B v xs := by
  subst hn hy; exact h

theorem owns_drawn {w w' : World} {B e n : Nat} {v : Value} {xs : List Value} (h : w.ownsRow B e 1 v n xs) (k : Drawn w w') : w'.ownsRow B e 1 v n xs := by
  obtain ⟨m, rfl⟩ := k; exact h

theorem apart {w : World} {B n m : Nat} {v u : Value} {xs ys : List Value} (h : w.ownsRow B 9 1 v n xs) (k : w.ownsRow B 5 1 u m ys) : (v.ownBlock = none ∨ v.ownBlock ≠ u.ownBlock) ∧ (u.ownBlock = none ∨ u.ownBlock ≠ v.ownBlock) := by
  rcases h.2 with ⟨rfl, _⟩ | ⟨g, cap, cur, rfl, _, hh, _⟩
  · refine ⟨Or.inl rfl, ?_⟩
    rcases k.2 with ⟨rfl, _⟩ | ⟨g', cap', cur', rfl, _⟩
    · exact Or.inl rfl
    · right; intro q; cases q
  · rcases k.2 with ⟨rfl, _⟩ | ⟨g', cap', cur', rfl, _, hh', _⟩
    · refine ⟨?_, Or.inl rfl⟩
      right; intro q; cases q
    · have ne : g ≠ g' := by
        intro q
        subst q
        rw [hh] at hh'
        simp at hh'
      exact ⟨Or.inr (fun q => by simp [Value.ownBlock] at q; exact ne q), Or.inr (fun q => by simp [Value.ownBlock] at q; exact ne q.symm)⟩

theorem rowb_cut {w : World} {B : Nat} {g cap : Nat} {xs : List Int} (h : Rowb w B (.slice (some ⟨g, 0, none⟩) xs.length cap) xs) : Rowb w B (.slice (some ⟨g, 0, none⟩) 0 cap) [] := by
  obtain ⟨_, h2⟩ := h
  rcases h2 with ⟨h3, _⟩ | ⟨g', cap', cur, hv, hb, hh, _, hm, hs, _⟩
  · cases h3
  · cases hv
    exact ⟨rfl, .inr ⟨g, cap, cur, rfl, hb, hh, Nat.zero_le _, hm, hs, by simp⟩⟩

theorem first_le : ∀ (l : List Int), l ≠ [] → (Nm.first l).2 ≤ l.length := by
  intro l h
  match l, h with
  | [c], _ => simp [Nm.first]
  | c :: d :: r, _ =>
    simp only [Nm.first]
    split
    · split
      · split <;> simp
      · simp
    · simp

theorem first_byte (l : List Int) (h : ∀ x ∈ l, 0 ≤ x ∧ x ≤ 255) : 0 ≤ (Nm.first l).1 ∧ (Nm.first l).1 ≤ 255 := by
  match l with
  | [] => simp [Nm.first]
  | [c] => simpa [Nm.first] using h c (by simp)
  | c :: d :: r =>
    have hc := h c (by simp)
    have hd := h d (by simp)
    simp only [Nm.first]
    split
    · split
      · split
        · simp only; omega
        · exact hd
      · exact hd
    · exact hc

theorem bs_extract (t : ByteArray) (k : Nat) : Nm.bs (t.extract k t.size) = (Nm.bs t).drop k := by
  unfold Nm.bs
  have h : t.data.toList.extract k t.size = t.data.toList.drop k := by
    rw [List.extract_eq_take_drop]
    apply List.take_of_length_le
    simp
  rw [ByteArray.data_extract, Array.toList_extract, h, List.map_drop]

/-- What is left of a text, what has been gathered, and that the rest is cut so. -/
def SplitAt (s t : ByteArray) (label : List Int) (labels : List (List Int)) : Prop :=
  t.size + label.length ≤ s.size ∧ t.size + labels.length ≤ s.size ∧ (∀ l ∈ labels, l.length ≤ s.size) ∧ Nm.splitN (Nm.bs s) = Nm.splitGo t.size (Nm.bs t) label labels

theorem split_start (s : ByteArray) : SplitAt s s [] [] := by
  refine ⟨by simp, by simp, by simp, ?_⟩
  unfold Nm.splitN; rw [bs_length]

theorem split_round {s t : ByteArray} {label : List Int} {labels : List (List Int)} (h : SplitAt s t label labels) (ht : 0 < t.size) :
    ((t[0].toNat : Int) = 46 → SplitAt s (t.extract (Nm.first (Nm.bs t)).2 t.size) [] (labels ++ [label])) ∧
    (¬ (t[0].toNat : Int) = 46 → SplitAt s (t.extract (Nm.first (Nm.bs t)).2 t.size) (label ++ [(Nm.first (Nm.bs t)).1]) labels) := by
  obtain ⟨h1, h2, h3, h4⟩ := h
  have hp := Nm.first_pos (Nm.bs t)
  have e := bs_cons t 0 ht
  rw [List.drop_zero] at e
  have hz : (t.extract (Nm.first (Nm.bs t)).2 t.size).size = t.size - (Nm.first (Nm.bs t)).2 := by
    rw [← bs_length, bs_extract, List.length_drop, bs_length]
  obtain ⟨m, hm⟩ : ∃ m, t.size = m + 1 := ⟨t.size - 1, by omega⟩
  have key : ∀ lb lbs, Nm.splitGo m ((Nm.bs t).drop (Nm.first (Nm.bs t)).2) lb lbs = Nm.splitGo (t.extract (Nm.first (Nm.bs t)).2 t.size).size (Nm.bs (t.extract (Nm.first (Nm.bs t)).2 t.size)) lb lbs := by
    intro lb lbs
    rw [bs_extract, hz]
    exact Nm.split_more _ _ _ _ _ (by rw [List.length_drop, bs_length]; omega) (by rw [List.length_drop, bs_length]; exact Nat.le_refl _)
  constructor
  · intro hc
    refine ⟨by rw [hz]; simp only [List.length_nil]; omega, by rw [hz]; simp only [List.length_append, List.length_singleton]; omega, fun l hl => ?_, ?_⟩
    · rcases List.mem_append.1 hl with q | q
      · exact h3 l q
      · rw [List.mem_singleton.1 q]; omega
    · rw [h4, hm, ← hm, ← key, hm]
      conv => lhs; rw [e]
      simp only [Nm.splitGo]
      rw [if_pos hc, ← e]
  · intro hc
    refine ⟨by rw [hz]; simp only [List.length_append, List.length_singleton]; omega, by rw [hz]; omega, h3, ?_⟩
    rw [h4, ← key, hm]
    conv => lhs; rw [e]
    simp only [Nm.splitGo]
    rw [if_neg hc, ← e]

theorem split_done {s t : ByteArray} {label : List Int} {labels : List (List Int)} (h : SplitAt s t label labels) (ht : t.size = 0) : labels = Nm.splitN (Nm.bs s) := by
  rw [h.2.2.2, ht]; rfl

end Go.Proofs.Ytnbabdfcamdapaa

namespace Go.Proofs.Ytnbabdfcamdapaa
open Go.RowKit Go.Deep

theorem one_string (s : ByteArray) : ∀ u ∈ [Value.string s], u.oneCell' = true := by
  intro u hu
  rw [List.mem_singleton.1 hu]; rfl

def strLen : Value → Nat
  | .string t => t.size
  | _ => 0

theorem strLen_cut (t : ByteArray) (k : Nat) (h1 : 1 ≤ k) (h2 : k ≤ t.size) : strLen (.string (t.extract k t.size)) < strLen (.string t) := by
  have : (t.extract k t.size).size = t.size - k := by rw [← bs_length, bs_extract, List.length_drop, bs_length]
  simp only [strLen]
  omega

theorem rowb_shape {w : World} {B : Nat} {v : Value} {xs : List Int} (h : Rowb w B v xs) : (v = .slice none 0 0 ∧ xs = []) ∨ ∃ g cap, v = .slice (some ⟨g, 0, none⟩) xs.length cap := by
  rcases h.2 with ⟨rfl, h3⟩ | ⟨g, cap, cur, rfl, _⟩
  · exact Or.inl ⟨rfl, List.length_eq_zero_iff.1 h3⟩
  · exact Or.inr ⟨g, cap, rfl⟩

theorem grown_below {w w1 w2 : World} {B e n : Nat} {v : Value} {xs : List Value} (hr : w1.ownsRow B e 1 v n xs) (hb : Below B w w1) (hB : B ≤ w1.heap.size) (hg : w1.grownBy w2 v.ownBlock) : Below B w w2 :=
  hb.grown hg hB (fun k hk => (World.ownsRow.lt hr k hk).1)

end Go.Proofs.Ytnbabdfcamdapaa

namespace Go.Proofs.Ytnbabdfcamdapaa
open Go.RowKit Go.Deep

theorem nums_bs (s : ByteArray) : strOfNums (Nm.bs s) = s := by
  apply ByteArray.ext
  apply Array.toList_inj.1
  rw [strOfNums_data]
  unfold Nm.bs
  rw [List.map_map]
  have : ∀ c ∈ s.data.toList, ((fun n : Int => UInt8.ofNat n.toNat) ∘ fun c : UInt8 => (c.toNat : Int)) c = id c := by
    intro c _
    simp
  rw [List.map_congr_left this, List.map_id]

theorem bs_inj {s t : ByteArray} (h : Nm.bs s = Nm.bs t) : s = t := by rw [← nums_bs s, ← nums_bs t, h]

theorem split_bytes : ∀ (f : Nat) (s label : List Int) (labels : List (List Int)), (∀ x ∈ s, 0 ≤ x ∧ x ≤ 255) → (∀ x ∈ label, 0 ≤ x ∧ x ≤ 255) → (∀ l ∈ labels, ∀ x ∈ l, 0 ≤ x ∧ x ≤ 255) →
    ∀ l ∈ Nm.splitGo f s label labels, ∀ x ∈ l, 0 ≤ x ∧ x ≤ 255 := by
  intro f
  induction f with
  | zero => intro s label labels _ _ h3; exact h3
  | succ f ih =>
    intro s label labels h1 h2 h3
    cases s with
    | nil => exact h3
    | cons c r =>
      simp only [Nm.splitGo]
      have hd : ∀ x ∈ (c :: r).drop (Nm.first (c :: r)).2, 0 ≤ x ∧ x ≤ 255 := fun x hx => h1 x (List.mem_of_mem_drop hx)
      split
      · refine ih _ _ _ hd (by simp) ?_
        intro l hl
        rcases List.mem_append.1 hl with q | q
        · exact h3 l q
        · rw [List.mem_singleton.1 q]; exact h2
      · refine ih _ _ _ hd ?_ h3
        intro x hx
        rcases List.mem_append.1 hx with q | q
        · exact h2 x q
        · rw [List.mem_singleton.1 q]; exact first_byte (c :: r) h1

theorem splitN_bytes (s : ByteArray) : ∀ l ∈ Nm.splitN (Nm.bs s), ∀ x ∈ l, 0 ≤ x ∧ x ≤ 255 :=
  split_bytes _ _ _ _ (bs_bound s) (by simp) (by simp)

theorem map_bs_of (ls : List (List Int)) (h : ∀ l ∈ ls, ∀ x ∈ l, 0 ≤ x ∧ x ≤ 255) : (ls.map strOfNums).map Nm.bs = ls := by
  rw [List.map_map]
  have : ∀ l ∈ ls, (Nm.bs ∘ strOfNums) l = id l := fun l hl => bs_of l (h l hl)
  rw [List.map_congr_left this, List.map_id]

theorem map_nums_bs (n : List ByteArray) : (n.map Nm.bs).map strOfNums = n := by
  rw [List.map_map]
  have : ∀ s ∈ n, (strOfNums ∘ Nm.bs) s = id s := fun s _ => nums_bs s
  rw [List.map_congr_left this, List.map_id]

theorem rowt_strs {w : World} {B : Nat} {v : Value} {ls : List (List Int)} (h : Rowt w B v ls) (h1 : ∀ l ∈ ls, l.length ≤ 1020) (h2 : ls.length ≤ 1020) :
    ∃ x c, v = .slice x ls.length c ∧ Strs w x c (ls.map strOfNums) := by
  obtain ⟨_, h3⟩ := h
  rcases h3 with ⟨rfl, h4⟩ | ⟨g, cap, cur, rfl, _, hh, hn, _, hs, ht⟩
  · have : ls = [] := List.length_eq_zero_iff.1 h4
    subst this
    exact ⟨none, 0, rfl, Strs.empty w⟩
  · refine ⟨_, cap, rfl, by simpa using hn, by rw [List.length_map]; omega, ?_, ?_⟩
    · intro s hs
      obtain ⟨l, hl, rfl⟩ := List.mem_map.1 hs
      rw [strOfNums_size]
      have := h1 l hl
      omega
    · right
      have hlt : g < w.heap.size := by
        rcases Nat.lt_or_ge g w.heap.size with q | q
        · exact q
        · rw [Array.getElem?_eq_none q] at hh; simp at hh
      refine ⟨g, 0, rfl, hlt, fun i hi => ?_⟩
      rw [List.length_map] at hi
      rw [Nat.zero_add]
      simp only [World.cell?, hh]
      have e : (cur.toList.take (ls.length * 1))[i]? = (ls.map fun l => Value.string (strOfNums l))[i]? := by rw [ht]
      rw [List.getElem?_take, if_pos (by omega), List.getElem?_map, List.getElem?_eq_getElem hi] at e
      simp [List.getD_eq_getElem?_getD, List.getElem?_map, List.getElem?_eq_getElem hi]
      simpa using e

theorem dot_iff (s : ByteArray) : (s.toList == [46]) = decide (Nm.bs s = [46]) := by
  rw [Bool.eq_iff_iff, beq_iff_eq, decide_eq_true_iff, ByteArray.toList_eq]
  constructor
  · intro h
    unfold Nm.bs; rw [h]; rfl
  · intro h
    have e : Nm.bs s = Nm.bs ⟨#[46]⟩ := by rw [h]; rfl
    rw [bs_inj e]

theorem text_is (t s : ByteArray) : (!t.toList == s.toList) = !decide (Nm.bs t = Nm.bs s) := by
  congr 1
  rw [Bool.eq_iff_iff, beq_iff_eq, decide_eq_true_iff, ByteArray.toList_eq, ByteArray.toList_eq]
  constructor
  · intro h; unfold Nm.bs; rw [h]
  · intro h; rw [bs_inj h]

theorem esc_bytes (c : Int) (h0 : 0 ≤ c) (h1 : c ≤ 255) : ∀ x ∈ Nm.esc c, 0 ≤ x ∧ x ≤ 255 := by
  intro x hx
  unfold Nm.esc at hx
  split at hx
  · simp at hx; omega
  · split at hx
    · simp at hx; omega
    · simp at hx; omega

theorem text_bytes (n : List (List Int)) (h : ∀ l ∈ n, ∀ x ∈ l, 0 ≤ x ∧ x ≤ 255) : ∀ x ∈ Nm.textN n, 0 ≤ x ∧ x ≤ 255 := by
  intro x hx
  unfold Nm.textN at hx
  split at hx
  · simp at hx; omega
  · obtain ⟨l, hl, hx⟩ := List.mem_flatMap.1 hx
    unfold Nm.textL at hx
    rcases List.mem_append.1 hx with q | q
    · obtain ⟨c, hc, hx⟩ := List.mem_flatMap.1 q
      have := h l hl c hc
      exact esc_bytes c this.1 this.2 x hx
    · simp at q; omega

end Go.Proofs.Ytnbabdfcamdapaa
