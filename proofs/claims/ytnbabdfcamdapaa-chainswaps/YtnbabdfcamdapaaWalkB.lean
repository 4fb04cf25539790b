/-
  The walk of Check: what is wrong with a name. It only reads. The walk of appendByte: a row of bytes that the caller owns is longer by what a byte of a label is in a text; nothing else has turned. The walk of Text: a name's text, or what is wrong with the name; it makes its own memory, and writes nothing that was there.
-/
import Derived.Test.YtnbabdfcamdapaaWalkA
import Derived.Test.YtnbabdfcamdapaaText
import Derived.Deep.Slices
namespace Go.Proofs.Ytnbabdfcamdapaa
open Go.RowKit

/-- The error of a number: none, or that of the project's own kind. -/
def errV (k : Int) : Value := if k = 0 then .nilIface else .iface 52 (.int .i64 k)

/-- The bytes of the first k labels, and one more for each; each of them may be. -/
def Fine (n : List ByteArray) (k t : Nat) : Prop := Nm.total ((n.map Nm.bs).take k) = t ∧ ∀ l ∈ (n.map Nm.bs).take k, Nm.okL l = true

theorem fine_zero (n : List ByteArray) : Fine n 0 0 := ⟨by simp [Nm.total], by simp⟩

theorem fine_bound {n : List ByteArray} {k t : Nat} (h : Fine n k t) : t ≤ 64 * k := by
  obtain ⟨rfl, h2⟩ := h
  have hl : ((n.map Nm.bs).take k).length ≤ k := List.length_take_le _ _
  generalize (n.map Nm.bs).take k = L at *
  have : Nm.total L ≤ 64 * L.length := by
    clear hl
    induction L with
    | nil => simp [Nm.total]
    | cons l L ih =>
      have a := of_decide_eq_true (h2 l (by simp))
      have b := ih (fun x hx => h2 x (by simp [hx]))
      unfold Nm.total at *
      rw [List.map_cons, List.sum_cons, List.length_cons]; omega
  omega

theorem take_map_next (n : List ByteArray) (k : Nat) (hk : k < n.length) : (n.map Nm.bs).take (k + 1) = (n.map Nm.bs).take k ++ [Nm.bs (n.getD k ByteArray.empty)] := by
  rw [List.take_succ_eq_append_getElem (by simpa using hk)]
  simp [List.getD_eq_getElem?_getD, List.getElem?_eq_getElem hk]

theorem fine_next {n : List ByteArray} {k t : Nat} (h : Fine n k t) (hk : k < n.length) (h1 : 1 ≤ (n.getD k ByteArray.empty).size) (h2 : (n.getD k ByteArray.empty).size ≤ 63) : Fine n (k + 1) (t + ((n.getD k ByteArray.empty).size + 1)) := by
  obtain ⟨rfl, a⟩ := h
  unfold Fine
  rw [take_map_next n k hk]
  refine ⟨?_, fun l hl => ?_⟩
  · unfold Nm.total
    rw [List.map_append, List.sum_append, List.map_singleton, List.sum_singleton, bs_length]
  · rcases List.mem_append.1 hl with q | q
    · exact a l q
    · rw [List.mem_singleton.1 q]
      unfold Nm.okL
      rw [bs_length]
      exact decide_eq_true ⟨h1, h2⟩

theorem check_bad {n : List ByteArray} {k : Nat} (hk : k < n.length) (h : (n.getD k ByteArray.empty).size = 0 ∨ 63 < (n.getD k ByteArray.empty).size) : Nm.checkN (n.map Nm.bs) = 3 := by
  unfold Nm.checkN
  rw [if_neg]
  intro q
  have := List.all_eq_true.1 q (Nm.bs (n.getD k ByteArray.empty)) (by
    rw [List.getD_eq_getElem?_getD, List.getElem?_eq_getElem hk]
    exact List.mem_map_of_mem (List.getElem_mem hk))
  unfold Nm.okL at this
  have := of_decide_eq_true this
  rw [bs_length] at this
  omega

theorem check_end {n : List ByteArray} {k t : Nat} (h : Fine n k t) (hk : n.length ≤ k) : Nm.checkN (n.map Nm.bs) = if 254 < t then 5 else 0 := by
  obtain ⟨rfl, a⟩ := h
  rw [List.take_of_length_le (by simpa using hk)] at a ⊢
  unfold Nm.checkN
  rw [if_pos (List.all_eq_true.2 a)]

theorem ret_err {k j : Int} (h : k = j) (hj : ¬ j = 0) : Ending.returned (.iface 52 (.int .i64 j)) = .returned (errV k) := by
  rw [h]; unfold errV; rw [if_neg hj]
theorem ret_ok {k : Int} (h : k = 0) : Ending.returned .nilIface = .returned (errV k) := by
  rw [h]; unfold errV; rw [if_pos rfl]

set_option maxHeartbeats 400000 in
set_option maxRecDepth 100000 in
theorem check_any (x : Option Addr) (c : Nat) (n : List ByteArray) (w : World) (h : Strs w x c n) :
    Calls Try.prog 19 #[.slice x n.length c] w fun e w' => e = .returned (errV (Nm.checkN (n.map Nm.bs))) ∧ w' = w := by
  have hl : n.length ≤ 8796093022208 := h.2.1
  go_enter Try.func19, Try.ntmps19
  go_wp2
  go_loop [3, 8] (fun s i => ∃ k t : Nat, k ≤ n.length ∧ s = .int .i64 ((t : Int) + 1) ∧ i = .int .i64 (k : Int) ∧ Fine n k t) (fun _ i => n.length - (intOf i).toNat)
  case atStart => exact ⟨0, 0, Nat.zero_le _, rfl, rfl, fine_zero n⟩
  case round =>
    obtain ⟨k, t, hk, rfl, rfl, hfine⟩ := hrel
    have hb := fine_bound hfine
    by_cases h1 : k < n.length
    · obtain ⟨_, _, sa, da⟩ := h
      rcases da with da | ⟨ba, oa, rfl, _, qa⟩
      · rw [da] at h1; simp at h1
      have fa := qa k (by omega)
      have na := getD_mem_size sa k
      have E1 := hid (fine_next hfine h1)
      have E2 := hid (@check_bad n k h1)
      clear qa sa
      generalize n.getD k ByteArray.empty = s at *
      by_cases hs0 : s.size = 0
      · have hz : ((s.size : Int) == 0) = true := beq_iff_eq.2 (by omega)
        have E3 := hid (E2.out (Or.inl hs0))
        clear E1 E2 hs0
        go_wp2
        go_ret
        exact ⟨ret_err E3.out (by decide), rfl⟩
      · have hz : ((s.size : Int) == 0) = false := beq_eq_false_iff_ne.2 (by omega)
        by_cases hs1 : 63 < s.size
        · have E3 := hid (E2.out (Or.inr hs1))
          clear E1 E2
          go_wp2
          go_ret
          exact ⟨ret_err E3.out (by decide), rfl⟩
        · have hs2 : 1 ≤ s.size := by omega
          go_wp2
          exact ⟨⟨k + 1, t + (s.size + 1), by omega, by go_num, by go_num, E1.out hs2 (by omega)⟩, by simp [intOf]; omega⟩
    · have E := check_end hfine (by omega)
      by_cases ht : 254 < t
      · rw [if_pos ht] at E
        have E3 := hid E
        have ht2 : (255 : Int) < (t : Int) + 1 := by omega
        clear E ht
        go_wp2
        go_ret
        exact ⟨ret_err E3.out (by decide), rfl⟩
      · rw [if_neg ht] at E
        have E3 := hid E
        have ht2 : ¬ (255 : Int) < (t : Int) + 1 := by omega
        clear E ht
        go_wp2
        go_ret
        exact ⟨ret_ok E3.out, rfl⟩

end Go.Proofs.Ytnbabdfcamdapaa

namespace Go.Proofs.Ytnbabdfcamdapaa
open Go.RowKit Go.Deep

/-- A slice of bytes of the call's own. -/
def Rowb (w : World) (B : Nat) (v : Value) (xs : List Int) : Prop := w.ownsRow B 5 1 v xs.length (xs.map (Value.int .u8))

theorem Rowb.of {w : World} {B n : Nat} {v : Value} {xs : List Int} {ys : List Value} (h : w.ownsRow B 5 1 v n ys) (hn : n = xs.length) (hy : ys = xs.map (Value.int .u8)) : Rowb w B v xs := by
  subst hn hy; exact h

theorem cells_new (w : World) (cs : List Value) (t : TypeId) : ∀ j u, cs[j]? = some u → (w.alloc (.cells cs.toArray t)).cell? ((⟨w.heap.size, 0, none⟩ : Addr).add j) = some u := by
  intro j u h
  rw [Go.WideShapes.add_plain, Nat.zero_add, World.cell?_alloc_at _ _ _ _ rfl]
  simpa using h

theorem grown_alloc {w w' : World} {o : Obj} {r : Option Nat} (h : (w.alloc o).grownBy w' r) : w.grownBy w' r :=
  ⟨h.os, h.tape, h.output, by have := h.size; simp at this; omega, fun k hk hr => by rw [h.block k (by simp; omega) hr]; exact Below.heap_alloc w o k hk⟩

theorem one_cells (xs : List Int) : ∀ u ∈ xs.map (Value.int .u8), u.oneCell' = true := by
  intro u hu
  obtain ⟨n, _, rfl⟩ := List.mem_map.1 hu
  rfl

end Go.Proofs.Ytnbabdfcamdapaa

namespace Go.Proofs.Ytnbabdfcamdapaa
open Go.RowKit Go.Deep

theorem check_at (v : Value) {x : Option Addr} {c l : Nat} (n : List ByteArray) (w : World) (h : Strs w x c n) (hl : n.length = l) (hv : errV (Nm.checkN (n.map Nm.bs)) = v) :
    Calls Try.prog 19 #[.slice x l c] w fun e w' => e = .returned v ∧ w = w' := by
  subst hl hv; exact (check_any x c n w h).mono fun e w' ⟨a, b⟩ => ⟨a, b.symm⟩

theorem errV_some {k : Int} (h : ¬ k = 0) : errV k = .iface 52 (.int .i64 k) := by unfold errV; rw [if_neg h]
theorem errV_none : errV 0 = .nilIface := rfl

/-- What the first k labels are in a text. -/
def textTo (n : List ByteArray) (k : Nat) : List Int := ((n.map Nm.bs).take k).flatMap Nm.textL

/-- .. and the first j bytes of a label behind them. -/
def textAt (n : List ByteArray) (k : Nat) (s : ByteArray) (j : Nat) : List Int := textTo n k ++ ((Nm.bs s).take j).flatMap Nm.esc

theorem textAt_zero (n : List ByteArray) (k : Nat) (s : ByteArray) : textAt n k s 0 = textTo n k := by unfold textAt; simp

theorem textAt_next (n : List ByteArray) (k : Nat) (s : ByteArray) (j : Nat) (hj : j < s.size) : textAt n k s j ++ Nm.esc (s[j].toNat : Int) = textAt n k s (j + 1) := by
  unfold textAt
  rw [List.take_succ_eq_append_getElem (by rw [bs_length]; exact hj), bs_get s j hj, List.flatMap_append, List.append_assoc]
  simp

theorem textAt_done (n : List ByteArray) (k : Nat) (hk : k < n.length) (j : Nat) (hj : (n.getD k ByteArray.empty).size ≤ j) : textAt n k (n.getD k ByteArray.empty) j ++ [46] = textTo n (k + 1) := by
  unfold textAt textTo
  rw [take_map_next n k hk, List.take_of_length_le (l := Nm.bs (n.getD k ByteArray.empty)) (by rw [bs_length]; exact hj), List.flatMap_append, List.append_assoc]
  simp [Nm.textL]

theorem flat_take_len (n : List (List Int)) (k : Nat) : Nm.total (n.take k) ≤ Nm.total n := by
  induction n generalizing k with
  | nil => simp
  | cons l n ih =>
    cases k with
    | zero => simp [Nm.total]
    | succ k =>
      have := ih k
      unfold Nm.total at *
      rw [List.take_succ_cons, List.map_cons, List.map_cons, List.sum_cons, List.sum_cons]; omega

theorem textTo_len (n : List ByteArray) (k : Nat) (h : Nm.checkN (n.map Nm.bs) = 0) : (textTo n k).length ≤ 1016 := by
  have a := (Nm.check_zero h).2
  have b := flat_take_len (n.map Nm.bs) k
  have c := (Nm.flatN_len ((n.map Nm.bs).take k)).2
  unfold textTo; omega

theorem textAt_len (n : List ByteArray) (k : Nat) (s : ByteArray) (j : Nat) (h : Nm.checkN (n.map Nm.bs) = 0) (hs : s.size ≤ 63) : (textAt n k s j).length ≤ 2000 := by
  have a := textTo_len n k h
  have b := (Nm.flat_len ((Nm.bs s).take j)).2
  have c : ((Nm.bs s).take j).length ≤ s.size := by rw [List.length_take, bs_length]; omega
  unfold textAt
  rw [List.length_append]; omega

theorem label_size {n : List ByteArray} (h : Nm.checkN (n.map Nm.bs) = 0) {k : Nat} (hk : k < n.length) : 1 ≤ (n.getD k ByteArray.empty).size ∧ (n.getD k ByteArray.empty).size ≤ 63 := by
  have := (Nm.check_zero h).1 (Nm.bs (n.getD k ByteArray.empty)) (by
    rw [List.getD_eq_getElem?_getD, List.getElem?_eq_getElem hk]
    exact List.mem_map_of_mem (List.getElem_mem hk))
  rwa [bs_length] at this

theorem Rowb.below {w w1 w2 : World} {B : Nat} {v : Value} {xs : List Int} (hr : Rowb w1 B v xs) (hb : Below B w w1) (hB : B ≤ w1.heap.size) (hg : w1.grownBy w2 v.ownBlock) : Below B w w2 :=
  hb.grown hg hB (fun k hk => (World.ownsRow.lt hr k hk).1)

theorem rowb_conv {w : World} {B : Nat} {v : Value} {xs : List Int} (h : Rowb w B v xs) : (convert 27 9 v).run Try.prog w = .ok (.string (strOfNums xs)) w := by
  obtain ⟨h1, h2⟩ := h
  rcases h2 with ⟨rfl, h3⟩ | ⟨g, cap, cur, rfl, _, hh, hn, _, hs, ht⟩
  · have : xs = [] := List.length_eq_zero_iff.1 h3
    subst this
    exact run_convert_bytes_nil (P := Try.prog) w 27 5 Try.underlying27 Try.underlying5 0 0 9 Try.underlying9
  · refine run_convert_bytes_arg (P := Try.prog) w 27 5 Try.underlying27 Try.underlying5 g 0 xs.length cap xs rfl (fun i hi => ?_) 9 Try.underlying9
    rw [Nat.zero_add]
    simp only [World.cell?, hh]
    have e : (cur.toList.take (xs.length * 1))[i]? = (xs.map (Value.int .u8))[i]? := by rw [ht]
    rw [List.getElem?_take, if_pos (by omega), List.getElem?_map] at e
    rw [List.getElem?_eq_getElem hi] at e
    simp [List.getD_eq_getElem?_getD, List.getElem?_eq_getElem hi]
    simpa using e

theorem textTo_all (n : List ByteArray) (k : Nat) (hk : n.length ≤ k) (hn : ¬ n = []) : textTo n k = Nm.textN (n.map Nm.bs) := by
  unfold textTo Nm.textN
  rw [List.take_of_length_le (by simpa using hk), if_neg (by simpa using hn)]

theorem ret_text {a b : List Int} (h : a = b) : Ending.returned (.tuple #[.string (strOfNums a), .nilIface]) = .returned (.tuple #[.string (strOfNums b), .nilIface]) := by rw [h]

end Go.Proofs.Ytnbabdfcamdapaa
