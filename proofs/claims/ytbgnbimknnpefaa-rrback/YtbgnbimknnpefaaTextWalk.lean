/-
  The walk of Text: a name's text, or what is wrong with the name; it makes its own memory, and writes nothing that was there.
-/
import Derived.Test.YtbgnbimknnpefaaAppend
namespace Go.Proofs.Ytbgnbimknnpefaa
open Go.RowKit Go.Deep

theorem check_at (v : Value) {x : Option Addr} {c l : Nat} (n : List ByteArray) (w : World) (h : Strs w x c n) (hl : n.length = l) (hv : errV (Nm.checkN (n.map Nm.bs)) = v) :
    Calls Try.prog 15 #[.slice x l c] w fun e w' => e = .returned v ∧ w = w' := by
  subst hl hv; exact (check_any x c n w h).mono fun e w' ⟨a, b⟩ => ⟨a, b.symm⟩

theorem errV_some {k : Int} (h : ¬ k = 0) : errV k = .iface 40 (.int .i64 k) := by unfold errV; rw [if_neg h]
theorem errV_none : errV 0 = .nilIface := rfl

/-- What the first k labels are in a text. -/
def textTo (n : List ByteArray) (k : Nat) : List Int := ((n.map Nm.bs).take k).flatMap Nm.textL

/-- .. and the first j bytes of a label behind them. -/
def textAt (n : List ByteArray) (k : Nat) (s : ByteArray) (j : Nat) : List Int := textTo n k ++ ((Nm.bs s).take j).flatMap Nm.esc

theorem textAt_zero (n : List ByteArray) (k : Nat) (s : ByteArray) : textAt n k s 0 = textTo n k := by unfold textAt; simp

theorem textAt_next (n : List ByteArray) (k : Nat) (s : ByteArray) (j : Nat) (hj : j < s.size) : textAt n k s j ++ Nm.esc (s[j].toNat : Int) = textAt n k s (j + 1) := by
  unfold textAt
  rw [List.take_succ_eq_append_getElem (by rw [bs_length]; exact hj), bs_get s j hj, List.flatMap_append, List.append_assoc]
  simp

theorem textAt_done (n : List ByteArray) (k : Nat) (hk : k < n.length) (j : Nat) (hj : (n.getD k ByteArray.empty).size ≤ j) : textAt n k (n.getD k ByteArray.empty) j ++ [46] = textTo n (k + 1) := by
  unfold textAt textTo
  rw [take_map_next n k hk, List.take_of_length_le (l := Nm.bs (n.getD k ByteArray.empty)) (by rw [bs_length]; exact hj), List.flatMap_append, List.append_assoc]
  simp [Nm.textL]

theorem flat_take_len (n : List (List Int)) (k : Nat) : Nm.total (n.take k) ≤ Nm.total n := by
  induction n generalizing k with
  | nil => simp
  | cons l n ih =>
    cases k with
    | zero => simp [Nm.total]
    | succ k =>
      have := ih k
      unfold Nm.total at *
      rw [List.take_succ_cons, List.map_cons, List.map_cons, List.sum_cons, List.sum_cons]; omega

theorem textTo_len (n : List ByteArray) (k : Nat) (h : Nm.checkN (n.map Nm.bs) = 0) : (textTo n k).length ≤ 1016 := by
  have a := (Nm.check_zero h).2
  have b := flat_take_len (n.map Nm.bs) k
  have c := (Nm.flatN_len ((n.map Nm.bs).take k)).2
  unfold textTo; omega

theorem textAt_len (n : List ByteArray) (k : Nat) (s : ByteArray) (j : Nat) (h : Nm.checkN (n.map Nm.bs) = 0) (hs : s.size ≤ 63) : (textAt n k s j).length ≤ 2000 := by
  have a := textTo_len n k h
  have b := (Nm.flat_len ((Nm.bs s).take j)).2
  have c : ((Nm.bs s).take j).length ≤ s.size := by rw [List.length_take, bs_length]; omega
  unfold textAt
  rw [List.length_append]; omega

theorem label_size {n : List ByteArray} (h : Nm.checkN (n.map Nm.bs) = 0) {k : Nat} (hk : k < n.length) : 1 ≤ (n.getD k ByteArray.empty).size ∧ (n.getD k ByteArray.empty).size ≤ 63 := by
  have := (Nm.check_zero h).1 (Nm.bs (n.getD k ByteArray.empty)) (by
    rw [List.getD_eq_getElem?_getD, List.getElem?_eq_getElem hk]
    exact List.mem_map_of_mem (List.getElem_mem hk))
  rwa [bs_length] at this

theorem Rowb.below {w w1 w2 : World} {B : Nat} {v : Value} {xs : List Int} (hr : Rowb w1 B v xs) (hb : Below B w w1) (hB : B ≤ w1.heap.size) (hg : w1.grownBy w2 v.ownBlock) : Below B w w2 :=
  hb.grown hg hB (fun k hk => (World.ownsRow.lt hr k hk).1)

theorem rowb_conv {w : World} {B : Nat} {v : Value} {xs : List Int} (h : Rowb w B v xs) : (convert 22 9 v).run Try.prog w = .ok (.string (strOfNums xs)) w := by
  obtain ⟨h1, h2⟩ := h
  rcases h2 with ⟨rfl, h3⟩ | ⟨g, cap, cur, rfl, _, hh, hn, _, hs, ht⟩
  · have : xs = [] := List.length_eq_zero_iff.1 h3
    subst this
    exact run_convert_bytes_nil (P := Try.prog) w 22 5 Try.underlying22 Try.underlying5 0 0 9 Try.underlying9
  · refine run_convert_bytes_arg (P := Try.prog) w 22 5 Try.underlying22 Try.underlying5 g 0 xs.length cap xs rfl (fun i hi => ?_) 9 Try.underlying9
    rw [Nat.zero_add]
    simp only [World.cell?, hh]
    have e : (cur.toList.take (xs.length * 1))[i]? = (xs.map (Value.int .u8))[i]? := by rw [ht]
    rw [List.getElem?_take, if_pos (by omega), List.getElem?_map] at e
    rw [List.getElem?_eq_getElem hi] at e
    simp [List.getD_eq_getElem?_getD, List.getElem?_eq_getElem hi]
    simpa using e

theorem textTo_all (n : List ByteArray) (k : Nat) (hk : n.length ≤ k) (hn : ¬ n = []) : textTo n k = Nm.textN (n.map Nm.bs) := by
  unfold textTo Nm.textN
  rw [List.take_of_length_le (by simpa using hk), if_neg (by simpa using hn)]

theorem ret_text {a b : List Int} (h : a = b) : Ending.returned (.tuple #[.string (strOfNums a), .nilIface]) = .returned (.tuple #[.string (strOfNums b), .nilIface]) := by rw [h]

end Go.Proofs.Ytbgnbimknnpefaa
