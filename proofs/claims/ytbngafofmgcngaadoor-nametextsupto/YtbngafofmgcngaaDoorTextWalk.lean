/-
  The walk of Text: a name's text, or what is wrong with the name; it makes its own memory, and writes nothing that was there.
-/
import Derived.Test.YtbngafofmgcngaaDoorAppend
namespace Go.Proofs.YtbngafofmgcngaaDoor
open Go.RowKit Go.Deep

theorem check_at (v : Value) {x : Option Addr} {c l : Nat} (n : List ByteArray) (w : World) (h : Strs w x c n) (hl : n.length = l) (hv : errV (Nm.checkN (n.map Nm.bs)) = v) :
    Calls Tryd.prog 6 #[.slice x l c] w fun e w' => e = .returned v ∧ w = w' := by
  subst hl hv; exact (check_any x c n w h).mono fun e w' ⟨a, b⟩ => ⟨a, b.symm⟩

theorem errV_some {k : Int} (h : ¬ k = 0) : errV k = .iface 27 (.int .i64 k) := by unfold errV; rw [if_neg h]
theorem errV_none : errV 0 = .nilIface := rfl

set_option maxHeartbeats 400000 in
theorem text_bad (x : Option Addr) (c : Nat) (n : List ByteArray) (w : World) (h : Strs w x c n) (hk : ¬ Nm.checkN (n.map Nm.bs) = 0) :
    Calls Tryd.prog 16 #[.slice x n.length c] w fun e w' => e = .returned (.tuple #[.string ByteArray.empty, .iface 27 (.int .i64 (Nm.checkN (n.map Nm.bs)))]) ∧ w' = w := by
  have E := hid (errV_some hk)
  clear hk
  generalize hq : Nm.checkN (n.map Nm.bs) = q at *
  have Q := hid hq
  clear hq
  go_enter Tryd.func16, Tryd.ntmps16
  go_wp2_with fail
  refine (check_at (.iface 27 (.int .i64 q)) n _ h rfl (by rw [Q.out, E.out])).mono ?_
  rintro e w1 ⟨rfl, rfl⟩
  go_wp2_with fail
  go_ret2
  exact ⟨rfl, rfl⟩

/-- What the first k labels are in a text. -/
def textTo (n : List ByteArray) (k : Nat) : List Int := ((n.map Nm.bs).take k).flatMap Nm.textL

/-- .. and the first j bytes of a label behind them. -/
def textAt (n : List ByteArray) (k : Nat) (s : ByteArray) (j : Nat) : List Int := textTo n k ++ ((Nm.bs s).take j).flatMap Nm.esc

theorem textAt_zero (n : List ByteArray) (k : Nat) (s : ByteArray) : textAt n k s 0 = textTo n k := by unfold textAt; simp

theorem textAt_next (n : List ByteArray) (k : Nat) (s : ByteArray) (j : Nat) (hj : j < s.size) : textAt n k s j ++ Nm.esc (s[j].toNat : Int) = textAt n k s (j + 1) := by
  unfold textAt
  rw [List.take_succ_eq_append_getElem (by rw [bs_length]; exact hj), bs_get s j hj, List.flatMap_append, List.append_assoc]
  simp

theorem textAt_done (n : List ByteArray) (k : Nat) (hk : k < n.length) (j : Nat) (hj : (n.getD k ByteArray.empty).size ≤ j) : textAt n k (n.getD k ByteArray.empty) j ++ [46] = textTo n (k + 1) := by
  unfold textAt textTo
  rw [take_map_next n k hk, List.take_of_length_le (l := Nm.bs (n.getD k ByteArray.empty)) (by rw [bs_length]; exact hj), List.flatMap_append, List.append_assoc]
  simp [Nm.textL]

theorem flat_take_len (n : List (List Int)) (k : Nat) : Nm.total (n.take k) ≤ Nm.total n := by
  induction n generalizing k with
  | nil => simp
  | cons l n ih =>
    cases k with
    | zero => simp [Nm.total]
    | succ k =>
      have := ih k
      unfold Nm.total at *
      rw [List.take_succ_cons, List.map_cons, List.map_cons, List.sum_cons, List.sum_cons]; omega

theorem textTo_len (n : List ByteArray) (k : Nat) (h : Nm.checkN (n.map Nm.bs) = 0) : (textTo n k).length ≤ 1016 := by
  have a := (Nm.check_zero h).2
  have b := flat_take_len (n.map Nm.bs) k
  have c := (Nm.flatN_len ((n.map Nm.bs).take k)).2
  unfold textTo; omega

theorem textAt_len (n : List ByteArray) (k : Nat) (s : ByteArray) (j : Nat) (h : Nm.checkN (n.map Nm.bs) = 0) (hs : s.size ≤ 63) : (textAt n k s j).length ≤ 2000 := by
  have a := textTo_len n k h
  have b := (Nm.flat_len ((Nm.bs s).take j)).2
  have c : ((Nm.bs s).take j).length ≤ s.size := by rw [List.length_take, bs_length]; omega
  unfold textAt
  rw [List.length_append]; omega

theorem label_size {n : List ByteArray} (h : Nm.checkN (n.map Nm.bs) = 0) {k : Nat} (hk : k < n.length) : 1 ≤ (n.getD k ByteArray.empty).size ∧ (n.getD k ByteArray.empty).size ≤ 63 := by
  have := (Nm.check_zero h).1 (Nm.bs (n.getD k ByteArray.empty)) (by
    rw [List.getD_eq_getElem?_getD, List.getElem?_eq_getElem hk]
    exact List.mem_map_of_mem (List.getElem_mem hk))
  rwa [bs_length] at this

theorem Rowb.below {w w1 w2 : World} {B : Nat} {v : Value} {xs : List Int} (hr : Rowb w1 B v xs) (hb : Below B w w1) (hB : B ≤ w1.heap.size) (hg : w1.grownBy w2 v.ownBlock) : Below B w w2 :=
  hb.grown hg hB (fun k hk => (World.ownsRow.lt hr k hk).1)

theorem rowb_conv {w : World} {B : Nat} {v : Value} {xs : List Int} (h : Rowb w B v xs) : (convert 42 9 v).run Tryd.prog w = .ok (.string (strOfNums xs)) w := by
  obtain ⟨h1, h2⟩ := h
  rcases h2 with ⟨rfl, h3⟩ | ⟨g, cap, cur, rfl, _, hh, hn, _, hs, ht⟩
  · have : xs = [] := List.length_eq_zero_iff.1 h3
    subst this
    exact run_convert_bytes_nil (P := Tryd.prog) w 42 5 Tryd.underlying42 Tryd.underlying5 0 0 9 Tryd.underlying9
  · refine run_convert_bytes_arg (P := Tryd.prog) w 42 5 Tryd.underlying42 Tryd.underlying5 g 0 xs.length cap xs rfl (fun i hi => ?_) 9 Tryd.underlying9
    rw [Nat.zero_add]
    simp only [World.cell?, hh]
    have e : (cur.toList.take (xs.length * 1))[i]? = (xs.map (Value.int .u8))[i]? := by rw [ht]
    rw [List.getElem?_take, if_pos (by omega), List.getElem?_map] at e
    rw [List.getElem?_eq_getElem hi] at e
    simp [List.getD_eq_getElem?_getD, List.getElem?_eq_getElem hi]
    simpa using e

theorem textTo_all (n : List ByteArray) (k : Nat) (hk : n.length ≤ k) (hn : ¬ n = []) : textTo n k = Nm.textN (n.map Nm.bs) := by
  unfold textTo Nm.textN
  rw [List.take_of_length_le (by simpa using hk), if_neg (by simpa using hn)]

theorem ret_text {a b : List Int} (h : a = b) : Ending.returned (.tuple #[.string (strOfNums a), .nilIface]) = .returned (.tuple #[.string (strOfNums b), .nilIface]) := by rw [h]

set_option maxHeartbeats 1000000 in
theorem text_good (x : Option Addr) (c : Nat) (n : List ByteArray) (w : World) (h : Strs w x c n) (hk : Nm.checkN (n.map Nm.bs) = 0) :
    Calls Tryd.prog 16 #[.slice x n.length c] w fun e w' => e = .returned (.tuple #[.string (strOfNums (Nm.textN (n.map Nm.bs))), .nilIface]) ∧ Below w.heap.size w w' := by
  have hl : n.length ≤ 8796093022208 := h.2.1
  obtain ⟨i0, hi, hz0, hz1, hz2⟩ := info_parts info_byte
  have K := hid hk
  clear hk
  by_cases hn : n = []
  · subst hn
    go_enter Tryd.func16, Tryd.ntmps16
    go_wp2_with fail
    refine (check_at .nilIface [] _ h rfl (by rw [K.out]; rfl)).mono ?_
    rintro e w1 ⟨rfl, rfl⟩
    go_wp2_with fail
    go_ret2
    exact ⟨rfl, Below.refl _ _⟩
  · have hn0 : ((n.length : Int) == 0) = false := by
      have : n.length ≠ 0 := fun q => hn (List.length_eq_zero_iff.1 q)
      exact beq_eq_false_iff_ne.2 (by omega)
    have HN := hid hn
    clear hn
    go_enter Tryd.func16, Tryd.ntmps16
    go_wp2_with fail
    refine (check_at .nilIface n _ h rfl (by rw [K.out]; rfl)).mono ?_
    rintro e w1 ⟨rfl, rfl⟩
    go_wp2_with fail
    go_loopw [5, 19] (fun v i wr => ∃ k : Nat, k ≤ n.length ∧ i = .int .i64 (k : Int) ∧ Rowb wr w.heap.size v (textTo n k) ∧ Below w.heap.size w wr) (fun _ i _ => n.length - (intOf i).toNat)
    case atStart => exact ⟨0, Nat.zero_le _, rfl, World.ownsRow_nil _ _ _ _, Below.refl _ _⟩
    case round =>
      obtain ⟨k, hk, rfl, hrow, hbel⟩ := hrel
      by_cases h1 : k < n.length
      · obtain ⟨_, _, sa, da⟩ := h.below hbel
        rcases da with da | ⟨ba, oa, rfl, _, qa⟩
        · rw [da] at h1; simp at h1
        have fa := qa k (by omega)
        have ls := label_size K.out h1
        have E1 := hid (textAt_done n k h1)
        have E2 := hid (textAt_zero n k (n.getD k ByteArray.empty))
        clear qa sa
        generalize n.getD k ByteArray.empty = s at *
        have E3 := hid (textAt_next n k s)
        have E4 := hid (fun j => textAt_len n k s j K.out ls.2)
        have R0 : Rowb wr w.heap.size u5 (textAt n k s 0) := by rw [E2.out]; exact hrow
        clear hrow
        go_wp2_with fail
        go_loopw [5, 25] (fun v i wq => ∃ j : Nat, j ≤ s.size ∧ i = .int .i64 (j : Int) ∧ Rowb wq w.heap.size v (textAt n k s j) ∧ Below w.heap.size w wq) (fun _ i _ => s.size - (intOf i).toNat)
        case atStart => exact ⟨0, Nat.zero_le _, rfl, R0, hbel⟩
        case round =>
          clear R0 hbel fa
          obtain ⟨j, hj, rfl, hrow, hbel⟩ := hrel
          have hB := hbel.size
          have len := E4.out j
          by_cases h2 : j < s.size
          · go_wp2_with fail
            refine (appendByte_any w.heap.size _ _ _ _ hrow (u8_bound _).1 (u8_bound _).2 (by omega) hB).mono ?_
            rintro e w2 ⟨v', rfl, hrow2, hg⟩
            have hbel2 := hrow.below hbel hB hg
            rw [E3.out j h2] at hrow2
            clear hrow hbel hg
            go_wp2_with fail
            exact ⟨⟨j + 1, by omega, by go_num, hrow2, hbel2⟩, by simp [intOf]; omega⟩
          · have hown : World.ownsRow _ _ _ _ _ _ _ := hrow
            go_wp2_with (at_builtin; refine wpList_append_own _ rfl _ _ 42 rfl w.heap.size 5 i0 (.int .u8 0) 1 1 Tryd.underlying42 hi hz0 hz1 hz2 rfl (by decide) _ _ _ rfl (hown.alloc _) ⟨_, 0, none⟩ 1 1 [.int .u8 46] rfl rfl (cells_new _ [.int .u8 46] 5) (one_cells [46]) (by unfold maxLen; omega) (by omega) (by simp; omega) ?_)
            intro v' w2 hown' hgrow _
            have hrow2 : Rowb w2 w.heap.size v' (textAt n k s j ++ [46]) := Rowb.of hown' (by simp) (by simp)
            have hbel2 := hrow.below hbel hB (grown_alloc hgrow)
            rw [E1.out j (by omega)] at hrow2
            clear hown hown' hgrow hrow hbel
            go_wp2_with fail
            exact ⟨⟨k + 1, by omega, by go_num, hrow2, hbel2⟩, by simp [intOf]; omega⟩
      · have hconv := rowb_conv hrow
        have E := hid (textTo_all n k (by omega) HN.out)
        go_wp2_with fail
        go_ret2
        exact ⟨ret_text E.out, hbel⟩

end Go.Proofs.YtbngafofmgcngaaDoor
