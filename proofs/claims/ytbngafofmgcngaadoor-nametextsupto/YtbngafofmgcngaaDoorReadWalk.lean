/-
  The walk of Read itself: where there is a name of the text, and where there is none.
-/
import Derived.Test.YtbngafofmgcngaaDoorRead
namespace Go.Proofs.YtbngafofmgcngaaDoor
open Go.RowKit Go.Deep

set_option maxHeartbeats 1000000 in
theorem read_some (s : ByteArray) (m : List (List Int)) (w : World) (hs : s.size ≤ 140737488355328) (hm : Nm.readN (Nm.bs s) = some m) :
    Calls Tryd.prog 19 #[.string s] w fun e w' => ∃ x c, e = .returned (.tuple #[.slice x m.length c, .nilIface]) ∧ Strs w' x c (m.map strOfNums) ∧ Below w.heap.size w w' := by
  unfold Nm.readN at hm
  have hd := dot_iff s
  by_cases a : Nm.bs s = [46]
  · rw [if_pos a] at hm
    rw [decide_eq_true a] at hd
    obtain rfl := Option.some.inj hm
    clear hm a
    go_enter Tryd.func19, Tryd.ntmps19
    go_wp2_with fail
    go_ret2
    exact ⟨none, 0, rfl, Strs.empty w, Below.refl _ _⟩
  · rw [if_neg a] at hm
    rw [decide_eq_false a] at hd
    rw [bs_length] at hm
    by_cases b : 1020 < s.size
    · rw [if_pos b] at hm; simp at hm
    · rw [if_neg b] at hm
      by_cases c : Nm.checkN (Nm.splitN (Nm.bs s)) = 0 ∧ Nm.textN (Nm.splitN (Nm.bs s)) = Nm.bs s
      · rw [if_pos c] at hm
        have hm' := Option.some.inj hm
        rw [hm'] at c
        obtain ⟨c1, c2⟩ := c
        have hb : ¬ (1020 : Int) < (s.size : Int) := by omega
        have M := hid hm'
        have C1 := hid c1
        have C2 := hid c2
        clear hm hm' a b c1 c2
        go_enter Tryd.func19, Tryd.ntmps19
        go_wp2_with fail
        refine (split_any s _ (by omega)).mono ?_
        rintro e w1 ⟨v, rfl, hrow, hl1, hl2, hbel⟩
        have hbytes := splitN_bytes s
        rw [M.out] at hrow hl1 hl2 hbytes
        obtain ⟨x, q, rfl, hst⟩ := rowt_strs hrow hl1 hl2
        have e1 := map_bs_of m hbytes
        have H1 := hid e1
        clear hl1 hbytes hrow e1
        go_wp2_with fail
        refine (text_good_at (m.map strOfNums) _ hst (by rw [List.length_map]) (by rw [H1.out]; exact C1.out) s (by rw [H1.out, C2.out]; exact nums_bs s)).mono ?_
        rintro e w2 ⟨rfl, hb2⟩
        have hst2 := hst.below hb2
        have hbel2 := hbel.trans (hb2.mono hbel.size)
        clear hst hb2 hbel
        go_wp2_with fail
        go_ret2
        exact ⟨x, q, rfl, hst2, hbel2⟩
      · rw [if_neg c] at hm; simp at hm

set_option maxHeartbeats 1000000 in
theorem read_none (s : ByteArray) (w : World) (hs : s.size ≤ 140737488355328) (hm : Nm.readN (Nm.bs s) = none) :
    Calls Tryd.prog 19 #[.string s] w fun e w' => e = .returned (.tuple #[.slice none 0 0, .iface 27 (.int .i64 1)]) ∧ Below w.heap.size w w' := by
  unfold Nm.readN at hm
  have hd := dot_iff s
  by_cases a : Nm.bs s = [46]
  · rw [if_pos a] at hm; simp at hm
  · rw [if_neg a] at hm
    rw [decide_eq_false a] at hd
    rw [bs_length] at hm
    by_cases b : 1020 < s.size
    · have hb : (1020 : Int) < (s.size : Int) := by omega
      clear hm a b
      go_enter Tryd.func19, Tryd.ntmps19
      go_wp2_with fail
      go_ret2
      exact ⟨rfl, Below.refl _ _⟩
    · rw [if_neg b] at hm
      have c : ¬ (Nm.checkN (Nm.splitN (Nm.bs s)) = 0 ∧ Nm.textN (Nm.splitN (Nm.bs s)) = Nm.bs s) := by
        intro q; rw [if_pos q] at hm; simp at hm
      have hb : ¬ (1020 : Int) < (s.size : Int) := by omega
      by_cases c1 : Nm.checkN (Nm.splitN (Nm.bs s)) = 0
      · have c2 : ¬ Nm.textN (Nm.splitN (Nm.bs s)) = Nm.bs s := fun q => c ⟨c1, q⟩
        have C1 := hid c1
        have C2 := hid c2
        clear hm a b c c1 c2
        go_enter Tryd.func19, Tryd.ntmps19
        go_wp2_with fail
        refine (split_any s _ (by omega)).mono ?_
        rintro e w1 ⟨v, rfl, hrow, hl1, hl2, hbel⟩
        obtain ⟨x, q, rfl, hst⟩ := rowt_strs hrow hl1 hl2
        have hbytes := splitN_bytes s
        generalize Nm.splitN (Nm.bs s) = ls at *
        have e1 := map_bs_of ls hbytes
        have H1 := hid e1
        have ne : (!(strOfNums (Nm.textN ls)).toList == s.toList) = true := by
          rw [text_is, bs_of _ (text_bytes ls hbytes), decide_eq_false C2.out]; rfl
        clear hl1 hbytes hrow e1
        generalize hT : strOfNums (Nm.textN ls) = T at *
        have HT := hid hT
        clear hT
        go_wp2_with fail
        refine (text_good_at (ls.map strOfNums) _ hst (by rw [List.length_map]) (by rw [H1.out]; exact C1.out) T (by rw [H1.out]; exact HT.out)).mono ?_
        rintro e w2 ⟨rfl, hb2⟩
        have hbel2 := hbel.trans (hb2.mono hbel.size)
        clear hst hb2 hbel
        go_wp2_with fail
        go_ret2
        exact ⟨rfl, hbel2⟩
      · have C1 := hid c1
        clear hm a b c c1
        go_enter Tryd.func19, Tryd.ntmps19
        go_wp2_with fail
        refine (split_any s _ (by omega)).mono ?_
        rintro e w1 ⟨v, rfl, hrow, hl1, hl2, hbel⟩
        obtain ⟨x, q, rfl, hst⟩ := rowt_strs hrow hl1 hl2
        have hbytes := splitN_bytes s
        generalize Nm.splitN (Nm.bs s) = ls at *
        have e1 := map_bs_of ls hbytes
        have H1 := hid e1
        clear hl1 hbytes hrow e1
        go_wp2_with fail
        refine (text_bad_at (ls.map strOfNums) _ hst (by rw [List.length_map]) (Nm.checkN ls) (by rw [H1.out]) C1.out).mono ?_
        rintro e w2 ⟨rfl, rfl⟩
        go_wp2_with fail
        go_ret2
        exact ⟨rfl, hbel⟩

end Go.Proofs.YtbngafofmgcngaaDoor
