/-
  The walk of split itself.
-/
import Derived.Test.YtbngafofmgcngaaDoorSplit
import Derived.Test.YtbngafofmgcngaaDoorAt
namespace Go.Proofs.YtbngafofmgcngaaDoor
open Go.RowKit Go.Deep

theorem one_string (s : ByteArray) : ∀ u ∈ [Value.string s], u.oneCell' = true := by
  intro u hu
  rw [List.mem_singleton.1 hu]; rfl

def strLen : Value → Nat
  | .string t => t.size
  | _ => 0

theorem strLen_cut (t : ByteArray) (k : Nat) (h1 : 1 ≤ k) (h2 : k ≤ t.size) : strLen (.string (t.extract k t.size)) < strLen (.string t) := by
  have : (t.extract k t.size).size = t.size - k := by rw [← bs_length, bs_extract, List.length_drop, bs_length]
  simp only [strLen]
  omega

theorem rowb_shape {w : World} {B : Nat} {v : Value} {xs : List Int} (h : Rowb w B v xs) : (v = .slice none 0 0 ∧ xs = []) ∨ ∃ g cap, v = .slice (some ⟨g, 0, none⟩) xs.length cap := by
  rcases h.2 with ⟨rfl, h3⟩ | ⟨g, cap, cur, rfl, _⟩
  · exact Or.inl ⟨rfl, List.length_eq_zero_iff.1 h3⟩
  · exact Or.inr ⟨g, cap, rfl⟩

theorem grown_below {w w1 w2 : World} {B e n : Nat} {v : Value} {xs : List Value} (hr : w1.ownsRow B e 1 v n xs) (hb : Below B w w1) (hB : B ≤ w1.heap.size) (hg : w1.grownBy w2 v.ownBlock) : Below B w w2 :=
  hb.grown hg hB (fun k hk => (World.ownsRow.lt hr k hk).1)

set_option maxHeartbeats 1000000 in
theorem split_any (s : ByteArray) (w : World) (hs : s.size ≤ 1020) :
    Calls Tryd.prog 29 #[.string s] w fun e w' => ∃ v, e = .returned v ∧ Rowt w' w.heap.size v (Nm.splitN (Nm.bs s)) ∧ (∀ l ∈ Nm.splitN (Nm.bs s), l.length ≤ 1020) ∧ (Nm.splitN (Nm.bs s)).length ≤ 1020 ∧ Below w.heap.size w w' := by
  obtain ⟨i0, hi, hz0, hz1, hz2⟩ := info_parts info_byte
  obtain ⟨i1, gi, gz0, gz1, gz2⟩ := info_parts info_string
  go_enter Tryd.func29, Tryd.ntmps29
  go_wp2_with fail
  go_loopw [0, 3, 4] (fun vs vl vb wr => ∃ (t : ByteArray) (label : List Int) (labels : List (List Int)), vs = .string t ∧ Rowt wr w.heap.size vl labels ∧ Rowb wr w.heap.size vb label ∧ SplitAt s t label labels ∧ Below w.heap.size w wr) (fun vs _ _ _ => strLen vs)
  case atStart => exact ⟨s, [], [], rfl, World.ownsRow_nil _ _ _ _, World.ownsRow_nil _ _ _ _, split_start s, Below.refl _ _⟩
  case round =>
    obtain ⟨t, label, labels, rfl, hrt, hrb, hat, hbel⟩ := hrel
    by_cases h1 : 0 < t.size
    · have hlen : t.size ≤ 1020 := by have := hat.1; omega
      go_wp2_with fail
      refine (firstByte_any t _ h1 (by omega)).mono ?_
      rintro e w1 ⟨rfl, hd⟩
      have hrt1 := owns_drawn hrt hd
      have hrb1 : Rowb w1 w.heap.size _ label := owns_drawn hrb hd
      have hbel1 := hbel.trans (hd.below _)
      have hB := hbel1.size
      have R := split_round hat h1
      have hp := Nm.first_pos (Nm.bs t)
      have hle := first_le (Nm.bs t) (fun q => by have := bs_length t; rw [q] at this; simp at this; omega)
      have hb := first_byte (Nm.bs t) (bs_bound t)
      rw [bs_length] at hle
      clear hrt hrb hd hbel
      generalize hf : Nm.first (Nm.bs t) = p at *
      obtain ⟨c, k⟩ := p
      simp only at hp hle hb R
      obtain ⟨hb0, hb1⟩ := hb
      have hk : (k : Int) ≤ (t.size : Int) := by omega
      have hl1 : label.length ≤ 1020 := by have := hat.1; omega
      have hl2 : labels.length ≤ 1020 := by have := hat.2.1; omega
      have AT := hid hat
      clear hf hat
      by_cases hdot : (t[0].toNat : Int) = 46
      · have D : ((t[0].toNat : Int) == 46) = true := beq_iff_eq.2 hdot
        have R1 := hid (R.1 hdot)
        clear R hdot
        have hconv := rowb_conv hrb1
        rcases rowb_shape hrb1 with ⟨rfl, rfl⟩ | ⟨g, cap, rfl⟩
        · go_wp2_with (at_builtin; refine wpList_append_own _ rfl _ _ 22 rfl w.heap.size 9 i1 (.string ByteArray.empty) 1 16 Tryd.underlying22 gi gz0 gz1 gz2 rfl (by decide) _ _ _ rfl (World.ownsRow.alloc hrt1 _) ⟨_, 0, none⟩ 1 1 [.string (strOfNums [])] rfl rfl (cells_new _ [.string (strOfNums [])] 9) (one_string _) (by unfold maxLen; omega) (by omega) (by simp; omega) ?_)
          intro v' w2 hown' hgrow _
          have hrt2 : Rowt w2 w.heap.size v' (labels ++ [[]]) := Rowt.of hown' (by simp) (by simp)
          have hbel2 := grown_below hrt1 hbel1 hB (grown_alloc hgrow)
          clear hown' hgrow hconv
          go_wp2_with fail
          exact ⟨⟨_, [], labels ++ [[]], rfl, hrt2, World.ownsRow_nil _ _ _ _, R1.out, hbel2⟩, strLen_cut t k hp hle⟩
        · go_wp2_with (at_builtin; refine wpList_append_own _ rfl _ _ 22 rfl w.heap.size 9 i1 (.string ByteArray.empty) 1 16 Tryd.underlying22 gi gz0 gz1 gz2 rfl (by decide) _ _ _ rfl (World.ownsRow.alloc hrt1 _) ⟨_, 0, none⟩ 1 1 [.string (strOfNums label)] rfl rfl (cells_new _ [.string (strOfNums label)] 9) (one_string _) (by unfold maxLen; omega) (by omega) (by simp; omega) ?_)
          intro v' w2 hown' hgrow _
          have hrt2 : Rowt w2 w.heap.size v' (labels ++ [label]) := Rowt.of hown' (by simp) (by simp)
          have hbel2 := grown_below hrt1 hbel1 hB (grown_alloc hgrow)
          have hrb2 := rowb_cut (World.ownsRow.kept hrb1 (grown_alloc hgrow) (apart hrt1 hrb1).2)
          clear hown' hgrow hconv
          go_wp2_with fail
          exact ⟨⟨_, [], labels ++ [label], rfl, hrt2, hrb2, R1.out, hbel2⟩, strLen_cut t k hp hle⟩
      · have D : ((t[0].toNat : Int) == 46) = false := beq_eq_false_iff_ne.2 hdot
        have R1 := hid (R.2 hdot)
        clear R hdot
        have hown : World.ownsRow _ _ _ _ _ _ _ := hrb1
        go_wp2_with (at_builtin; refine wpList_append_own _ rfl _ _ 42 rfl w.heap.size 5 i0 (.int .u8 0) 1 1 Tryd.underlying42 hi hz0 hz1 hz2 rfl (by decide) _ _ _ rfl (hown.alloc _) ⟨_, 0, none⟩ 1 1 [.int .u8 c] rfl rfl (cells_new _ [.int .u8 c] 5) (one_cells [c]) (by unfold maxLen; omega) (by omega) (by simp; omega) ?_)
        intro v' w2 hown' hgrow _
        have hrb2 : Rowb w2 w.heap.size v' (label ++ [c]) := Rowb.of hown' (by simp) (by simp)
        have hbel2 := grown_below hrb1 hbel1 hB (grown_alloc hgrow)
        have hrt2 : Rowt w2 w.heap.size _ labels := World.ownsRow.kept hrt1 (grown_alloc hgrow) (apart hrt1 hrb1).1
        clear hown hown' hgrow
        go_wp2_with fail
        exact ⟨⟨_, label ++ [c], labels, rfl, hrt2, hrb2, R1.out, hbel2⟩, strLen_cut t k hp hle⟩
    · have E := hid (split_done hat (by omega))
      have L := hid hat.2.2.1
      have M := hid hat.2.1
      clear hat
      go_wp2_with fail
      go_ret
      refine ⟨_, rfl, ?_, ?_, by rw [← E.out]; have := M.out; omega, hbel⟩
      · rw [← E.out]; exact hrt
      · intro l hl
        rw [← E.out] at hl
        have := L.out l hl
        omega

end Go.Proofs.YtbngafofmgcngaaDoor
