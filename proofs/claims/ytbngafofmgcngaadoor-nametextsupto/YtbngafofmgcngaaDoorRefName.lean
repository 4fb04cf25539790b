/-
  The walk of the document's own NameOf: the name of a text, and whether there is one; it tells what the plain function readN tells. It makes its own memory, and writes nothing that was there.
-/
import Derived.Test.YtbngafofmgcngaaDoorRefByte
import Derived.Test.YtbngafofmgcngaaDoorRefFault
import Derived.Test.YtbngafofmgcngaaDoorSplitWalk
import Derived.Test.YtbngafofmgcngaaDoorRead
namespace Go.Proofs.YtbngafofmgcngaaDoor
open Go.RowKit Go.Deep

/-- What NameOf tells. -/
def NameTold (s : ByteArray) (w : World) (e : Ending) : Prop :=
  (∃ m x c, Nm.readN (Nm.bs s) = some m ∧ e = .returned (.tuple #[.slice x m.length c, .bool true]) ∧ Strs w x c (m.map strOfNums)) ∨
  (Nm.readN (Nm.bs s) = none ∧ ∃ v, e = .returned (.tuple #[v, .bool false]))

theorem rowt_strs2 {w : World} {B : Nat} {v : Value} {ls : List (List Int)} (h : Rowt w B v ls) (h1 : ∀ l ∈ ls, l.length ≤ 1048576) (h2 : ls.length ≤ 1048576) :
    ∃ x c, v = .slice x ls.length c ∧ Strs w x c (ls.map strOfNums) := by
  obtain ⟨_, h3⟩ := h
  rcases h3 with ⟨rfl, h4⟩ | ⟨g, cap, cur, rfl, _, hh, hn, _, hs, ht⟩
  · have : ls = [] := List.length_eq_zero_iff.1 h4
    subst this
    exact ⟨none, 0, rfl, Strs.empty w⟩
  · refine ⟨_, cap, rfl, by simpa using hn, by rw [List.length_map]; omega, ?_, ?_⟩
    · intro s hs
      obtain ⟨l, hl, rfl⟩ := List.mem_map.1 hs
      rw [strOfNums_size]
      have := h1 l hl
      omega
    · right
      have hlt : g < w.heap.size := by
        rcases Nat.lt_or_ge g w.heap.size with q | q
        · exact q
        · rw [Array.getElem?_eq_none q] at hh; simp at hh
      refine ⟨g, 0, rfl, hlt, fun i hi => ?_⟩
      rw [List.length_map] at hi
      rw [Nat.zero_add]
      simp only [World.cell?, hh]
      have e : (cur.toList.take (ls.length * 1))[i]? = (ls.map fun l => Value.string (strOfNums l))[i]? := by rw [ht]
      rw [List.getElem?_take, if_pos (by omega), List.getElem?_map, List.getElem?_eq_getElem hi] at e
      simp [List.getD_eq_getElem?_getD, List.getElem?_map, List.getElem?_eq_getElem hi]
      simpa using e

theorem read_bytes' {s : ByteArray} : ∀ m, Nm.readN (Nm.bs s) = some m → ∀ l ∈ m, ∀ x ∈ l, 0 ≤ x ∧ x ≤ 255 := by
  intro m h
  unfold Nm.readN at h
  split at h
  · obtain rfl := Option.some.inj h
    simp
  · split at h
    · simp at h
    · split at h
      · obtain rfl := Option.some.inj h
        exact splitN_bytes s
      · simp at h

/-- Where the reading of a text stands. -/
structure At (s : ByteArray) (p : Nat) (labels : List (List Int)) (label : List Int) : Prop where
  place : p ≤ s.size
  many : labels.length ≤ p
  long : label.length ≤ p
  each : ∀ l ∈ labels, l.length ≤ s.size
  met : Nm.Met (Nm.bs s) labels label ((Nm.bs s).drop p)

theorem at_start (s : ByteArray) : At s 0 [] [] := ⟨Nat.zero_le _, Nat.le_refl _, Nat.le_refl _, by simp, by rw [List.drop_zero]; exact Nm.met_start _⟩

theorem at_dot {s : ByteArray} {p : Nat} {labels : List (List Int)} {label : List Int} (h : At s p labels label) (hp : p < s.size) (hc : (s[p].toNat : Int) = 46) : At s (p + 1) (labels ++ [label]) [] := by
  have e := bs_cons s p hp
  rw [hc] at e
  refine ⟨by omega, by have := h.many; simp; omega, by simp, ?_, Nm.met_dot (by rw [← e]; exact h.met)⟩
  intro l hl
  rcases List.mem_append.1 hl with q | q
  · exact h.each l q
  · rw [List.mem_singleton.1 q]; have := h.long; omega

theorem at_byte {s : ByteArray} {p : Nat} {labels : List (List Int)} {label r : List Int} {b : Int} (h : At s p labels label) (hb : 0 ≤ b ∧ b ≤ 255) (he : (Nm.bs s).drop p = Nm.esc b ++ r) : At s (p + (Nm.esc b).length) labels (label ++ [b]) := by
  have l := congrArg List.length he
  rw [List.length_drop, bs_length, List.length_append] at l
  have le := Nm.esc_len b
  have hp := h.place
  have e2 : (Nm.bs s).drop (p + (Nm.esc b).length) = r := by rw [← List.drop_drop, he, List.drop_left]
  refine ⟨by omega, by have := h.many; omega, by have := h.long; simp; omega, h.each, Nm.met_byte (by rw [e2, ← he]; exact h.met) hb⟩

theorem at_none {s : ByteArray} {p : Nat} {labels : List (List Int)} {label : List Int} (h : At s p labels label) (hs : Nm.bs s ≠ [46]) (hp : p < s.size) (hc : ¬ (s[p].toNat : Int) = 46) (he : ∀ b, 0 ≤ b ∧ b ≤ 255 → ∀ r, (Nm.bs s).drop p ≠ Nm.esc b ++ r) : Nm.readN (Nm.bs s) = none := by
  have e := bs_cons s p hp
  refine Nm.met_none h.met hs (by rw [e]; simp) (fun r q => ?_) he read_bytes'
  rw [e] at q
  simp only [List.cons.injEq] at q
  exact hc q.1

theorem at_end {s : ByteArray} {p : Nat} {labels : List (List Int)} {label : List Int} (h : At s p labels label) (hp : s.size ≤ p) : Nm.Met (Nm.bs s) labels label [] := by
  have := h.met
  rwa [List.drop_of_length_le (by rw [bs_length]; exact hp)] at this

theorem met_nothing {s : List Int} (h : Nm.Met s [] [] []) : Nm.readN s = none := by
  have : s = [] := by rw [h.cut]; rfl
  rw [this]; exact Nm.read_nil

theorem owns_keep {w w' : World} {B e n : Nat} {v : Value} {xs : List Value} (h : w.ownsRow B e 1 v n xs) (k : Below w.heap.size w w') : w'.ownsRow B e 1 v n xs := by
  have g : w.grownBy w' none := ⟨k.os, k.tape, k.output, k.size, fun j hj _ => k.block j hj⟩
  refine World.ownsRow.kept h g ?_
  cases v.ownBlock
  · exact Or.inl rfl
  · right; intro q; cases q

set_option maxRecDepth 100000 in
set_option maxHeartbeats 1000000 in
theorem nameOf_any (s : ByteArray) (w : World) (hs : s.size ≤ 1048576) :
    Calls Tryd.prog 18 #[.string s] w fun e w' => NameTold s w' e ∧ Below w.heap.size w w' := by
  obtain ⟨i0, hi, hz0, hz1, hz2⟩ := info_parts info_byte
  obtain ⟨i1, gi, gz0, gz1, gz2⟩ := info_parts info_string
  have hd := dot_iff s
  by_cases a : Nm.bs s = [46]
  · rw [decide_eq_true a] at hd
    have R : Hid (Nm.readN (Nm.bs s) = some []) := by show _ = _; rw [a]; rfl
    clear a
    go_enter Tryd.func18, Tryd.ntmps18
    go_wp2_with fail
    go_ret2
    exact ⟨Or.inl ⟨[], none, 0, R.out, rfl, Strs.empty w⟩, Below.refl _ _⟩
  · rw [decide_eq_false a] at hd
    have NE := hid a
    clear a
    go_enter Tryd.func18, Tryd.ntmps18
    go_wp2_with fail
    go_loopw [4, 5, 6] (fun vo vl vp wr => ∃ (p : Nat) (labels : List (List Int)) (label : List Int), vp = .int .i64 (p : Int) ∧ Rowt wr w.heap.size vo labels ∧ Rowb wr w.heap.size vl label ∧ At s p labels label ∧ Below w.heap.size w wr) (fun _ _ vp _ => s.size - (intOf vp).toNat)
    case atStart => exact ⟨0, [], [], rfl, World.ownsRow_nil _ _ _ _, World.ownsRow_nil _ _ _ _, at_start s, Below.refl _ _⟩
    case round =>
      obtain ⟨p, labels, label, rfl, hrt, hrb, hat, hbel⟩ := hrel
      have hB := hbel.size
      have hp := hat.place
      have hl1 : label.length ≤ 1048576 := by have := hat.long; omega
      have hl2 : labels.length ≤ 1048576 := by have := hat.many; omega
      have AT := hid hat
      clear hat
      by_cases h1 : p < s.size
      · have j1 : (p : Int) < (s.size : Int) := by omega
        by_cases hdot : (s[p].toNat : Int) = 46
        · have D : ((s[p].toNat : Int) == 46) = true := beq_iff_eq.2 hdot
          have N := hid (at_dot AT.out h1 hdot)
          clear hdot
          have hconv := rowb_conv hrb
          go_wp2_with (at_builtin; refine wpList_append_own _ rfl _ _ 22 rfl w.heap.size 9 i1 (.string ByteArray.empty) 1 16 Tryd.underlying22 gi gz0 gz1 gz2 rfl (by decide) _ _ _ rfl (World.ownsRow.alloc hrt _) ⟨_, 0, none⟩ 1 1 [.string (strOfNums label)] rfl rfl (cells_new _ [.string (strOfNums label)] 9) (one_string _) (by unfold maxLen; omega) (by omega) (by simp; omega) ?_)
          intro v' w2 hown' hgrow _
          have hrt2 : Rowt w2 w.heap.size v' (labels ++ [label]) := Rowt.of hown' (by simp) (by simp)
          have hbel2 := grown_below hrt hbel hB (grown_alloc hgrow)
          clear hown' hgrow hconv
          go_wp2_with fail
          exact ⟨⟨p + 1, labels ++ [label], [], by go_num, hrt2, World.ownsRow_nil _ _ _ _, N.out, hbel2⟩, by simp [intOf]; omega⟩
        · have D : ((s[p].toNat : Int) == 46) = false := beq_eq_false_iff_ne.2 hdot
          have HD := hid hdot
          clear hdot
          go_wp2_with fail
          refine (byteOf_any s p _ hp hs).mono ?_
          rintro e w1 ⟨d1, told⟩
          rcases told with ⟨b, r, hb, he, rfl⟩ | ⟨rfl, hno⟩
          · have N := hid (at_byte AT.out hb he)
            have le := (Nm.esc_len b).1
            have le2 := (Nm.esc_len b).2
            clear he
            generalize (Nm.esc b).length = L at *
            obtain ⟨hb0, hb1⟩ := hb
            have hrt1 := owns_keep hrt d1
            have hrb1 : Rowb w1 w.heap.size _ label := owns_keep hrb d1
            have hbel1 := hbel.trans (d1.mono hbel.size)
            have hB1 := hbel1.size
            have hown : World.ownsRow _ _ _ _ _ _ _ := hrb1
            clear hrt hrb hbel d1 hB
            have j2 : ¬ (p : Int) + (L : Int) < 0 := by omega
            go_wp2_with (at_builtin; refine wpList_append_own _ rfl _ _ 42 rfl w.heap.size 5 i0 (.int .u8 0) 1 1 Tryd.underlying42 hi hz0 hz1 hz2 rfl (by decide) _ _ _ rfl (hown.alloc _) ⟨_, 0, none⟩ 1 1 [.int .u8 b] rfl rfl (cells_new _ [.int .u8 b] 5) (one_cells [b]) (by unfold maxLen; omega) (by omega) (by simp; omega) ?_)
            intro v' w2 hown' hgrow _
            have hrb2 : Rowb w2 w.heap.size v' (label ++ [b]) := Rowb.of hown' (by simp) (by simp)
            have hbel2 := grown_below hrb1 hbel1 hB1 (grown_alloc hgrow)
            have hrt2 : Rowt w2 w.heap.size _ labels := World.ownsRow.kept hrt1 (grown_alloc hgrow) (apart hrt1 hrb1).1
            clear hown hown' hgrow
            go_wp2_with fail
            exact ⟨⟨p + L, labels, label ++ [b], by go_num, hrt2, hrb2, N.out, hbel2⟩, by simp [intOf]; omega⟩
          · have N := hid (at_none AT.out NE.out h1 HD.out hno)
            clear hno
            go_wp2_with fail
            go_ret2
            exact ⟨Or.inr ⟨N.out, _, rfl⟩, hbel.trans (d1.mono hbel.size)⟩
      · have j1 : ¬ (p : Int) < (s.size : Int) := by omega
        have M := hid (at_end AT.out (by omega))
        have each : ∀ l ∈ labels, l.length ≤ 1048576 := fun l hl => by have := AT.out.each l hl; omega
        obtain ⟨x, c, rfl, hst⟩ := rowt_strs2 hrt each hl2
        clear each
        by_cases hlab : label = []
        · subst hlab
          by_cases hlb : labels = []
          · subst hlb
            have R := hid (met_nothing M.out)
            rcases rowb_shape hrb with ⟨rfl, _⟩ | ⟨g, cap, rfl⟩
            all_goals
              go_wp2_with fail
              go_ret2
              exact ⟨Or.inr ⟨R.out, _, rfl⟩, hbel⟩
          · have hpos : (0 : Int) < (labels.length : Int) := by
              have : labels.length ≠ 0 := fun q => hlb (List.length_eq_zero_iff.1 q)
              omega
            have W := Nm.met_whole M.out NE.out hlb
            have MB := hid (map_bs_of labels M.out.bytes)
            by_cases hK : Nm.checkN labels = 0
            · rw [if_pos hK] at W
              have R := hid W
              have HK := hid hK
              clear W hK hlb
              rcases rowb_shape hrb with ⟨rfl, _⟩ | ⟨g, cap, rfl⟩
              all_goals
                go_wp2_with fail
                refine (fault_at 0 (labels.map strOfNums) _ hst (by rw [List.length_map]) (by rw [MB.out]; exact HK.out)).mono ?_
                rintro e w1 ⟨rfl, rfl⟩
                go_wp2_with fail
                go_ret2
                exact ⟨Or.inl ⟨labels, x, c, R.out, rfl, hst⟩, hbel⟩
            · rw [if_neg hK] at W
              have R := hid W
              obtain ⟨K, hKe⟩ : ∃ K, Nm.checkN labels = K := ⟨_, rfl⟩
              rw [hKe] at hK
              have HK := hid hKe
              have hK2 : (K == 0) = false := beq_eq_false_iff_ne.2 hK
              clear W hK hlb hKe
              rcases rowb_shape hrb with ⟨rfl, _⟩ | ⟨g, cap, rfl⟩
              all_goals
                go_wp2_with fail
                refine (fault_at K (labels.map strOfNums) _ hst (by rw [List.length_map]) (by rw [MB.out]; exact HK.out)).mono ?_
                rintro e w1 ⟨rfl, rfl⟩
                go_wp2_with fail
                go_ret2
                exact ⟨Or.inr ⟨R.out, _, rfl⟩, hbel⟩
        · have R := hid (Nm.met_open M.out NE.out hlab read_bytes')
          have hne : ((label.length : Int) == 0) = false := by
            have : label.length ≠ 0 := fun q => hlab (List.length_eq_zero_iff.1 q)
            exact beq_eq_false_iff_ne.2 (by omega)
          rcases rowb_shape hrb with ⟨_, hq⟩ | ⟨g, cap, rfl⟩
          · exact absurd hq hlab
          · clear hlab
            go_wp2_with fail
            go_ret2
            exact ⟨Or.inr ⟨R.out, _, rfl⟩, hbel⟩

end Go.Proofs.YtbngafofmgcngaaDoor
