/-
  The walk of the law NameChecks over its callees' contracts: for any two lists of labels in memory it hands back true, and writes nothing that was there, where what the library keeps of the type of errors lies where it was laid.
-/
import Derived.Test.YtbngafofmgcngaaDoorRefFault
namespace Go.Proofs.YtbngafofmgcngaaDoor
open Go.RowKit Go.Deep

/-- A slice of texts of the call's own. -/
def Rowq (w : World) (B : Nat) (v : Value) (ss : List ByteArray) : Prop := w.ownsRow B 9 1 v ss.length (ss.map Value.string)

theorem Rowq.of {w : World} {B n : Nat} {v : Value} {xs : List ByteArray} {ys : List Value} (h : w.ownsRow B 9 1 v n ys) (hn : n = xs.length) (hy : ys = xs.map Value.string) : Rowq w B v xs := by
  subst hn hy; exact h

theorem rowq_strs {w : World} {B : Nat} {v : Value} {ls : List ByteArray} (h : Rowq w B v ls) (h1 : ∀ s ∈ ls, s.size ≤ 140737488355328) (h2 : ls.length ≤ 8796093022208) :
    ∃ x c, v = .slice x ls.length c ∧ Strs w x c ls := by
  obtain ⟨_, h3⟩ := h
  rcases h3 with ⟨rfl, h4⟩ | ⟨g, cap, cur, rfl, _, hh, hn, _, hs, ht⟩
  · have : ls = [] := List.length_eq_zero_iff.1 h4
    subst this
    exact ⟨none, 0, rfl, Strs.empty w⟩
  · refine ⟨_, cap, rfl, hn, h2, h1, ?_⟩
    right
    have hlt : g < w.heap.size := by
      rcases Nat.lt_or_ge g w.heap.size with q | q
      · exact q
      · rw [Array.getElem?_eq_none q] at hh; simp at hh
    refine ⟨g, 0, rfl, hlt, fun i hi => ?_⟩
    rw [Nat.zero_add]
    simp only [World.cell?, hh]
    have e : (cur.toList.take (ls.length * 1))[i]? = (ls.map Value.string)[i]? := by rw [ht]
    rw [List.getElem?_take, if_pos (by omega), List.getElem?_map, List.getElem?_eq_getElem hi] at e
    simp [List.getD_eq_getElem?_getD, List.getElem?_eq_getElem hi]
    simpa using e

theorem one_text (s : ByteArray) : ∀ u ∈ [Value.string s], u.oneCell' = true := by
  intro u hu
  rw [List.mem_singleton.1 hu]; rfl

theorem want_next (a : List ByteArray) (k : Nat) (h : k < a.length) : (a.take k).map fS ++ [fS (a.getD k ByteArray.empty)] = (a.take (k + 1)).map fS := by
  rw [List.take_succ_eq_append_getElem h, List.map_append, List.getD_eq_getElem?_getD, List.getElem?_eq_getElem h]; rfl

theorem want_len (a : List ByteArray) (k : Nat) (h : k ≤ a.length) : ((a.take k).map fS).length = k := by
  rw [List.length_map, List.length_take]; omega

theorem want_all (a : List ByteArray) (k : Nat) (h : a.length ≤ k) : (a.take k).map fS = a.map fS := by rw [List.take_of_length_le h]

theorem two_new' (w : World) (s t : ByteArray) (hs : s.size ≤ 140737488355328) (ht : t.size ≤ 140737488355328) :
    Strs ((w.alloc (.cells #[.string s] 9)).alloc (.cells #[.string t] 9)) (some ⟨w.heap.size, 0, none⟩) 1 [s] ∧
    Strs ((w.alloc (.cells #[.string s] 9)).alloc (.cells #[.string t] 9)) (some ⟨w.heap.size + 1, 0, none⟩) 1 [t] ∧
    Below w.heap.size w ((w.alloc (.cells #[.string s] 9)).alloc (.cells #[.string t] 9)) := by
  refine ⟨Strs.one (by simp; omega) ?_ hs, Strs.one (by simp) ?_ ht, ((Below.refl _ _).alloc (Nat.le_refl _) _).alloc (by simp) _⟩
  · rw [World.cell?_alloc_past _ _ _ (by simp), World.cell?_alloc_at _ _ _ _ rfl]; rfl
  · rw [World.cell?_alloc_at _ _ _ _ (by simp)]; rfl

theorem then_drawn {B : Nat} {w w1 w2 : World} (h : Below B w w1) (k : Drawn w1 w2) : Below B w w2 := h.trans (k.below B)
theorem then_grown {w w1 w2 : World} (h : Below w.heap.size w w1) (k : Below w1.heap.size w1 w2) : Below w.heap.size w w2 := h.trans (k.mono h.size)

theorem owns_below {w w' : World} {B e n : Nat} {v : Value} {xs : List Value} (h : w.ownsRow B e 1 v n xs) (k : Below w.heap.size w w') : w'.ownsRow B e 1 v n xs := by
  have g : w.grownBy w' none := ⟨k.os, k.tape, k.output, k.size, fun j hj _ => k.block j hj⟩
  refine World.ownsRow.kept h g ?_
  cases v.ownBlock
  · exact Or.inl rfl
  · right; intro q; cases q

theorem rowq_below {w w1 w2 : World} {B : Nat} {v : Value} {xs : List ByteArray} (hr : Rowq w1 B v xs) (hb : Below B w w1) (hB : B ≤ w1.heap.size) (hg : w1.grownBy w2 v.ownBlock) : Below B w w2 :=
  hb.grown hg hB (fun k hk => (World.ownsRow.lt hr k hk).1)

set_option maxHeartbeats 2000000 in
theorem checks_walk (xa xb : Option Addr) (ca cb : Nat) (a b : List ByteArray) (w : World) (ha : Strs w xa ca a) (hb : Strs w xb cb b) (hg : Glob w) (la lb : Nat) (ja : a.length = la) (jb : b.length = lb) :
    Calls Tryd.prog 3 #[.slice xa la ca, .slice xb lb cb] w fun e w' => e = .returned (.bool true) ∧ Below w.heap.size w w' := by
  have hl : a.length ≤ 8796093022208 := ha.2.1
  obtain ⟨i1, gi, gz0, gz1, gz2⟩ := info_parts info_string
  obtain ⟨K, hK⟩ : ∃ r, Nm.checkN (a.map Nm.bs) = r := ⟨_, rfl⟩
  obtain ⟨C, hC⟩ : ∃ r, Nm.cN a b = r := ⟨_, rfl⟩
  obtain ⟨U, hU⟩ : ∃ r, Nm.under a b = r := ⟨_, rfl⟩
  have es : (Nm.cN a b == 0) = (C == 0) := by rw [hC]
  have HK := hid hK
  have HC := hid hC
  have HU := hid hU
  have ES := hid es
  have JA := hid ja
  have JB := hid jb
  have JF : Hid ((a.map fS).length = la) := by show _ = _; rw [List.length_map]; exact ja
  have hla : la ≤ 8796093022208 := by omega
  have hs := ha.2.2.1
  have HS := hid hs
  clear hK hC hU es ja jb hs hl
  go_enter Tryd.func3, Tryd.ntmps3
  go_wp2_with fail
  refine (check_at (errV K) a _ ha JA.out (by rw [HK.out])).mono ?_
  rintro e w1 ⟨rfl, rfl⟩
  go_wp2_with fail
  refine (fault_at K a _ ha JA.out HK.out).mono ?_
  rintro e w1 ⟨rfl, rfl⟩
  go_wp2_with fail
  refine (error_at K K _ _ hg rfl rfl).mono ?_
  rintro e w1 ⟨rfl, b1⟩
  go_wp2_with fail
  go_loopw [6, 7] (fun v i wr => ∃ k : Nat, k ≤ la ∧ i = .int .i64 (k : Int) ∧ Rowq wr w.heap.size v ((a.take k).map fS) ∧ Below w.heap.size w wr) (fun _ i _ => la - (intOf i).toNat)
  case atStart => exact ⟨0, Nat.zero_le _, rfl, World.ownsRow_nil _ _ _ _, b1⟩
  case round =>
    clear b1
    obtain ⟨k, hk, rfl, hrow, hbel⟩ := hrel
    have hB := hbel.size
    by_cases h1 : k < la
    · have h1' : k < a.length := by rw [JA.out]; exact h1
      have sA := (ha.below hbel)
      obtain ⟨_, _, sa, da⟩ := sA
      rcases da with da | ⟨ba, oa, rfl, _, qa⟩
      · rw [da] at h1'; simp at h1'
      have fa := qa k h1'
      have na := getD_mem_size sa k
      have E := hid (want_next a k h1')
      have L := hid (want_len a k (by omega))
      clear qa sa
      generalize a.getD k ByteArray.empty = s at *
      generalize (a.take k).map fS = xs at *
      have i2 : (k : Int) < (la : Int) := by omega
      go_wp2_with fail
      refine (folded_any s _ na).mono ?_
      rintro e w2 ⟨rfl, d2⟩
      have hrow2 : Rowq w2 w.heap.size _ xs := owns_below hrow d2
      have hbel2 := then_grown hbel d2
      have hB2 := hbel2.size
      have hown : World.ownsRow _ _ _ _ _ _ _ := hrow2
      have LX : xs.length ≤ 8796093022207 := by have := L.out; omega
      clear hrow hbel d2 hB fa na
      go_wp2_with (at_builtin; refine wpList_append_own _ rfl _ _ 22 rfl w.heap.size 9 i1 (.string ByteArray.empty) 1 16 Tryd.underlying22 gi gz0 gz1 gz2 rfl (by decide) _ _ _ rfl (hown.alloc _) ⟨_, 0, none⟩ 1 1 [.string (fS s)] rfl rfl (cells_new _ [.string (fS s)] 9) (one_text _) (by unfold maxLen; omega) (by omega) (by simp; omega) ?_)
      intro v' w3 hown' hgrow _
      have hrow3 : Rowq w3 w.heap.size v' (xs ++ [fS s]) := Rowq.of hown' (by simp) (by simp)
      have hbel3 := rowq_below hrow2 hbel2 hB2 (grown_alloc hgrow)
      rw [E.out] at hrow3
      clear hown hown' hgrow hrow2 hbel2
      go_wp2_with fail
      exact ⟨⟨k + 1, by omega, by go_num, hrow3, hbel3⟩, by simp [intOf]; omega⟩
    · rw [want_all a k (by have := JA.out; omega)] at hrow
      obtain ⟨y, q, rfl, hst⟩ := rowq_strs hrow (fun s hs => by
        obtain ⟨t, ht, rfl⟩ := List.mem_map.1 hs
        rw [fS_size]; exact HS.out t ht) (by rw [JF.out]; exact hla)
      have b2 := hbel
      rw [JF.out]
      clear hrow hbel hB
      go_wp2_with fail
      refine (fold_at a _ (ha.below b2) JA.out).mono ?_
      rintro e w3 ⟨g, rfl, sf, d3⟩
      have b3 := then_grown b2 d3
      have hst3 := hst.below d3
      clear d3 b2 hst
      go_wp2_with fail
      refine (texts_at true _ _ _ sf hst3 JF.out JF.out (by simp)).mono ?_
      rintro e w4 ⟨rfl, d4⟩
      have b4 := then_drawn b3 d4
      clear d4 b3 sf hst3
      go_wp2_with fail
      refine (names_at C a b _ (ha.below b4) (hb.below b4) JA.out JB.out HC.out).mono ?_
      rintro e w5 ⟨rfl, d5⟩
      have b5 := then_drawn b4 d5
      clear d5 b4
      go_wp2_with fail
      refine (compare_at 1 [⟨#[98]⟩] [⟨#[65]⟩] _ (two_new' w5 ⟨#[98]⟩ ⟨#[65]⟩ (by decide) (by decide)).1 (two_new' w5 ⟨#[98]⟩ ⟨#[65]⟩ (by decide) (by decide)).2.1 rfl rfl fact_one).mono ?_
      rintro e w6 ⟨rfl, d6⟩
      have b6 := then_drawn (then_grown b5 (two_new' w5 ⟨#[98]⟩ ⟨#[65]⟩ (by decide) (by decide)).2.2) d6
      clear d6 b5
      go_wp2_with fail
      refine (compare_at C a b _ (ha.below b6) (hb.below b6) JA.out JB.out HC.out).mono ?_
      rintro e w7 ⟨rfl, d7⟩
      have b7 := then_drawn b6 d7
      clear d7 b6
      go_wp2_with fail
      refine (same_at _ a b _ (ha.below b7) (hb.below b7) JA.out JB.out ES.out).mono ?_
      rintro e w8 ⟨rfl, d8⟩
      have b8 := then_drawn b7 d8
      clear d8 b7
      go_wp2_with fail
      refine (under_at U a b _ (ha.below b8) (hb.below b8) JA.out JB.out HU.out).mono ?_
      rintro e w9 ⟨rfl, d9⟩
      have b9 := then_drawn b8 d9
      clear d9 b8
      go_wp2_with fail
      refine (below_at U a b _ (ha.below b9) (hb.below b9) JA.out JB.out HU.out).mono ?_
      rintro e w10 ⟨rfl, d10⟩
      have b10 := then_drawn b9 d10
      clear d10 b9
      go_wp2_with fail
      go_ret
      exact ⟨rfl, b10⟩

end Go.Proofs.YtbngafofmgcngaaDoor
