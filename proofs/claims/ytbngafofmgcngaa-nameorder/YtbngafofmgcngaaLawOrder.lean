/-
  The walk of the law NameOrder over its callees' contracts: for any three lists of labels in memory it hands back true, and writes nothing that was there.
-/
import Derived.Test.YtbngafofmgcngaaAt
namespace Go.Proofs.Ytbngafofmgcngaa
open Go.RowKit Go.Deep

/-- Which ways there are: of two names, and of a third one. -/
def Ways (ab ba bc ac : Int) (up down ubc uac : Bool) : Prop :=
  ((ab = -1 ∧ ba = 1 ∧ up = false) ∨ (ab = 0 ∧ ba = 0 ∧ up = true ∧ down = true) ∨ (ab = 1 ∧ ba = -1 ∧ up = false) ∨ (ab = 1 ∧ ba = -1 ∧ up = true ∧ down = false)) ∧
    (0 < ab ∨ 0 < bc ∨ (bc ≤ 0 ∧ ac ≤ 0)) ∧ (up = false ∨ ubc = false ∨ (ubc = true ∧ uac = true))

theorem ways (a b c : List ByteArray) : Ways (Nm.cN a b) (Nm.cN b a) (Nm.cN b c) (Nm.cN a c) (Nm.under a b) (Nm.under b a) (Nm.under b c) (Nm.under a c) := by
  have t := Nm.cN_row.turn a b
  have bd := Nm.cN_row.bounds a b
  have ch := Nm.cN_row.chain a b c
  have u1 := Nm.under_ahead a b
  have u2 := Nm.under_both a b
  have u3 := Nm.under_chain a b c
  generalize Nm.cN a b = ab at *
  generalize Nm.cN b a = ba at *
  generalize Nm.cN b c = bc at *
  generalize Nm.cN a c = ac at *
  generalize Nm.under a b = up at *
  generalize Nm.under b a = down at *
  generalize Nm.under b c = ubc at *
  generalize Nm.under a c = uac at *
  refine ⟨?_, ?_, ?_⟩
  · rcases (show ab = -1 ∨ ab = 0 ∨ ab = 1 by omega) with h | h | h
    · subst h
      left
      refine ⟨rfl, by omega, ?_⟩
      cases up
      · rfl
      · have := u1 rfl; omega
    · subst h
      right; left
      have : (up && down) = true := by rw [u2]; rfl
      rw [Bool.and_eq_true] at this
      exact ⟨rfl, by omega, this.1, this.2⟩
    · subst h
      right; right
      cases up
      · left; exact ⟨rfl, by omega, rfl⟩
      · right
        refine ⟨rfl, by omega, rfl, ?_⟩
        rw [Bool.true_and] at u2; rw [u2]; rfl
  · rcases Int.lt_or_le 0 ab with h | h
    · exact Or.inl h
    · rcases Int.lt_or_le 0 bc with k | k
      · exact Or.inr (Or.inl k)
      · exact Or.inr (Or.inr ⟨k, ch h k⟩)
  · cases up
    · exact Or.inl rfl
    · cases ubc
      · exact Or.inr (Or.inl rfl)
      · exact Or.inr (Or.inr ⟨rfl, u3 rfl rfl⟩)

theorem below_drawn {B : Nat} {w w1 w2 : World} (h : Below B w w1) (k : Drawn w1 w2) : Below B w w2 := h.trans (k.below B)
theorem below_grown {w w1 w2 : World} (h : Below w.heap.size w w1) (k : Below w1.heap.size w1 w2) : Below w.heap.size w w2 := h.trans (k.mono h.size)

theorem two_new (w : World) (s t : ByteArray) (hs : s.size ≤ 140737488355328) (ht : t.size ≤ 140737488355328) :
    Strs ((w.alloc (.cells #[.string s] 9)).alloc (.cells #[.string t] 9)) (some ⟨w.heap.size, 0, none⟩) 1 [s] ∧
    Strs ((w.alloc (.cells #[.string s] 9)).alloc (.cells #[.string t] 9)) (some ⟨w.heap.size + 1, 0, none⟩) 1 [t] ∧
    Below w.heap.size w ((w.alloc (.cells #[.string s] 9)).alloc (.cells #[.string t] 9)) := by
  refine ⟨Strs.one (by simp; omega) ?_ hs, Strs.one (by simp) ?_ ht, ((Below.refl _ _).alloc (Nat.le_refl _) _).alloc (by simp) _⟩
  · rw [World.cell?_alloc_past _ _ _ (by simp), World.cell?_alloc_at _ _ _ _ rfl]; rfl
  · rw [World.cell?_alloc_at _ _ _ _ (by simp)]; rfl

set_option maxHeartbeats 4000000 in
theorem order_walk (xa xb xc : Option Addr) (ca cb cc : Nat) (a b c : List ByteArray) (w : World) (ha : Strs w xa ca a) (hb : Strs w xb cb b) (hc : Strs w xc cc c)
    (la lb lc : Nat) (ja : a.length = la) (jb : b.length = lb) (jc : c.length = lc) :
    Calls Try.prog 4 #[.slice xa la ca, .slice xb lb cb, .slice xc lc cc] w fun e w' => e = .returned (.bool true) ∧ Below w.heap.size w w' := by
  have hw := ways a b c
  have eq1 : Hid (decide (a.map fS = b.map fS) = (Nm.cN a b == 0)) := map_fS_iff a b
  have JA := hid ja
  have JB := hid jb
  have JC := hid jc
  have JF : Hid ((a.map fS).length = la) := by show _ = _; rw [List.length_map]; exact ja
  have JG : Hid (((a.map fS).map fS).length = la) := by show _ = _; rw [List.length_map, List.length_map]; exact ja
  have JH : Hid ((b.map fS).length = lb) := by show _ = _; rw [List.length_map]; exact jb
  clear ja jb jc
  obtain ⟨ab, hab⟩ : ∃ r, Nm.cN a b = r := ⟨_, rfl⟩
  obtain ⟨ba, hba⟩ : ∃ r, Nm.cN b a = r := ⟨_, rfl⟩
  obtain ⟨bc, hbc⟩ : ∃ r, Nm.cN b c = r := ⟨_, rfl⟩
  obtain ⟨ac, hac⟩ : ∃ r, Nm.cN a c = r := ⟨_, rfl⟩
  obtain ⟨up, hup⟩ : ∃ r, Nm.under a b = r := ⟨_, rfl⟩
  obtain ⟨down, hdown⟩ : ∃ r, Nm.under b a = r := ⟨_, rfl⟩
  obtain ⟨ubc, hubc⟩ : ∃ r, Nm.under b c = r := ⟨_, rfl⟩
  obtain ⟨uac, huac⟩ : ∃ r, Nm.under a c = r := ⟨_, rfl⟩
  rw [hab, hba, hbc, hac, hup, hdown, hubc, huac] at hw
  rw [hab] at eq1
  have HAB := hid hab
  have HBA := hid hba
  have HBC := hid hbc
  have HAC := hid hac
  have HUP := hid hup
  have HDN := hid hdown
  have HUB := hid hubc
  have HUA := hid huac
  clear hab hba hbc hac hup hdown hubc huac
  obtain ⟨h1, h2, h3⟩ := hw
  have es : (Nm.cN a b == 0) = (ab == 0) := by rw [HAB.out]
  have ES := hid es
  clear es
  rcases h1 with ⟨rfl, rfl, rfl⟩ | ⟨rfl, rfl, rfl, rfl⟩ | ⟨rfl, rfl, rfl⟩ | ⟨rfl, rfl, rfl, rfl⟩
  · clear h3
    rcases h2 with h2 | h2 | ⟨h2, h2'⟩
    · omega
    all_goals
      go_enter Try.func4, Try.ntmps4
      go_wp2_with fail
      refine (compare_at 1 [⟨#[98]⟩] [⟨#[65]⟩] _ (two_new w ⟨#[98]⟩ ⟨#[65]⟩ (by decide) (by decide)).1 (two_new w ⟨#[98]⟩ ⟨#[65]⟩ (by decide) (by decide)).2.1 rfl rfl fact_one).mono ?_
      rintro e w1 ⟨rfl, d1⟩
      have b1 := below_drawn (two_new w ⟨#[98]⟩ ⟨#[65]⟩ (by decide) (by decide)).2.2 d1
      clear d1
      go_wp2_with fail
      refine (compare_at _ a b _ (ha.below b1) (hb.below b1) JA.out JB.out HAB.out).mono ?_
      rintro e w2 ⟨rfl, d1⟩
      have b2 := below_drawn b1 d1
      clear d1 b1
      go_wp2_with fail
      refine (compare_at _ b a _ (hb.below b2) (ha.below b2) JB.out JA.out HBA.out).mono ?_
      rintro e w3 ⟨rfl, d1⟩
      have b3 := below_drawn b2 d1
      clear d1 b2
      go_wp2_with fail
      refine (compare_at _ b c _ (hb.below b3) (hc.below b3) JB.out JC.out HBC.out).mono ?_
      rintro e w4 ⟨rfl, d1⟩
      have b4 := below_drawn b3 d1
      clear d1 b3
      go_wp2_with fail
      refine (compare_at _ a c _ (ha.below b4) (hc.below b4) JA.out JC.out HAC.out).mono ?_
      rintro e w5 ⟨rfl, d1⟩
      have b5 := below_drawn b4 d1
      clear d1 b4
      go_wp2_with fail
      refine (fold_at a _ (ha.below b5) JA.out).mono ?_
      rintro e w6 ⟨g, rfl, sf, d1⟩
      have b6 := below_grown b5 d1
      clear d1 b5
      go_wp2_with fail
      refine (fold_at (a.map fS) _ sf JF.out).mono ?_
      rintro e w7 ⟨g2, rfl, sg, d1⟩
      have b7 := below_grown b6 d1
      have sf7 := sf.below d1
      clear d1 b6 sf
      go_wp2_with fail
      refine (texts_at true _ _ _ sg sf7 JG.out JF.out (map_fS_twice a)).mono ?_
      rintro e w8 ⟨rfl, d1⟩
      have b8 := below_drawn b7 d1
      have sf8 := sf7.drawn d1
      clear d1 b7 sf7 sg
      go_wp2_with fail
      refine (fold_at b _ (hb.below b8) JB.out).mono ?_
      rintro e w9 ⟨g3, rfl, sh, d1⟩
      have b9 := below_grown b8 d1
      have sf9 := sf8.below d1
      clear d1 b8 sf8
      go_wp2_with fail
      refine (texts_at _ _ _ _ sf9 sh JF.out JH.out eq1.out).mono ?_
      rintro e w10 ⟨rfl, d1⟩
      have b10 := below_drawn b9 d1
      have sf10 := sf9.drawn d1
      clear d1 b9 sf9 sh
      go_wp2_with fail
      refine (compare_at 0 (a.map fS) a _ sf10 (ha.below b10) JF.out JA.out (cN_fold a)).mono ?_
      rintro e w11 ⟨rfl, d1⟩
      have b11 := below_drawn b10 d1
      clear d1 b10 sf10
      go_wp2_with fail
      refine (same_at _ a b _ (ha.below b11) (hb.below b11) JA.out JB.out ES.out).mono ?_
      rintro e w12 ⟨rfl, d1⟩
      have b12 := below_drawn b11 d1
      clear d1 b11
      go_wp2_with fail
      refine (under_at _ a b _ (ha.below b12) (hb.below b12) JA.out JB.out HUP.out).mono ?_
      rintro e w13 ⟨rfl, d1⟩
      have b13 := below_drawn b12 d1
      clear d1 b12
      go_wp2_with fail
      refine (under_at _ b a _ (hb.below b13) (ha.below b13) JB.out JA.out HDN.out).mono ?_
      rintro e w14 ⟨rfl, d1⟩
      have b14 := below_drawn b13 d1
      clear d1 b13
      go_wp2_with fail
      refine (under_at true a a _ (ha.below b14) (ha.below b14) JA.out JA.out (Nm.under_self a)).mono ?_
      rintro e w15 ⟨rfl, d1⟩
      have b15 := below_drawn b14 d1
      clear d1 b14
      go_wp2_with fail
      refine (under_at true a [] _ (ha.below b15) (Strs.empty _) JA.out rfl (Nm.under_nil a)).mono ?_
      rintro e w16 ⟨rfl, d1⟩
      have b16 := below_drawn b15 d1
      clear d1 b15
      go_wp2_with fail
      go_ret
      exact ⟨rfl, b16⟩
  · rcases h2 with h2 | h2 | ⟨h2, h2'⟩
    · omega
    all_goals
      rcases h3 with h3 | rfl | ⟨rfl, rfl⟩
      · simp at h3
      all_goals
        go_enter Try.func4, Try.ntmps4
        go_wp2_with fail
        refine (compare_at 1 [⟨#[98]⟩] [⟨#[65]⟩] _ (two_new w ⟨#[98]⟩ ⟨#[65]⟩ (by decide) (by decide)).1 (two_new w ⟨#[98]⟩ ⟨#[65]⟩ (by decide) (by decide)).2.1 rfl rfl fact_one).mono ?_
        rintro e w1 ⟨rfl, d1⟩
        have b1 := below_drawn (two_new w ⟨#[98]⟩ ⟨#[65]⟩ (by decide) (by decide)).2.2 d1
        clear d1
        go_wp2_with fail
        refine (compare_at _ a b _ (ha.below b1) (hb.below b1) JA.out JB.out HAB.out).mono ?_
        rintro e w2 ⟨rfl, d1⟩
        have b2 := below_drawn b1 d1
        clear d1 b1
        go_wp2_with fail
        refine (compare_at _ b a _ (hb.below b2) (ha.below b2) JB.out JA.out HBA.out).mono ?_
        rintro e w3 ⟨rfl, d1⟩
        have b3 := below_drawn b2 d1
        clear d1 b2
        go_wp2_with fail
        refine (compare_at _ b c _ (hb.below b3) (hc.below b3) JB.out JC.out HBC.out).mono ?_
        rintro e w4 ⟨rfl, d1⟩
        have b4 := below_drawn b3 d1
        clear d1 b3
        go_wp2_with fail
        refine (compare_at _ a c _ (ha.below b4) (hc.below b4) JA.out JC.out HAC.out).mono ?_
        rintro e w5 ⟨rfl, d1⟩
        have b5 := below_drawn b4 d1
        clear d1 b4
        go_wp2_with fail
        refine (fold_at a _ (ha.below b5) JA.out).mono ?_
        rintro e w6 ⟨g, rfl, sf, d1⟩
        have b6 := below_grown b5 d1
        clear d1 b5
        go_wp2_with fail
        refine (fold_at (a.map fS) _ sf JF.out).mono ?_
        rintro e w7 ⟨g2, rfl, sg, d1⟩
        have b7 := below_grown b6 d1
        have sf7 := sf.below d1
        clear d1 b6 sf
        go_wp2_with fail
        refine (texts_at true _ _ _ sg sf7 JG.out JF.out (map_fS_twice a)).mono ?_
        rintro e w8 ⟨rfl, d1⟩
        have b8 := below_drawn b7 d1
        have sf8 := sf7.drawn d1
        clear d1 b7 sf7 sg
        go_wp2_with fail
        refine (fold_at b _ (hb.below b8) JB.out).mono ?_
        rintro e w9 ⟨g3, rfl, sh, d1⟩
        have b9 := below_grown b8 d1
        have sf9 := sf8.below d1
        clear d1 b8 sf8
        go_wp2_with fail
        refine (texts_at _ _ _ _ sf9 sh JF.out JH.out eq1.out).mono ?_
        rintro e w10 ⟨rfl, d1⟩
        have b10 := below_drawn b9 d1
        have sf10 := sf9.drawn d1
        clear d1 b9 sf9 sh
        go_wp2_with fail
        refine (compare_at 0 (a.map fS) a _ sf10 (ha.below b10) JF.out JA.out (cN_fold a)).mono ?_
        rintro e w11 ⟨rfl, d1⟩
        have b11 := below_drawn b10 d1
        clear d1 b10 sf10
        go_wp2_with fail
        refine (same_at _ a b _ (ha.below b11) (hb.below b11) JA.out JB.out ES.out).mono ?_
        rintro e w12 ⟨rfl, d1⟩
        have b12 := below_drawn b11 d1
        clear d1 b11
        go_wp2_with fail
        refine (under_at _ a b _ (ha.below b12) (hb.below b12) JA.out JB.out HUP.out).mono ?_
        rintro e w13 ⟨rfl, d1⟩
        have b13 := below_drawn b12 d1
        clear d1 b12
        go_wp2_with fail
        refine (under_at _ b a _ (hb.below b13) (ha.below b13) JB.out JA.out HDN.out).mono ?_
        rintro e w14 ⟨rfl, d1⟩
        have b14 := below_drawn b13 d1
        clear d1 b13
        go_wp2_with fail
        refine (under_at true a a _ (ha.below b14) (ha.below b14) JA.out JA.out (Nm.under_self a)).mono ?_
        rintro e w15 ⟨rfl, d1⟩
        have b15 := below_drawn b14 d1
        clear d1 b14
        go_wp2_with fail
        refine (under_at true a [] _ (ha.below b15) (Strs.empty _) JA.out rfl (Nm.under_nil a)).mono ?_
        rintro e w16 ⟨rfl, d1⟩
        have b16 := below_drawn b15 d1
        clear d1 b15
        go_wp2_with fail
        refine (under_at _ b c _ (hb.below b16) (hc.below b16) JB.out JC.out HUB.out).mono ?_
        rintro e w17 ⟨rfl, d1⟩
        have b17 := below_drawn b16 d1
        clear d1 b16
        go_wp2_with fail
        first
          | (go_ret; exact ⟨rfl, b17⟩)
          | (refine (under_at _ a c _ (ha.below b17) (hc.below b17) JA.out JC.out HUA.out).mono ?_
             rintro e w18 ⟨rfl, d1⟩
             have b18 := below_drawn b17 d1
             clear d1 b17
             go_wp2_with fail
             go_ret
             exact ⟨rfl, b18⟩)
  · clear h2 h3
    go_enter Try.func4, Try.ntmps4
    go_wp2_with fail
    refine (compare_at 1 [⟨#[98]⟩] [⟨#[65]⟩] _ (two_new w ⟨#[98]⟩ ⟨#[65]⟩ (by decide) (by decide)).1 (two_new w ⟨#[98]⟩ ⟨#[65]⟩ (by decide) (by decide)).2.1 rfl rfl fact_one).mono ?_
    rintro e w1 ⟨rfl, d1⟩
    have b1 := below_drawn (two_new w ⟨#[98]⟩ ⟨#[65]⟩ (by decide) (by decide)).2.2 d1
    clear d1
    go_wp2_with fail
    refine (compare_at _ a b _ (ha.below b1) (hb.below b1) JA.out JB.out HAB.out).mono ?_
    rintro e w2 ⟨rfl, d1⟩
    have b2 := below_drawn b1 d1
    clear d1 b1
    go_wp2_with fail
    refine (compare_at _ b a _ (hb.below b2) (ha.below b2) JB.out JA.out HBA.out).mono ?_
    rintro e w3 ⟨rfl, d1⟩
    have b3 := below_drawn b2 d1
    clear d1 b2
    go_wp2_with fail
    refine (compare_at _ b c _ (hb.below b3) (hc.below b3) JB.out JC.out HBC.out).mono ?_
    rintro e w4 ⟨rfl, d1⟩
    have b4 := below_drawn b3 d1
    clear d1 b3
    go_wp2_with fail
    refine (compare_at _ a c _ (ha.below b4) (hc.below b4) JA.out JC.out HAC.out).mono ?_
    rintro e w5 ⟨rfl, d1⟩
    have b5 := below_drawn b4 d1
    clear d1 b4
    go_wp2_with fail
    refine (fold_at a _ (ha.below b5) JA.out).mono ?_
    rintro e w6 ⟨g, rfl, sf, d1⟩
    have b6 := below_grown b5 d1
    clear d1 b5
    go_wp2_with fail
    refine (fold_at (a.map fS) _ sf JF.out).mono ?_
    rintro e w7 ⟨g2, rfl, sg, d1⟩
    have b7 := below_grown b6 d1
    have sf7 := sf.below d1
    clear d1 b6 sf
    go_wp2_with fail
    refine (texts_at true _ _ _ sg sf7 JG.out JF.out (map_fS_twice a)).mono ?_
    rintro e w8 ⟨rfl, d1⟩
    have b8 := below_drawn b7 d1
    have sf8 := sf7.drawn d1
    clear d1 b7 sf7 sg
    go_wp2_with fail
    refine (fold_at b _ (hb.below b8) JB.out).mono ?_
    rintro e w9 ⟨g3, rfl, sh, d1⟩
    have b9 := below_grown b8 d1
    have sf9 := sf8.below d1
    clear d1 b8 sf8
    go_wp2_with fail
    refine (texts_at _ _ _ _ sf9 sh JF.out JH.out eq1.out).mono ?_
    rintro e w10 ⟨rfl, d1⟩
    have b10 := below_drawn b9 d1
    have sf10 := sf9.drawn d1
    clear d1 b9 sf9 sh
    go_wp2_with fail
    refine (compare_at 0 (a.map fS) a _ sf10 (ha.below b10) JF.out JA.out (cN_fold a)).mono ?_
    rintro e w11 ⟨rfl, d1⟩
    have b11 := below_drawn b10 d1
    clear d1 b10 sf10
    go_wp2_with fail
    refine (same_at _ a b _ (ha.below b11) (hb.below b11) JA.out JB.out ES.out).mono ?_
    rintro e w12 ⟨rfl, d1⟩
    have b12 := below_drawn b11 d1
    clear d1 b11
    go_wp2_with fail
    refine (under_at _ a b _ (ha.below b12) (hb.below b12) JA.out JB.out HUP.out).mono ?_
    rintro e w13 ⟨rfl, d1⟩
    have b13 := below_drawn b12 d1
    clear d1 b12
    go_wp2_with fail
    refine (under_at _ b a _ (hb.below b13) (ha.below b13) JB.out JA.out HDN.out).mono ?_
    rintro e w14 ⟨rfl, d1⟩
    have b14 := below_drawn b13 d1
    clear d1 b13
    go_wp2_with fail
    refine (under_at true a a _ (ha.below b14) (ha.below b14) JA.out JA.out (Nm.under_self a)).mono ?_
    rintro e w15 ⟨rfl, d1⟩
    have b15 := below_drawn b14 d1
    clear d1 b14
    go_wp2_with fail
    refine (under_at true a [] _ (ha.below b15) (Strs.empty _) JA.out rfl (Nm.under_nil a)).mono ?_
    rintro e w16 ⟨rfl, d1⟩
    have b16 := below_drawn b15 d1
    clear d1 b15
    go_wp2_with fail
    go_ret
    exact ⟨rfl, b16⟩
  · clear h2
    rcases h3 with h3 | rfl | ⟨rfl, rfl⟩
    · simp at h3
    all_goals
      go_enter Try.func4, Try.ntmps4
      go_wp2_with fail
      refine (compare_at 1 [⟨#[98]⟩] [⟨#[65]⟩] _ (two_new w ⟨#[98]⟩ ⟨#[65]⟩ (by decide) (by decide)).1 (two_new w ⟨#[98]⟩ ⟨#[65]⟩ (by decide) (by decide)).2.1 rfl rfl fact_one).mono ?_
      rintro e w1 ⟨rfl, d1⟩
      have b1 := below_drawn (two_new w ⟨#[98]⟩ ⟨#[65]⟩ (by decide) (by decide)).2.2 d1
      clear d1
      go_wp2_with fail
      refine (compare_at _ a b _ (ha.below b1) (hb.below b1) JA.out JB.out HAB.out).mono ?_
      rintro e w2 ⟨rfl, d1⟩
      have b2 := below_drawn b1 d1
      clear d1 b1
      go_wp2_with fail
      refine (compare_at _ b a _ (hb.below b2) (ha.below b2) JB.out JA.out HBA.out).mono ?_
      rintro e w3 ⟨rfl, d1⟩
      have b3 := below_drawn b2 d1
      clear d1 b2
      go_wp2_with fail
      refine (compare_at _ b c _ (hb.below b3) (hc.below b3) JB.out JC.out HBC.out).mono ?_
      rintro e w4 ⟨rfl, d1⟩
      have b4 := below_drawn b3 d1
      clear d1 b3
      go_wp2_with fail
      refine (compare_at _ a c _ (ha.below b4) (hc.below b4) JA.out JC.out HAC.out).mono ?_
      rintro e w5 ⟨rfl, d1⟩
      have b5 := below_drawn b4 d1
      clear d1 b4
      go_wp2_with fail
      refine (fold_at a _ (ha.below b5) JA.out).mono ?_
      rintro e w6 ⟨g, rfl, sf, d1⟩
      have b6 := below_grown b5 d1
      clear d1 b5
      go_wp2_with fail
      refine (fold_at (a.map fS) _ sf JF.out).mono ?_
      rintro e w7 ⟨g2, rfl, sg, d1⟩
      have b7 := below_grown b6 d1
      have sf7 := sf.below d1
      clear d1 b6 sf
      go_wp2_with fail
      refine (texts_at true _ _ _ sg sf7 JG.out JF.out (map_fS_twice a)).mono ?_
      rintro e w8 ⟨rfl, d1⟩
      have b8 := below_drawn b7 d1
      have sf8 := sf7.drawn d1
      clear d1 b7 sf7 sg
      go_wp2_with fail
      refine (fold_at b _ (hb.below b8) JB.out).mono ?_
      rintro e w9 ⟨g3, rfl, sh, d1⟩
      have b9 := below_grown b8 d1
      have sf9 := sf8.below d1
      clear d1 b8 sf8
      go_wp2_with fail
      refine (texts_at _ _ _ _ sf9 sh JF.out JH.out eq1.out).mono ?_
      rintro e w10 ⟨rfl, d1⟩
      have b10 := below_drawn b9 d1
      have sf10 := sf9.drawn d1
      clear d1 b9 sf9 sh
      go_wp2_with fail
      refine (compare_at 0 (a.map fS) a _ sf10 (ha.below b10) JF.out JA.out (cN_fold a)).mono ?_
      rintro e w11 ⟨rfl, d1⟩
      have b11 := below_drawn b10 d1
      clear d1 b10 sf10
      go_wp2_with fail
      refine (same_at _ a b _ (ha.below b11) (hb.below b11) JA.out JB.out ES.out).mono ?_
      rintro e w12 ⟨rfl, d1⟩
      have b12 := below_drawn b11 d1
      clear d1 b11
      go_wp2_with fail
      refine (under_at _ a b _ (ha.below b12) (hb.below b12) JA.out JB.out HUP.out).mono ?_
      rintro e w13 ⟨rfl, d1⟩
      have b13 := below_drawn b12 d1
      clear d1 b12
      go_wp2_with fail
      refine (under_at _ b a _ (hb.below b13) (ha.below b13) JB.out JA.out HDN.out).mono ?_
      rintro e w14 ⟨rfl, d1⟩
      have b14 := below_drawn b13 d1
      clear d1 b13
      go_wp2_with fail
      refine (under_at true a a _ (ha.below b14) (ha.below b14) JA.out JA.out (Nm.under_self a)).mono ?_
      rintro e w15 ⟨rfl, d1⟩
      have b15 := below_drawn b14 d1
      clear d1 b14
      go_wp2_with fail
      refine (under_at true a [] _ (ha.below b15) (Strs.empty _) JA.out rfl (Nm.under_nil a)).mono ?_
      rintro e w16 ⟨rfl, d1⟩
      have b16 := below_drawn b15 d1
      clear d1 b15
      go_wp2_with fail
      refine (under_at _ b c _ (hb.below b16) (hc.below b16) JB.out JC.out HUB.out).mono ?_
      rintro e w17 ⟨rfl, d1⟩
      have b17 := below_drawn b16 d1
      clear d1 b16
      go_wp2_with fail
      first
        | (go_ret; exact ⟨rfl, b17⟩)
        | (refine (under_at _ a c _ (ha.below b17) (hc.below b17) JA.out JC.out HUA.out).mono ?_
           rintro e w18 ⟨rfl, d1⟩
           have b18 := below_drawn b17 d1
           clear d1 b17
           go_wp2_with fail
           go_ret
           exact ⟨rfl, b18⟩)

end Go.Proofs.Ytbngafofmgcngaa
