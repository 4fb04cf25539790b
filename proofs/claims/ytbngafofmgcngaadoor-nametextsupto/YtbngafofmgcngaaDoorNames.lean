/-
  The walks of Compare, Same and Under over lists of labels that lie in memory: each only reads; what they hand back is what the plain functions cN and under tell.
-/
import Derived.Test.YtbngafofmgcngaaDoorLabels
namespace Go.Proofs.YtbngafofmgcngaaDoor
open Go.RowKit

/-- A slice leads to these labels. -/
def Strs (w : World) (x : Option Addr) (c : Nat) (ss : List ByteArray) : Prop :=
  ss.length ≤ c ∧ ss.length ≤ 8796093022208 ∧ (∀ s ∈ ss, s.size ≤ 140737488355328) ∧
    (ss = [] ∨ ∃ b off, x = some ⟨b, off, none⟩ ∧ b < w.heap.size ∧ ∀ i, i < ss.length → w.cell? ⟨b, off + i, none⟩ = some (.string (ss.getD i ByteArray.empty)))

theorem Strs.below {w w' : World} {x : Option Addr} {c : Nat} {ss : List ByteArray} (h : Strs w x c ss) (k : Below w.heap.size w w') : Strs w' x c ss := by
  obtain ⟨h1, h2, h3, h4⟩ := h
  refine ⟨h1, h2, h3, ?_⟩
  rcases h4 with h4 | ⟨b, off, hx, hb, hc⟩
  · exact Or.inl h4
  · exact Or.inr ⟨b, off, hx, Nat.lt_of_lt_of_le hb k.size, fun i hi => by rw [k.cell (p := ⟨b, off + i, none⟩) hb]; exact hc i hi⟩

theorem Strs.drawn {w w' : World} {x : Option Addr} {c : Nat} {ss : List ByteArray} (h : Strs w x c ss) (k : Drawn w w') : Strs w' x c ss := h.below (k.below _)

def AlikeN (a b : List ByteArray) (k : Nat) : Prop := Nm.cN a b = Nm.lex Nm.cL (a.reverse.drop k) (b.reverse.drop k)

theorem alikeN_zero (a b : List ByteArray) : AlikeN a b 0 := rfl

theorem rev_get (a : List ByteArray) (k : Nat) (h : k < a.length) (h' : k < a.reverse.length) : a.reverse[k] = a.getD (a.length - (k + 1)) ByteArray.empty := by
  rw [List.getElem_reverse, List.getD_eq_getElem?_getD, List.getElem?_eq_getElem (by omega)]
  simp only [Option.getD_some]
  congr 1; omega

theorem alikeN_next {a b : List ByteArray} {k : Nat} (h : AlikeN a b k) (ha : k < a.length) (hb : k < b.length) (e : Nm.cL (a.getD (a.length - (k + 1)) ByteArray.empty) (b.getD (b.length - (k + 1)) ByteArray.empty) = 0) : AlikeN a b (k + 1) := by
  unfold AlikeN at h ⊢
  rw [h]
  exact Nm.lex_step (by simpa using ha) (by simpa using hb) (by rw [rev_get a k ha, rev_get b k hb]; exact e)

theorem alikeN_here {a b : List ByteArray} {k : Nat} (h : AlikeN a b k) (ha : k < a.length) (hb : k < b.length) (e : ¬ Nm.cL (a.getD (a.length - (k + 1)) ByteArray.empty) (b.getD (b.length - (k + 1)) ByteArray.empty) = 0) : Nm.cL (a.getD (a.length - (k + 1)) ByteArray.empty) (b.getD (b.length - (k + 1)) ByteArray.empty) = Nm.cN a b := by
  unfold AlikeN at h
  rw [h, Nm.lex_here (by simpa using ha) (by simpa using hb) (by rw [rev_get a k ha, rev_get b k hb]; exact e), rev_get a k ha, rev_get b k hb]

theorem alikeN_end {a b : List ByteArray} {k : Nat} (h : AlikeN a b k) (ha : k ≤ a.length) (hb : k ≤ b.length) (e : a.length ≤ k ∨ b.length ≤ k) : Nm.cmpI (a.length : Int) (b.length : Int) = Nm.cN a b := by
  unfold AlikeN at h
  rw [h, Nm.lex_end (by simpa using ha) (by simpa using hb) (by simpa using e)]; simp

theorem getD_mem_size {ss : List ByteArray} (h : ∀ s ∈ ss, s.size ≤ 140737488355328) (i : Nat) : (ss.getD i ByteArray.empty).size ≤ 140737488355328 := by
  rw [List.getD_eq_getElem?_getD]
  cases e : ss[i]? with
  | none => simp
  | some s => exact h s (List.mem_of_getElem? e)

theorem hid {p : Prop} (h : p) : Hid p := h

set_option maxHeartbeats 400000 in
theorem compare_any (xa xb : Option Addr) (ca cb : Nat) (a b : List ByteArray) (w : World) (ha : Strs w xa ca a) (hb : Strs w xb cb b) :
    Calls Tryd.prog 12 #[.slice xa a.length ca, .slice xb b.length cb] w fun e w' => e = .returned (.int .i64 (Nm.cN a b)) ∧ Drawn w w' := by
  have la : a.length ≤ 8796093022208 := ha.2.1
  have lb : b.length ≤ 8796093022208 := hb.2.1
  by_cases hm : (a.length : Int) ≤ (b.length : Int)
  all_goals
    go_enter Tryd.func12, Tryd.ntmps12
    go_wp2
    go_loopw [5] (fun c wr => ∃ k : Nat, k ≤ a.length ∧ k ≤ b.length ∧ c = .int .i64 ((k : Int) + 1) ∧ AlikeN a b k ∧ Drawn w wr) (fun c _ => a.length + 1 - (intOf c).toNat)
    case atStart => exact ⟨0, Nat.zero_le _, Nat.zero_le _, rfl, alikeN_zero a b, Drawn.refl w⟩
    case round =>
      obtain ⟨k, hka, hkb, rfl, hal, hdr⟩ := hrel
      by_cases hlt : k < a.length ∧ k < b.length
      · obtain ⟨h1, h2⟩ := hlt
        obtain ⟨_, _, sa, da⟩ := ha.drawn hdr
        obtain ⟨_, _, sb, db⟩ := hb.drawn hdr
        rcases da with da | ⟨ba, oa, rfl, _, qa⟩
        · rw [da] at h1; simp at h1
        rcases db with db | ⟨bb, ob, rfl, _, qb⟩
        · rw [db] at h2; simp at h2
        have na := getD_mem_size sa (a.length - (k + 1))
        have nb := getD_mem_size sb (b.length - (k + 1))
        have fa := qa (a.length - (k + 1)) (by omega)
        have fb := qb (b.length - (k + 1)) (by omega)
        clear qa qb sa sb
        have ea : ((a.length : Int) - ((k : Int) + 1)) = ((a.length - (k + 1) : Nat) : Int) := by omega
        have eb : ((b.length : Int) - ((k : Int) + 1)) = ((b.length - (k + 1) : Nat) : Int) := by omega
        have E1 := alikeN_here hal h1 h2
        have E2 := alikeN_next hal h1 h2
        generalize a.getD (a.length - (k + 1)) ByteArray.empty = sa at *
        generalize b.getD (b.length - (k + 1)) ByteArray.empty = sb at *
        have H1 := hid E1
        have H2 := hid E2
        clear E1 E2
        go_wp2
        go_quiet ((go_at_call 25; exact Calls.quiet_of (compareLabels_any _ _ _ (by unfold maxLen; omega) (by unfold maxLen; omega))))
        go_wp2
        · go_ret
          exact ⟨ret_int (H1.out (by simpa using ‹(Nm.cL sa sb != 0) = true›)), hdr.more _⟩
        · exact ⟨⟨k + 1, by omega, by omega, by go_num, H2.out (by simpa using ‹(Nm.cL sa sb != 0) = false›), hdr.more _⟩, by simp [intOf]; omega⟩
      · go_wp2_with (go_at_call 26; refine (cmpInt_any _ _ _).mono ?_; rintro e w' ⟨rfl, rfl⟩)
        go_ret
        exact ⟨ret_int (alikeN_end hal hka hkb (by omega)), hdr⟩

set_option maxHeartbeats 400000 in
theorem same_any (xa xb : Option Addr) (ca cb : Nat) (a b : List ByteArray) (w : World) (ha : Strs w xa ca a) (hb : Strs w xb cb b) :
    Calls Tryd.prog 13 #[.slice xa a.length ca, .slice xb b.length cb] w fun e w' => e = .returned (.bool (Nm.cN a b == 0)) ∧ Drawn w w' := by
  go_enter Tryd.func13, Tryd.ntmps13
  go_wp2_with (go_at_call 12; refine (compare_any _ _ _ _ a b _ ha hb).mono ?_; rintro e w' ⟨rfl, hdr⟩)
  go_ret
  exact ⟨rfl, hdr⟩

theorem Strs.drop {w : World} {x : Option Addr} {c : Nat} {ss : List ByteArray} (h : Strs w x c ss) (d : Nat) (hd : d ≤ ss.length) : Strs w (x.map fun y => y.add d) (c - d) (ss.drop d) := by
  obtain ⟨h1, h2, h3, h4⟩ := h
  refine ⟨by rw [List.length_drop]; omega, by rw [List.length_drop]; omega, fun s hs => h3 s (List.mem_of_mem_drop hs), ?_⟩
  rcases h4 with h4 | ⟨b, off, rfl, hb, hc⟩
  · left; rw [h4]; simp
  · right
    refine ⟨b, off + d, by simp [Addr.add], hb, fun i hi => ?_⟩
    rw [List.length_drop] at hi
    have := hc (d + i) (by omega)
    rw [show off + d + i = off + (d + i) from by omega, this]
    simp [List.getD_eq_getElem?_getD, List.getElem?_drop]

theorem Strs.none_left {w : World} {x : Option Addr} {c : Nat} {ss : List ByteArray} (_ : Strs w x c ss) (d : Nat) (hd : ss.length ≤ d) : Strs w x 0 (ss.drop d) := by
  rw [List.drop_of_length_le hd]
  exact ⟨Nat.le_refl _, by simp, fun s hs => by simp at hs, Or.inl rfl⟩

theorem under_some {a b : List ByteArray} (h : b.length ≤ a.length) : Nm.under a b = (Nm.cN (a.drop (a.length - b.length)) b == 0) := by
  unfold Nm.under; rw [decide_eq_true h, Bool.true_and]

set_option maxHeartbeats 400000 in
theorem under_any (xa xb : Option Addr) (ca cb : Nat) (a b : List ByteArray) (w : World) (ha : Strs w xa ca a) (hb : Strs w xb cb b) :
    Calls Tryd.prog 14 #[.slice xa a.length ca, .slice xb b.length cb] w fun e w' => e = .returned (.bool (Nm.under a b)) ∧ Drawn w w' := by
  have la : a.length ≤ 8796093022208 := ha.2.1
  have lb : b.length ≤ 8796093022208 := hb.2.1
  have lc := ha.1
  by_cases hle : b.length ≤ a.length
  · have hg : (0 : Int) ≤ (a.length : Int) - (b.length : Int) := by omega
    go_enter Tryd.func14, Tryd.ntmps14
    have hlen : a.length - (a.length - b.length) = (a.drop (a.length - b.length)).length := by simp
    have eU := under_some hle
    have H1 := hid hlen
    have H2 := hid eU
    clear hlen eU
    go_wp2_with fail
    all_goals
      rw [H1.out]
      first
        | refine (same_any _ _ _ _ (a.drop (a.length - b.length)) b _ (ha.drop _ (by omega)) hb).mono ?_
        | refine (same_any _ _ _ _ (a.drop (a.length - b.length)) b _ (ha.none_left _ (by omega)) hb).mono ?_
      rintro e w' ⟨rfl, hdr⟩
      go_wp2_with fail
      go_ret
      exact ⟨ret_bool H2.out.symm, hdr⟩
  · have hg : ¬ (0 : Int) ≤ (a.length : Int) - (b.length : Int) := by omega
    have e : Nm.under a b = false := by unfold Nm.under; rw [decide_eq_false hle]; rfl
    rw [e]
    clear e
    go_enter Tryd.func14, Tryd.ntmps14
    go_wp2_with fail
    go_ret
    exact ⟨rfl, Drawn.refl w⟩

end Go.Proofs.YtbngafofmgcngaaDoor
