/-
  The walks of what compares labels and names: foldByte, cmp.Compare at bytes and at ints, compareLabels, Compare, Same, Under. Each only reads: it hands back the number that the plain functions of the text Order tell, and of the world nothing has turned but draws. The walk of compareLabels: two texts, byte by byte, small letters for great ones; it hands back what the plain function cL tells, and of the world nothing has turned but draws. The walks of Compare, Same and Under over lists of labels that lie in memory: each only reads; what they hand back is what the plain functions cN and under tell. The walk of Texts: are two lists of labels in memory the same? It only reads. The walks of foldLabel and Fold: each makes its answer in new memory, and writes nothing that was there. What small letters do to labels and names, in plain lists; and the contracts of Compare, Same, Under, Texts and Fold with lengths and answers as a caller spells them.
-/
import Derived.Test.YtnbabdfcamdapaaRows
import Derived.Test.YtnbabdfcamdapaaOrder
import Derived.WalkKit
import Derived.WalkSpells
import Derived.WalkLawsBesides
import Derived.Deep.QuietTactic
import Derived.BigQuiet
import Derived.Deep.RegionWith
import Derived.Deep.OwnRows
import Derived.Laws.BytesArg
namespace Go.Proofs.Ytnbabdfcamdapaa
open Go.RowKit

/-- Nothing but draws. -/
def Drawn (w w' : World) : Prop := ∃ n, w' = w.drewN n
theorem Drawn.refl (w : World) : Drawn w w := ⟨0, rfl⟩
theorem Drawn.more {w w' : World} (h : Drawn w w') (n : Nat) : Drawn w (w'.drewN n) := by
  obtain ⟨m, rfl⟩ := h; exact ⟨m + n, by rw [World.drewN_drewN]⟩
theorem Drawn.trans {w w' w'' : World} (h : Drawn w w') (k : Drawn w' w'') : Drawn w w'' := by
  obtain ⟨m, rfl⟩ := k; exact h.more m
theorem Drawn.below {w w' : World} (h : Drawn w w') (B : Nat) : Below B w w' := by
  obtain ⟨m, rfl⟩ := h; exact below_drewN (Below.refl B w) m
theorem Drawn.cell {w w' : World} (h : Drawn w w') (a : Addr) : w'.cell? a = w.cell? a := by
  obtain ⟨m, rfl⟩ := h; rfl
theorem Drawn.heap {w w' : World} (h : Drawn w w') : w'.heap = w.heap := by
  obtain ⟨m, rfl⟩ := h; rfl

theorem ret_int {k : IntKind} {a b : Int} (h : a = b) : Ending.returned (.int k a) = .returned (.int k b) := by rw [h]
theorem ret_bool {a b : Bool} (h : a = b) : Ending.returned (.bool a) = .returned (.bool b) := by rw [h]

set_option maxHeartbeats 400000 in
theorem foldByte_any (n : Int) (w : World) (h0 : 0 ≤ n) (h1 : n ≤ 255) :
    Calls Try.prog 31 #[.int .u8 n] w fun e w' => e = .returned (.int .u8 (Nm.foI n)) ∧ w' = w := by
  by_cases a : 65 ≤ n
  · by_cases b : n ≤ 90
    · have e : Nm.foI n = n - 65 + 97 := by unfold Nm.foI; rw [if_pos ⟨a, b⟩]; omega
      rw [e]
      clear e
      go_enter Try.func31, Try.ntmps31
      go_wp2
      go_ret
      exact ⟨ret_int (by omega), rfl⟩
    · have e : Nm.foI n = n := by unfold Nm.foI; rw [if_neg (by omega)]
      rw [e]
      clear e
      go_enter Try.func31, Try.ntmps31
      go_wp2
      go_ret
      exact ⟨rfl, rfl⟩
  · have e : Nm.foI n = n := by unfold Nm.foI; rw [if_neg (by omega)]
    rw [e]
    clear e
    go_enter Try.func31, Try.ntmps31
    go_wp2
    go_ret
    exact ⟨rfl, rfl⟩

set_option maxHeartbeats 400000 in
theorem cmpInt_any (x y : Int) (w : World) :
    Calls Try.prog 29 #[.int .i64 x, .int .i64 y] w fun e w' => e = .returned (.int .i64 (Nm.cmpI x y)) ∧ w' = w := by
  by_cases a : x < y
  · have e : Nm.cmpI x y = -1 := by unfold Nm.cmpI; rw [if_pos a]
    rw [e]
    clear e
    go_enter Try.func29, Try.ntmps29
    go_wp2
    go_ret
    exact ⟨rfl, rfl⟩
  · by_cases b : y < x
    · have e : Nm.cmpI x y = 1 := by unfold Nm.cmpI; rw [if_neg a, if_pos b]
      rw [e]
      clear e
      go_enter Try.func29, Try.ntmps29
      go_wp2
      go_ret
      exact ⟨rfl, rfl⟩
    · have e : Nm.cmpI x y = 0 := by unfold Nm.cmpI; rw [if_neg a, if_neg b]
      rw [e]
      clear e
      go_enter Try.func29, Try.ntmps29
      go_wp2
      go_ret
      exact ⟨rfl, rfl⟩

set_option maxHeartbeats 400000 in
theorem cmpByte_any (x y : Int) (w : World) :
    Calls Try.prog 30 #[.int .u8 x, .int .u8 y] w fun e w' => e = .returned (.int .i64 (Nm.cmpI x y)) ∧ w' = w := by
  by_cases a : x < y
  · have e : Nm.cmpI x y = -1 := by unfold Nm.cmpI; rw [if_pos a]
    rw [e]
    clear e
    go_enter Try.func30, Try.ntmps30
    go_wp2
    go_ret
    exact ⟨rfl, rfl⟩
  · by_cases b : y < x
    · have e : Nm.cmpI x y = 1 := by unfold Nm.cmpI; rw [if_neg a, if_pos b]
      rw [e]
      clear e
      go_enter Try.func30, Try.ntmps30
      go_wp2
      go_ret
      exact ⟨rfl, rfl⟩
    · have e : Nm.cmpI x y = 0 := by unfold Nm.cmpI; rw [if_neg a, if_neg b]
      rw [e]
      clear e
      go_enter Try.func30, Try.ntmps30
      go_wp2
      go_ret
      exact ⟨rfl, rfl⟩

end Go.Proofs.Ytnbabdfcamdapaa

namespace Go.Proofs.Ytnbabdfcamdapaa
open Go.RowKit

/-- The first k bytes are alike: what is behind them decides. -/
def AlikeTo (a b : ByteArray) (k : Nat) : Prop := Nm.cL a b = Nm.lex Nm.cB ((Nm.bs a).drop k) ((Nm.bs b).drop k)

theorem bs_length (a : ByteArray) : (Nm.bs a).length = a.size := by simp [Nm.bs]
theorem bs_get (a : ByteArray) (k : Nat) (h : k < a.size) (h' : k < (Nm.bs a).length) : (Nm.bs a)[k] = (a[k].toNat : Int) := by
  simp [Nm.bs]; rfl

theorem alike_zero (a b : ByteArray) : AlikeTo a b 0 := by unfold AlikeTo; rfl

theorem alike_next {a b : ByteArray} {k : Nat} (h : AlikeTo a b k) (ha : k < a.size) (hb : k < b.size) (e : Nm.cmpI (Nm.foI (a[k].toNat : Int)) (Nm.foI (b[k].toNat : Int)) = 0) : AlikeTo a b (k + 1) := by
  unfold AlikeTo at h ⊢
  rw [h]
  have la := bs_length a
  have lb := bs_length b
  exact Nm.lex_step (by omega) (by omega) (by rw [bs_get a k ha, bs_get b k hb]; exact e)

theorem alike_here {a b : ByteArray} {k : Nat} (h : AlikeTo a b k) (ha : k < a.size) (hb : k < b.size) (e : ¬ Nm.cmpI (Nm.foI (a[k].toNat : Int)) (Nm.foI (b[k].toNat : Int)) = 0) : Nm.cmpI (Nm.foI (a[k].toNat : Int)) (Nm.foI (b[k].toNat : Int)) = Nm.cL a b := by
  unfold AlikeTo at h
  rw [h]
  have la := bs_length a
  have lb := bs_length b
  rw [Nm.lex_here (by omega) (by omega) (by rw [bs_get a k ha, bs_get b k hb]; exact e), bs_get a k ha, bs_get b k hb]; rfl

theorem alike_end {a b : ByteArray} {k : Nat} (h : AlikeTo a b k) (ha : k ≤ a.size) (hb : k ≤ b.size) (e : a.size ≤ k ∨ b.size ≤ k) : Nm.cmpI (a.size : Int) (b.size : Int) = Nm.cL a b := by
  unfold AlikeTo at h
  rw [h]
  have la := bs_length a
  have lb := bs_length b
  rw [Nm.lex_end (by omega) (by omega) (by omega), la, lb]

theorem u8_bound (c : UInt8) : 0 ≤ (c.toNat : Int) ∧ (c.toNat : Int) ≤ 255 := by have := c.toNat_lt; omega

set_option maxHeartbeats 400000 in
theorem compareLabels_any (a b : ByteArray) (w : World) (ha : a.size ≤ maxLen) (hb : b.size ≤ maxLen) :
    Calls Try.prog 28 #[.string a, .string b] w fun e w' => e = .returned (.int .i64 (Nm.cL a b)) ∧ Drawn w w' := by
  unfold maxLen at ha hb
  by_cases hm : (a.size : Int) ≤ (b.size : Int)
  all_goals
    go_enter Try.func28, Try.ntmps28
    go_wp2
    go_loopw [12] (fun c wr => ∃ k : Nat, k ≤ a.size ∧ k ≤ b.size ∧ c = .int .i64 k ∧ AlikeTo a b k ∧ Drawn w wr) (fun c _ => a.size - (intOf c).toNat)
    case atStart => exact ⟨0, Nat.zero_le _, Nat.zero_le _, rfl, alike_zero a b, Drawn.refl w⟩
    case round =>
      obtain ⟨k, hka, hkb, rfl, hal, hdr⟩ := hrel
      by_cases hlt : k < a.size ∧ k < b.size
      · obtain ⟨h1, h2⟩ := hlt
        go_wp2
        go_quiet ((first
          | (go_at_call 31; exact Calls.quiet_of_same (foldByte_any _ _ (u8_bound _).1 (u8_bound _).2))
          | (go_at_call 30; exact Calls.quiet_of_same (cmpByte_any _ _ _))))
        go_wp2
        · go_ret
          exact ⟨ret_int (alike_here hal h1 h2 (by simpa using ‹(Nm.cmpI _ _ != 0) = true›)), hdr.more _⟩
        · exact ⟨⟨k + 1, by omega, by omega, by go_num, alike_next hal h1 h2 (by simpa using ‹(Nm.cmpI _ _ != 0) = false›), hdr.more _⟩, by simp [intOf]; omega⟩
      · go_wp2_with (go_at_call 29; refine (cmpInt_any _ _ _).mono ?_; rintro e w' ⟨rfl, rfl⟩)
        go_ret
        exact ⟨ret_int (alike_end hal hka hkb (by omega)), hdr⟩

end Go.Proofs.Ytnbabdfcamdapaa

namespace Go.Proofs.Ytnbabdfcamdapaa
open Go.RowKit

/-- A slice leads to these labels. -/
def Strs (w : World) (x : Option Addr) (c : Nat) (ss : List ByteArray) : Prop :=
  ss.length ≤ c ∧ ss.length ≤ 8796093022208 ∧ (∀ s ∈ ss, s.size ≤ 140737488355328) ∧
    (ss = [] ∨ ∃ b off, x = some ⟨b, off, none⟩ ∧ b < w.heap.size ∧ ∀ i, i < ss.length → w.cell? ⟨b, off + i, none⟩ = some (.string (ss.getD i ByteArray.empty)))

theorem Strs.below {w w' : World} {x : Option Addr} {c : Nat} {ss : List ByteArray} (h : Strs w x c ss) (k : Below w.heap.size w w') : Strs w' x c ss := by
  obtain ⟨h1, h2, h3, h4⟩ := h
  refine ⟨h1, h2, h3, ?_⟩
  rcases h4 with h4 | ⟨b, off, hx, hb, hc⟩
  · exact Or.inl h4
  · exact Or.inr ⟨b, off, hx, Nat.lt_of_lt_of_le hb k.size, fun i hi => by rw [k.cell (p := ⟨b, off + i, none⟩) hb]; exact hc i hi⟩

theorem Strs.drawn {w w' : World} {x : Option Addr} {c : Nat} {ss : List ByteArray} (h : Strs w x c ss) (k : Drawn w w') : Strs w' x c ss := h.below (k.below _)

def AlikeN (a b : List ByteArray) (k : Nat) : Prop := Nm.cN a b = Nm.lex Nm.cL (a.reverse.drop k) (b.reverse.drop k)

theorem alikeN_zero (a b : List ByteArray) : AlikeN a b 0 := rfl

theorem rev_get (a : List ByteArray) (k : Nat) (h : k < a.length) (h' : k < a.reverse.length) : a.reverse[k] = a.getD (a.length - (k + 1)) ByteArray.empty := by
  rw [List.getElem_reverse, List.getD_eq_getElem?_getD, List.getElem?_eq_getElem (by omega)]
  simp only [Option.getD_some]
  congr 1; omega

theorem alikeN_next {a b : List ByteArray} {k : Nat} (h : AlikeN a b k) (ha : k < a.length) (hb : k < b.length) (e : Nm.cL (a.getD (a.length - (k + 1)) ByteArray.empty) (b.getD (b.length - (k + 1)) ByteArray.empty) = 0) : AlikeN a b (k + 1) := by
  unfold AlikeN at h ⊢
  rw [h]
  exact Nm.lex_step (by simpa using ha) (by simpa using hb) (by rw [rev_get a k ha, rev_get b k hb]; exact e)

theorem alikeN_here {a b : List ByteArray} {k : Nat} (h : AlikeN a b k) (ha : k < a.length) (hb : k < b.length) (e : ¬ Nm.cL (a.getD (a.length - (k + 1)) ByteArray.empty) (b.getD (b.length - (k + 1)) ByteArray.empty) = 0) : Nm.cL (a.getD (a.length - (k + 1)) ByteArray.empty) (b.getD (b.length - (k + 1)) ByteArray.empty) = Nm.cN a b := by
  unfold AlikeN at h
  rw [h, Nm.lex_here (by simpa using ha) (by simpa using hb) (by rw [rev_get a k ha, rev_get b k hb]; exact e), rev_get a k ha, rev_get b k hb]

theorem alikeN_end {a b : List ByteArray} {k : Nat} (h : AlikeN a b k) (ha : k ≤ a.length) (hb : k ≤ b.length) (e : a.length ≤ k ∨ b.length ≤ k) : Nm.cmpI (a.length : Int) (b.length : Int) = Nm.cN a b := by
  unfold AlikeN at h
  rw [h, Nm.lex_end (by simpa using ha) (by simpa using hb) (by simpa using e)]; simp

theorem getD_mem_size {ss : List ByteArray} (h : ∀ s ∈ ss, s.size ≤ 140737488355328) (i : Nat) : (ss.getD i ByteArray.empty).size ≤ 140737488355328 := by
  rw [List.getD_eq_getElem?_getD]
  cases e : ss[i]? with
  | none => simp
  | some s => exact h s (List.mem_of_getElem? e)

theorem hid {p : Prop} (h : p) : Hid p := h

set_option maxHeartbeats 400000 in
theorem compare_any (xa xb : Option Addr) (ca cb : Nat) (a b : List ByteArray) (w : World) (ha : Strs w xa ca a) (hb : Strs w xb cb b) :
    Calls Try.prog 27 #[.slice xa a.length ca, .slice xb b.length cb] w fun e w' => e = .returned (.int .i64 (Nm.cN a b)) ∧ Drawn w w' := by
  have la : a.length ≤ 8796093022208 := ha.2.1
  have lb : b.length ≤ 8796093022208 := hb.2.1
  by_cases hm : (a.length : Int) ≤ (b.length : Int)
  all_goals
    go_enter Try.func27, Try.ntmps27
    go_wp2
    go_loopw [5] (fun c wr => ∃ k : Nat, k ≤ a.length ∧ k ≤ b.length ∧ c = .int .i64 ((k : Int) + 1) ∧ AlikeN a b k ∧ Drawn w wr) (fun c _ => a.length + 1 - (intOf c).toNat)
    case atStart => exact ⟨0, Nat.zero_le _, Nat.zero_le _, rfl, alikeN_zero a b, Drawn.refl w⟩
    case round =>
      obtain ⟨k, hka, hkb, rfl, hal, hdr⟩ := hrel
      by_cases hlt : k < a.length ∧ k < b.length
      · obtain ⟨h1, h2⟩ := hlt
        obtain ⟨_, _, sa, da⟩ := ha.drawn hdr
        obtain ⟨_, _, sb, db⟩ := hb.drawn hdr
        rcases da with da | ⟨ba, oa, rfl, _, qa⟩
        · rw [da] at h1; simp at h1
        rcases db with db | ⟨bb, ob, rfl, _, qb⟩
        · rw [db] at h2; simp at h2
        have na := getD_mem_size sa (a.length - (k + 1))
        have nb := getD_mem_size sb (b.length - (k + 1))
        have fa := qa (a.length - (k + 1)) (by omega)
        have fb := qb (b.length - (k + 1)) (by omega)
        clear qa qb sa sb
        have ea : ((a.length : Int) - ((k : Int) + 1)) = ((a.length - (k + 1) : Nat) : Int) := by omega
        have eb : ((b.length : Int) - ((k : Int) + 1)) = ((b.length - (k + 1) : Nat) : Int) := by omega
        have E1 := alikeN_here hal h1 h2
        have E2 := alikeN_next hal h1 h2
        generalize a.getD (a.length - (k + 1)) ByteArray.empty = sa at *
        generalize b.getD (b.length - (k + 1)) ByteArray.empty = sb at *
        have H1 := hid E1
        have H2 := hid E2
        clear E1 E2
        go_wp2
        go_quiet ((go_at_call 28; exact Calls.quiet_of (compareLabels_any _ _ _ (by unfold maxLen; omega) (by unfold maxLen; omega))))
        go_wp2
        · go_ret
          exact ⟨ret_int (H1.out (by simpa using ‹(Nm.cL sa sb != 0) = true›)), hdr.more _⟩
        · exact ⟨⟨k + 1, by omega, by omega, by go_num, H2.out (by simpa using ‹(Nm.cL sa sb != 0) = false›), hdr.more _⟩, by simp [intOf]; omega⟩
      · go_wp2_with (go_at_call 29; refine (cmpInt_any _ _ _).mono ?_; rintro e w' ⟨rfl, rfl⟩)
        go_ret
        exact ⟨ret_int (alikeN_end hal hka hkb (by omega)), hdr⟩

set_option maxHeartbeats 400000 in
theorem same_any (xa xb : Option Addr) (ca cb : Nat) (a b : List ByteArray) (w : World) (ha : Strs w xa ca a) (hb : Strs w xb cb b) :
    Calls Try.prog 25 #[.slice xa a.length ca, .slice xb b.length cb] w fun e w' => e = .returned (.bool (Nm.cN a b == 0)) ∧ Drawn w w' := by
  go_enter Try.func25, Try.ntmps25
  go_wp2_with (go_at_call 27; refine (compare_any _ _ _ _ a b _ ha hb).mono ?_; rintro e w' ⟨rfl, hdr⟩)
  go_ret
  exact ⟨rfl, hdr⟩

theorem Strs.drop {w : World} {x : Option Addr} {c : Nat} {ss : List ByteArray} (h : Strs w x c ss) (d : Nat) (hd : d ≤ ss.length) : Strs w (x.map fun y => y.add d) (c - d) (ss.drop d) := by
  obtain ⟨h1, h2, h3, h4⟩ := h
  refine ⟨by rw [List.length_drop]; omega, by rw [List.length_drop]; omega, fun s hs => h3 s (List.mem_of_mem_drop hs), ?_⟩
  rcases h4 with h4 | ⟨b, off, rfl, hb, hc⟩
  · left; rw [h4]; simp
  · right
    refine ⟨b, off + d, by simp [Addr.add], hb, fun i hi => ?_⟩
    rw [List.length_drop] at hi
    have := hc (d + i) (by omega)
    rw [show off + d + i = off + (d + i) from by omega, this]
    simp [List.getD_eq_getElem?_getD, List.getElem?_drop]

theorem Strs.none_left {w : World} {x : Option Addr} {c : Nat} {ss : List ByteArray} (_ : Strs w x c ss) (d : Nat) (hd : ss.length ≤ d) : Strs w x 0 (ss.drop d) := by
  rw [List.drop_of_length_le hd]
  exact ⟨Nat.le_refl _, by simp, fun s hs => by simp at hs, Or.inl rfl⟩

theorem under_some {a b : List ByteArray} (h : b.length ≤ a.length) : Nm.under a b = (Nm.cN (a.drop (a.length - b.length)) b == 0) := by
  unfold Nm.under; rw [decide_eq_true h, Bool.true_and]

set_option maxHeartbeats 400000 in
theorem under_any (xa xb : Option Addr) (ca cb : Nat) (a b : List ByteArray) (w : World) (ha : Strs w xa ca a) (hb : Strs w xb cb b) :
    Calls Try.prog 22 #[.slice xa a.length ca, .slice xb b.length cb] w fun e w' => e = .returned (.bool (Nm.under a b)) ∧ Drawn w w' := by
  have la : a.length ≤ 8796093022208 := ha.2.1
  have lb : b.length ≤ 8796093022208 := hb.2.1
  have lc := ha.1
  by_cases hle : b.length ≤ a.length
  · have hg : (0 : Int) ≤ (a.length : Int) - (b.length : Int) := by omega
    go_enter Try.func22, Try.ntmps22
    have hlen : a.length - (a.length - b.length) = (a.drop (a.length - b.length)).length := by simp
    have eU := under_some hle
    have H1 := hid hlen
    have H2 := hid eU
    clear hlen eU
    go_wp2_with fail
    all_goals
      rw [H1.out]
      first
        | refine (same_any _ _ _ _ (a.drop (a.length - b.length)) b _ (ha.drop _ (by omega)) hb).mono ?_
        | refine (same_any _ _ _ _ (a.drop (a.length - b.length)) b _ (ha.none_left _ (by omega)) hb).mono ?_
      rintro e w' ⟨rfl, hdr⟩
      go_wp2_with fail
      go_ret
      exact ⟨ret_bool H2.out.symm, hdr⟩
  · have hg : ¬ (0 : Int) ≤ (a.length : Int) - (b.length : Int) := by omega
    have e : Nm.under a b = false := by unfold Nm.under; rw [decide_eq_false hle]; rfl
    rw [e]
    clear e
    go_enter Try.func22, Try.ntmps22
    go_wp2_with fail
    go_ret
    exact ⟨rfl, Drawn.refl w⟩

end Go.Proofs.Ytnbabdfcamdapaa

namespace Go.Proofs.Ytnbabdfcamdapaa
open Go.RowKit

theorem text_eq (p q : ByteArray) (h : (!p.toList == q.toList) = false) : p = q := by
  have h2 : p.toList = q.toList := by simpa using h
  rw [ByteArray.toList_eq, ByteArray.toList_eq] at h2
  exact ByteArray.ext (Array.toList_inj.1 h2)

theorem take_next {a b : List ByteArray} {k : Nat} (h : a.take k = b.take k) (ha : k < a.length) (hb : k < b.length) (e : a.getD k ByteArray.empty = b.getD k ByteArray.empty) : a.take (k + 1) = b.take (k + 1) := by
  rw [List.take_succ_eq_append_getElem ha, List.take_succ_eq_append_getElem hb, h]
  rw [List.getD_eq_getElem?_getD, List.getD_eq_getElem?_getD, List.getElem?_eq_getElem ha, List.getElem?_eq_getElem hb] at e
  simp only [Option.getD_some] at e
  rw [e]

theorem text_neq {a b : List ByteArray} {k : Nat} (e : (!(a.getD k ByteArray.empty).toList == (b.getD k ByteArray.empty).toList) = true) : false = decide (a = b) := by
  symm
  apply decide_eq_false
  intro h
  rw [h] at e
  simp at e

theorem take_all {a b : List ByteArray} {k : Nat} (h : a.take k = b.take k) (ha : a.length ≤ k) (hb : b.length = a.length) : true = decide (a = b) := by
  symm
  apply decide_eq_true
  rwa [List.take_of_length_le ha, List.take_of_length_le (by omega)] at h

end Go.Proofs.Ytnbabdfcamdapaa

namespace Go.Proofs.Ytnbabdfcamdapaa
open Go.RowKit Go.Deep

/-- A label with small letters. -/
def fS (s : ByteArray) : ByteArray := strOfNums ((Nm.bs s).map Nm.foI)

theorem info_byte : (Try.prog.info? 5).map (fun i => (i.zero, i.size, i.bytes)) = some (some (.int .u8 0), 1, 1) := by kernel_rfl
theorem info_string : (Try.prog.info? 9).map (fun i => (i.zero, i.size, i.bytes)) = some (some (.string ByteArray.empty), 1, 16) := by kernel_rfl

theorem fold_step {a : ByteArray} {k : Nat} {f : Nat → Value} (h : k < a.size) (hf : ∀ j, j < k → f j = .int .u8 (((Nm.bs a).map Nm.foI).getD j 0)) :
    ∀ j, j < k + 1 → (if j = k then Value.int .u8 (Nm.foI (a[k].toNat : Int)) else f j) = .int .u8 (((Nm.bs a).map Nm.foI).getD j 0) := by
  intro j hj
  by_cases e : j = k
  · subst e
    rw [if_pos rfl, List.getD_eq_getElem?_getD, List.getElem?_map, List.getElem?_eq_getElem (by rw [bs_length]; exact h), bs_get a j h]
    rfl
  · rw [if_neg e]; exact hf j (by omega)

theorem fS_size (s : ByteArray) : (fS s).size = s.size := by
  unfold fS; rw [strOfNums_size, List.length_map, bs_length]

theorem names_step {n : List ByteArray} {k : Nat} {f : Nat → Value} (hf : ∀ j, j < k → f j = .string (fS (n.getD j ByteArray.empty))) :
    ∀ j, j < k + 1 → (if j = k then Value.string (fS (n.getD k ByteArray.empty)) else f j) = .string (fS (n.getD j ByteArray.empty)) := by
  intro j hj
  by_cases e : j = k
  · subst e; rw [if_pos rfl]
  · rw [if_neg e]; exact hf j (by omega)

theorem names_done {wr : World} {n : List ByteArray} {f : Nat → Value} {c : Nat} (hl : n.length ≤ 8796093022208) (hs : ∀ s ∈ n, s.size ≤ 140737488355328) (hrow : wr.rowIs c 9 n.length f) (hf : ∀ j, j < n.length → f j = .string (fS (n.getD j ByteArray.empty))) :
    Strs wr (some ⟨c, 0, none⟩) n.length (n.map fS) := by
  refine ⟨by simp, by simpa using hl, fun s h => ?_, Or.inr ⟨c, 0, rfl, hrow.lt, fun i hi => ?_⟩⟩
  · obtain ⟨t, ht, rfl⟩ := List.mem_map.1 h
    rw [fS_size]; exact hs t ht
  · rw [List.length_map] at hi
    rw [Nat.zero_add, hrow.cell hi, hf i hi]
    simp [List.getD_eq_getElem?_getD, List.getElem?_map, List.getElem?_eq_getElem hi]

end Go.Proofs.Ytnbabdfcamdapaa

namespace Go.Proofs.Ytnbabdfcamdapaa
open Go.RowKit Go.Deep

theorem bs_bound (s : ByteArray) (x : Int) (h : x ∈ Nm.bs s) : 0 ≤ x ∧ x ≤ 255 := by
  unfold Nm.bs at h
  obtain ⟨c, _, rfl⟩ := List.mem_map.1 h
  exact u8_bound c

theorem bs_of (xs : List Int) (h : ∀ x ∈ xs, 0 ≤ x ∧ x ≤ 255) : Nm.bs (strOfNums xs) = xs := by
  unfold Nm.bs
  rw [strOfNums_data, List.map_map]
  have : ∀ x ∈ xs, ((fun c : UInt8 => (c.toNat : Int)) ∘ fun n : Int => UInt8.ofNat n.toNat) x = id x := by
    intro x hx
    have := h x hx
    simp only [Function.comp, id, UInt8.toNat_ofNat']
    omega
  rw [List.map_congr_left this, List.map_id]

theorem bs_fS (s : ByteArray) : Nm.bs (fS s) = Nm.fL s := by
  unfold fS Nm.fL
  refine bs_of _ fun x hx => ?_
  obtain ⟨y, hy, rfl⟩ := List.mem_map.1 hx
  have := bs_bound s y hy
  exact Nm.foI_bound y this.1 this.2

theorem fL_fS (s : ByteArray) : Nm.fL (fS s) = Nm.fL s := by
  have e : Nm.fL (fS s) = (Nm.bs (fS s)).map Nm.foI := rfl
  rw [e, bs_fS]
  unfold Nm.fL
  rw [List.map_map]
  exact List.map_congr_left fun x _ => Nm.foI_twice x

theorem fS_fL (s : ByteArray) : fS s = strOfNums (Nm.fL s) := rfl

theorem fS_twice (s : ByteArray) : fS (fS s) = fS s := by rw [fS_fL (fS s), fL_fS]; rfl

theorem map_fL_fS (a : List ByteArray) : (a.map fS).map Nm.fL = a.map Nm.fL := by
  rw [List.map_map]; exact List.map_congr_left fun x _ => fL_fS x

theorem map_fS_twice (a : List ByteArray) : decide ((a.map fS).map fS = a.map fS) = true := by
  apply decide_eq_true
  rw [List.map_map]; exact List.map_congr_left fun x _ => fS_twice x

theorem map_fS_iff (a b : List ByteArray) : decide (a.map fS = b.map fS) = (Nm.cN a b == 0) := by
  rw [Bool.eq_iff_iff, decide_eq_true_iff, beq_iff_eq, Nm.cN_zero]
  constructor
  · intro h
    have : (a.map fS).map Nm.bs = (b.map fS).map Nm.bs := by rw [h]
    rw [List.map_map, List.map_map] at this
    have e : Nm.bs ∘ fS = Nm.fL := funext bs_fS
    rwa [e] at this
  · intro h
    have : (a.map Nm.fL).map strOfNums = (b.map Nm.fL).map strOfNums := by rw [h]
    rw [List.map_map, List.map_map] at this
    exact this

theorem cN_fold (a : List ByteArray) : Nm.cN (a.map fS) a = 0 := (Nm.cN_zero _ _).2 (map_fL_fS a)

theorem fact_one : Nm.cN [⟨#[98]⟩] [⟨#[65]⟩] = 1 := by decide +kernel

/-! ### The contracts, with their lengths and answers as the caller spells them -/

theorem compare_at (r : Int) {xa xb : Option Addr} {ca cb la lb : Nat} (a b : List ByteArray) (w : World) (ha : Strs w xa ca a) (hb : Strs w xb cb b) (hla : a.length = la) (hlb : b.length = lb) (hr : Nm.cN a b = r) :
    Calls Try.prog 27 #[.slice xa la ca, .slice xb lb cb] w fun e w' => e = .returned (.int .i64 r) ∧ Drawn w w' := by
  subst hla hlb hr; exact compare_any _ _ _ _ a b w ha hb

theorem same_at (r : Bool) {xa xb : Option Addr} {ca cb la lb : Nat} (a b : List ByteArray) (w : World) (ha : Strs w xa ca a) (hb : Strs w xb cb b) (hla : a.length = la) (hlb : b.length = lb) (hr : (Nm.cN a b == 0) = r) :
    Calls Try.prog 25 #[.slice xa la ca, .slice xb lb cb] w fun e w' => e = .returned (.bool r) ∧ Drawn w w' := by
  subst hla hlb hr; exact same_any _ _ _ _ a b w ha hb

theorem under_at (r : Bool) {xa xb : Option Addr} {ca cb la lb : Nat} (a b : List ByteArray) (w : World) (ha : Strs w xa ca a) (hb : Strs w xb cb b) (hla : a.length = la) (hlb : b.length = lb) (hr : Nm.under a b = r) :
    Calls Try.prog 22 #[.slice xa la ca, .slice xb lb cb] w fun e w' => e = .returned (.bool r) ∧ Drawn w w' := by
  subst hla hlb hr; exact under_any _ _ _ _ a b w ha hb

theorem Strs.one {w : World} {g : Nat} {s : ByteArray} (hg : g < w.heap.size) (hc : w.cell? ⟨g, 0, none⟩ = some (.string s)) (hs : s.size ≤ 140737488355328) : Strs w (some ⟨g, 0, none⟩) 1 [s] := by
  refine ⟨Nat.le_refl _, by simp, fun t ht => ?_, Or.inr ⟨g, 0, rfl, hg, fun i hi => ?_⟩⟩
  · rw [List.mem_singleton.1 ht]; exact hs
  · have : i = 0 := by simpa using hi
    subst this; simpa using hc

theorem Strs.empty (w : World) : Strs w none 0 [] := ⟨Nat.le_refl _, by simp, fun s hs => by simp at hs, Or.inl rfl⟩

end Go.Proofs.Ytnbabdfcamdapaa
