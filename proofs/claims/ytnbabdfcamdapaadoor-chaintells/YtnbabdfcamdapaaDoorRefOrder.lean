/-
  The walks of the document's own answers for names: Small, Numbers, Labels, Names, Below. They only read, and hand back what the plain functions tell.
-/
import Derived.Test.YtnbabdfcamdapaaDoorWalkA
namespace Go.Proofs.YtnbabdfcamdapaaDoor
open Go.RowKit Go.Deep

set_option maxHeartbeats 400000 in
theorem small_any (n : Int) (w : World) (h0 : 0 ≤ n) (h1 : n ≤ 255) :
    Calls Tryd.prog 43 #[.int .u8 n] w fun e w' => e = .returned (.int .u8 (Nm.foI n)) ∧ w' = w := by
  by_cases a : 65 ≤ n
  · by_cases b : n ≤ 90
    · have e : Nm.foI n = n + 32 := by unfold Nm.foI; rw [if_pos ⟨a, b⟩]
      rw [e]
      clear e
      go_enter Tryd.func43, Tryd.ntmps43
      go_wp2
      go_ret
      exact ⟨rfl, rfl⟩
    · have e : Nm.foI n = n := by unfold Nm.foI; rw [if_neg (by omega)]
      rw [e]
      clear e
      go_enter Tryd.func43, Tryd.ntmps43
      go_wp2
      go_ret
      exact ⟨rfl, rfl⟩
  · have e : Nm.foI n = n := by unfold Nm.foI; rw [if_neg (by omega)]
    rw [e]
    clear e
    go_enter Tryd.func43, Tryd.ntmps43
    go_wp2
    go_ret
    exact ⟨rfl, rfl⟩

set_option maxHeartbeats 400000 in
theorem numbers_any (x y : Int) (w : World) :
    Calls Tryd.prog 44 #[.int .i64 x, .int .i64 y] w fun e w' => e = .returned (.int .i64 (Nm.cmpI x y)) ∧ w' = w := by
  by_cases a : x < y
  · have e : Nm.cmpI x y = -1 := by unfold Nm.cmpI; rw [if_pos a]
    rw [e]
    clear e
    go_enter Tryd.func44, Tryd.ntmps44
    go_wp2
    go_ret
    exact ⟨rfl, rfl⟩
  · by_cases b : y < x
    · have e : Nm.cmpI x y = 1 := by unfold Nm.cmpI; rw [if_neg a, if_pos b]
      rw [e]
      clear e
      go_enter Tryd.func44, Tryd.ntmps44
      go_wp2
      go_ret
      exact ⟨rfl, rfl⟩
    · have e : Nm.cmpI x y = 0 := by unfold Nm.cmpI; rw [if_neg a, if_neg b]
      rw [e]
      clear e
      go_enter Tryd.func44, Tryd.ntmps44
      go_wp2
      go_ret
      exact ⟨rfl, rfl⟩

theorem cmpI_less {x y : Int} (h : x < y) : Nm.cmpI x y = -1 := by unfold Nm.cmpI; rw [if_pos h]
theorem cmpI_more {x y : Int} (h : y < x) : Nm.cmpI x y = 1 := by unfold Nm.cmpI; rw [if_neg (by omega), if_pos h]
theorem cmpI_same {x y : Int} (h : ¬ x < y) (k : ¬ y < x) : Nm.cmpI x y = 0 := by unfold Nm.cmpI; rw [if_neg h, if_neg k]

set_option maxHeartbeats 400000 in
theorem labels_any (a b : ByteArray) (w : World) (ha : a.size ≤ 140737488355328) :
    Calls Tryd.prog 33 #[.string a, .string b] w fun e w' => e = .returned (.int .i64 (Nm.cL a b)) ∧ Drawn w w' := by
  go_enter Tryd.func33, Tryd.ntmps33
  go_wp2
  go_loopw [5] (fun c wr => ∃ k : Nat, k ≤ a.size ∧ k ≤ b.size ∧ c = .int .i64 k ∧ AlikeTo a b k ∧ Drawn w wr) (fun c _ => a.size - (intOf c).toNat)
  case atStart => exact ⟨0, Nat.zero_le _, Nat.zero_le _, rfl, alike_zero a b, Drawn.refl w⟩
  case round =>
    obtain ⟨k, hka, hkb, rfl, hal, hdr⟩ := hrel
    by_cases h1 : k < a.size
    · by_cases h2 : k < b.size
      · have i1 : (k : Int) < (a.size : Int) := by omega
        have i2 : (k : Int) < (b.size : Int) := by omega
        go_wp2
        go_quiet ((go_at_call 43; exact Calls.quiet_of_same (small_any _ _ (u8_bound _).1 (u8_bound _).2)))
        go_wp2
        · go_ret
          exact ⟨ret_int ((cmpI_less ‹_›).symm.trans (alike_here hal h1 h2 (by rw [cmpI_less ‹_›]; decide))), hdr.more _⟩
        · have hd3 := hdr.more nq
          clear hdr
          generalize wr.drewN nq = w3 at *
          go_quiet ((go_at_call 43; exact Calls.quiet_of_same (small_any _ _ (u8_bound _).1 (u8_bound _).2)))
          go_wp2
          · go_ret
            exact ⟨ret_int ((cmpI_more ‹_›).symm.trans (alike_here hal h1 h2 (by rw [cmpI_more ‹_›]; decide))), hd3.more _⟩
          · exact ⟨⟨k + 1, by omega, by omega, by go_num, alike_next hal h1 h2 (cmpI_same (by omega) (by omega)), hd3.more _⟩, by simp [intOf]; omega⟩
      · have i1 : (k : Int) < (a.size : Int) := by omega
        have i2 : ¬ (k : Int) < (b.size : Int) := by omega
        go_wp2_with (go_at_call 44; refine (numbers_any _ _ _).mono ?_; rintro e w' ⟨rfl, rfl⟩)
        go_ret
        exact ⟨ret_int (alike_end hal hka hkb (by omega)), hdr⟩
    · have i1 : ¬ (k : Int) < (a.size : Int) := by omega
      go_wp2_with (go_at_call 44; refine (numbers_any _ _ _).mono ?_; rintro e w' ⟨rfl, rfl⟩)
      go_ret
      exact ⟨ret_int (alike_end hal hka hkb (by omega)), hdr⟩

/-- The last k labels are alike. -/
def TailTo (a b : List ByteArray) (k : Nat) : Prop := ∀ j, j < k → Nm.cL (a.getD (a.length - (j + 1)) ByteArray.empty) (b.getD (b.length - (j + 1)) ByteArray.empty) = 0

theorem getD_drop (a : List ByteArray) (d i : Nat) : (a.drop d).getD i ByteArray.empty = a.getD (d + i) ByteArray.empty := by
  simp [List.getD_eq_getElem?_getD, List.getElem?_drop]

theorem tail_iff {a b : List ByteArray} (h : b.length ≤ a.length) : Nm.under a b = true ↔ TailTo a b b.length := by
  rw [Nm.under_iff]
  constructor
  · rintro ⟨_, e⟩ j hj
    rw [Nm.cL_zero]
    have e2 : ((a.drop (a.length - b.length)).map Nm.fL)[b.length - (j + 1)]? = (b.map Nm.fL)[b.length - (j + 1)]? := by rw [e]
    rw [List.getElem?_map, List.getElem?_map, List.getElem?_drop, List.getElem?_eq_getElem (l := a) (by omega), List.getElem?_eq_getElem (l := b) (by omega)] at e2
    have e3 := Option.some.inj e2
    rw [List.getD_eq_getElem?_getD, List.getD_eq_getElem?_getD, List.getElem?_eq_getElem (l := a) (by omega), List.getElem?_eq_getElem (l := b) (by omega)]
    simp only [Option.getD_some]
    have e4 : a.length - b.length + (b.length - (j + 1)) = a.length - (j + 1) := by omega
    simp only [e4] at e3
    exact e3
  · intro t
    refine ⟨h, ?_⟩
    apply List.ext_getElem
    · simp; omega
    · intro i h1 h2
      rw [List.length_map] at h2
      have := (Nm.cL_zero _ _).1 (t (b.length - (i + 1)) (by omega))
      have e1 : b.length - (b.length - (i + 1) + 1) = i := by omega
      have e2 : a.length - (b.length - (i + 1) + 1) = a.length - b.length + i := by omega
      rw [e1, e2, List.getD_eq_getElem?_getD, List.getD_eq_getElem?_getD, List.getElem?_eq_getElem (l := a) (by omega), List.getElem?_eq_getElem (l := b) h2] at this
      simp only [Option.getD_some] at this
      simpa using this

theorem tail_next {a b : List ByteArray} {k : Nat} (h : TailTo a b k) (e : Nm.cL (a.getD (a.length - (k + 1)) ByteArray.empty) (b.getD (b.length - (k + 1)) ByteArray.empty) = 0) : TailTo a b (k + 1) := by
  intro j hj
  by_cases q : j = k
  · subst q; exact e
  · exact h j (by omega)

theorem tail_not {a b : List ByteArray} {k : Nat} (hl : b.length ≤ a.length) (hk : k < b.length) (e : ¬ Nm.cL (a.getD (a.length - (k + 1)) ByteArray.empty) (b.getD (b.length - (k + 1)) ByteArray.empty) = 0) : false = Nm.under a b := by
  cases q : Nm.under a b
  · rfl
  · exact absurd ((tail_iff hl).1 q k hk) e

theorem tail_all {a b : List ByteArray} {k : Nat} (hl : b.length ≤ a.length) (hk : k = b.length) (h : TailTo a b k) : true = Nm.under a b := by
  subst hk; exact ((tail_iff hl).2 h).symm

set_option maxHeartbeats 400000 in
theorem below_any (xa xb : Option Addr) (ca cb : Nat) (a b : List ByteArray) (w : World) (ha : Strs w xa ca a) (hb : Strs w xb cb b) :
    Calls Tryd.prog 22 #[.slice xa a.length ca, .slice xb b.length cb] w fun e w' => e = .returned (.bool (Nm.under a b)) ∧ Drawn w w' := by
  have la : a.length ≤ 8796093022208 := ha.2.1
  have lb : b.length ≤ 8796093022208 := hb.2.1
  by_cases hle : b.length ≤ a.length
  · have hg : ¬ (a.length : Int) < (b.length : Int) := by omega
    go_enter Tryd.func22, Tryd.ntmps22
    go_wp2
    go_loopw [5] (fun c wr => ∃ k : Nat, k ≤ b.length ∧ c = .int .i64 ((k : Int) + 1) ∧ TailTo a b k ∧ Drawn w wr) (fun c _ => b.length + 1 - (intOf c).toNat)
    case atStart => exact ⟨0, Nat.zero_le _, rfl, fun j hj => by omega, Drawn.refl w⟩
    case round =>
      obtain ⟨k, hkb, rfl, hal, hdr⟩ := hrel
      by_cases h2 : k < b.length
      · have h1 : k < a.length := by omega
        obtain ⟨_, _, sa, da⟩ := ha.drawn hdr
        obtain ⟨_, _, sb, db⟩ := hb.drawn hdr
        rcases da with da | ⟨ba, oa, rfl, _, qa⟩
        · rw [da] at h1; simp at h1
        rcases db with db | ⟨bb, ob, rfl, _, qb⟩
        · rw [db] at h2; simp at h2
        have na := getD_mem_size sa (a.length - (k + 1))
        have fa := qa (a.length - (k + 1)) (by omega)
        have fb := qb (b.length - (k + 1)) (by omega)
        clear qa qb sa sb
        have ea : ((a.length : Int) - ((k : Int) + 1)) = ((a.length - (k + 1) : Nat) : Int) := by omega
        have eb : ((b.length : Int) - ((k : Int) + 1)) = ((b.length - (k + 1) : Nat) : Int) := by omega
        have i2 : (k : Int) + 1 ≤ (b.length : Int) := by omega
        have H1 := hid (@tail_not a b k hle h2)
        have H2 := hid (@tail_next a b k hal)
        generalize a.getD (a.length - (k + 1)) ByteArray.empty = sa at *
        generalize b.getD (b.length - (k + 1)) ByteArray.empty = sb at *
        clear hal
        go_wp2
        go_quiet ((go_at_call 33; exact Calls.quiet_of (labels_any _ _ _ na)))
        go_wp2
        · go_ret
          exact ⟨ret_bool (H1.out (by simpa using ‹(Nm.cL sa sb != 0) = true›)), hdr.more _⟩
        · exact ⟨⟨k + 1, by omega, by go_num, H2.out (by simpa using ‹(Nm.cL sa sb != 0) = false›), hdr.more _⟩, by simp [intOf]; omega⟩
      · have i2 : ¬ (k : Int) + 1 ≤ (b.length : Int) := by omega
        have H := hid (tail_all hle (by omega) hal)
        clear hal
        go_wp2
        go_ret
        exact ⟨ret_bool H.out, hdr⟩
  · have hg : (a.length : Int) < (b.length : Int) := by omega
    have e : Nm.under a b = false := by unfold Nm.under; rw [decide_eq_false hle]; rfl
    rw [e]
    clear e
    go_enter Tryd.func22, Tryd.ntmps22
    go_wp2
    go_ret
    exact ⟨rfl, Drawn.refl w⟩

theorem below_at (r : Bool) {xa xb : Option Addr} {ca cb la lb : Nat} (a b : List ByteArray) (w : World) (ha : Strs w xa ca a) (hb : Strs w xb cb b) (hla : a.length = la) (hlb : b.length = lb) (hr : Nm.under a b = r) :
    Calls Tryd.prog 22 #[.slice xa la ca, .slice xb lb cb] w fun e w' => e = .returned (.bool r) ∧ Drawn w w' := by
  subst hla hlb hr; exact below_any _ _ _ _ a b w ha hb

end Go.Proofs.YtnbabdfcamdapaaDoor
