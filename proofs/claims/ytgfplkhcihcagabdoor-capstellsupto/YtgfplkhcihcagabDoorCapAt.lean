/-
  Contracts of Letters, Bits and Mix with lengths and answers as a caller spells them; and what is mixed, as texts.
-/
import Derived.Test.YtgfplkhcihcagabDoorCapMix
import Derived.Test.YtgfplkhcihcagabDoorWalkC
namespace Go.Proofs.YtgfplkhcihcagabDoor
open Go.RowKit Go.Deep

/-- How many letters. -/
def nL (n : List ByteArray) : Nat := (Cp.posN (labs n)).length
/-- A name mixed. -/
def mixS (n : List ByteArray) (bits : List Bool) : List ByteArray := (Cp.mixN (labs n) bits).map strOfNums

theorem labs_byte (n : List ByteArray) : ∀ l ∈ labs n, ∀ x ∈ l, 0 ≤ x ∧ x ≤ 255 := by
  intro l hl x hx
  obtain ⟨s, _, rfl⟩ := List.mem_map.1 hl
  exact bs_bound s x hx
theorem mixS_len (n : List ByteArray) (bits : List Bool) : (mixS n bits).length = n.length := by unfold mixS; rw [List.length_map, Cp.mixN_len]; simp
theorem labs_mixS (n : List ByteArray) (bits : List Bool) : labs (mixS n bits) = Cp.mixN (labs n) bits := by
  unfold mixS labs
  refine map_bs_of _ fun l hl x hx => ?_
  unfold Cp.mixN at hl
  obtain ⟨i, _, rfl⟩ := List.mem_map.1 hl
  obtain ⟨j, _, rfl⟩ := List.mem_map.1 hx
  exact Cp.val_byte (labs_byte n) bits i j
theorem nL_mixS (n : List ByteArray) (bits : List Bool) : nL (mixS n bits) = nL n := by unfold nL; rw [labs_mixS, Cp.posN_mix_len]
theorem mixS_own (n : List ByteArray) : mixS n (Cp.greatsN (labs n)) = n := by unfold mixS; rw [Cp.mix_own]; exact map_nums_bs n
theorem mixS_same (n : List ByteArray) (bits : List Bool) : Nm.cN (mixS n bits) n = 0 := by
  rw [Nm.cN_zero]
  have h := Cp.mix_small (labs n) bits
  rw [← labs_mixS] at h
  have e : ∀ l : List ByteArray, l.map Nm.fL = (labs l).map (List.map Nm.foI) := fun l => by unfold labs; rw [List.map_map]; rfl
  rw [e, e]; exact h
theorem mixS_alike {n : List ByteArray} {a b : List Bool} (ha : nL n ≤ a.length) (hb : nL n ≤ b.length) : mixS n a = mixS n b ↔ a.take (nL n) = b.take (nL n) := by
  unfold nL at *
  rw [← Cp.mix_alike ha hb]
  constructor
  · intro h
    have := congrArg labs h
    rwa [labs_mixS, labs_mixS] at this
  · intro h; unfold mixS; rw [h]
theorem mixS_great {n : List ByteArray} {a : List Bool} (ha : nL n ≤ a.length) : Cp.greatsN (labs (mixS n a)) = a.take (nL n) := by
  rw [labs_mixS]; exact Cp.mix_great ha
theorem nL_le (n : List ByteArray) : nL n ≤ (labs n).flatten.length := by
  unfold nL; rw [Cp.posN_len]; unfold Cp.lettersN; exact List.length_filter_le _ _

theorem rowo_bols {w : World} {B : Nat} {v : Value} {xs : List Bool} (h : Rowo w B v xs) (hl : xs.length ≤ 140737488355328) : ∃ y d, v = .slice y xs.length d ∧ Bols w y d xs := by
  obtain ⟨_, h3⟩ := h
  rcases h3 with ⟨rfl, h4⟩ | ⟨g, cap, cur, rfl, _, hh, hn, _, hs, ht⟩
  · have : xs = [] := List.length_eq_zero_iff.1 h4
    subst this
    exact ⟨none, 0, rfl, Nat.le_refl _, by simp, Or.inl rfl⟩
  · refine ⟨_, cap, rfl, hn, hl, Or.inr ⟨g, 0, rfl, ?_, fun i hi => ?_⟩⟩
    · rcases Nat.lt_or_ge g w.heap.size with q | q
      · exact q
      · rw [Array.getElem?_eq_none q] at hh; simp at hh
    · rw [Nat.zero_add]
      simp only [World.cell?, hh]
      have e : (cur.toList.take (xs.length * 1))[i]? = (xs.map Value.bool)[i]? := by rw [ht]
      rw [List.getElem?_take, if_pos (by omega), List.getElem?_map, List.getElem?_eq_getElem hi] at e
      simp [List.getD_eq_getElem?_getD, List.getElem?_eq_getElem hi]
      simpa using e

theorem letters_at {x : Option Addr} {c l : Nat} (n : List ByteArray) (w : World) (h : Strs w x c n) (hl : n.length = l) (hN : nL n ≤ 4611686018427387904) (k : Nat) (hk : nL n = k) :
    Calls Tryd.prog 6 #[.slice x l c] w fun e w' => e = .returned (.int .i64 (k : Int)) ∧ Below w.heap.size w w' := by
  subst hl hk; exact Letters_any x c n w h hN
theorem bits_at {x : Option Addr} {c l : Nat} (n : List ByteArray) (w : World) (h : Strs w x c n) (hl : n.length = l) (hN : nL n ≤ 100000000000) :
    Calls Tryd.prog 5 #[.slice x l c] w fun e w' => ∃ y d, e = .returned (.slice y (nL n) d) ∧ Bols w' y d (Cp.greatsN (labs n)) ∧ Below w.heap.size w w' := by
  subst hl
  refine (Bits_any x c n w h hN).mono fun e w' ⟨v, h1, h2, h3⟩ => ?_
  have e1 : (Cp.greatsN (labs n)).length = nL n := Cp.greats_len _
  obtain ⟨y, d, h4, h5⟩ := rowo_bols h2 (by omega)
  exact ⟨y, d, by rw [h1, h4, e1], h5, h3⟩
theorem mix_at {x y : Option Addr} {c d l m : Nat} (n : List ByteArray) (bits : List Bool) (w : World) (h : Strs w x c n) (hb : Bols w y d bits) (hl : n.length = l) (hm : bits.length = m) (hk : nL n ≤ bits.length) :
    Calls Tryd.prog 8 #[.slice x l c, .slice y m d] w fun e w' => ∃ b, e = .returned (.tuple #[.slice (some ⟨b, 0, none⟩) l l, .nilIface]) ∧ Strs w' (some ⟨b, 0, none⟩) l (mixS n bits) ∧ Below w.heap.size w w' := by
  subst hl hm
  exact Mix_good x y c d n bits w h hb (by have := hb.2.1; unfold nL at hk; omega) hk
theorem mix_no {x y : Option Addr} {c d l m : Nat} (n : List ByteArray) (bits : List Bool) (w : World) (h : Strs w x c n) (hl : n.length = l) (hm : bits.length = m) (hN : nL n ≤ 4611686018427387904) (hk : bits.length < nL n) :
    Calls Tryd.prog 8 #[.slice x l c, .slice y m d] w fun e w' => e = .returned (.tuple #[.slice none 0 0, .iface 26 (.int .i64 2)]) ∧ Below w.heap.size w w' := by
  subst hl hm; exact Mix_short x y c d n bits w h hN hk

theorem nL_a1 : nL [⟨#[97, 49]⟩] = 1 := by decide +kernel

end Go.Proofs.YtgfplkhcihcagabDoor
