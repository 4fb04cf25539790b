/-
  The walks of the document's own answers on letters: Letter, Greats, Mixed.
-/
import Derived.Test.YtgfplkhcihcagabDoorCapAt
import Derived.Test.YtgfplkhcihcagabDoorRefOrder
namespace Go.Proofs.YtgfplkhcihcagabDoor
open Go.RowKit Go.Deep

/-- Which letter: 1 great, 2 small, 0 none. -/
def whichL (c : Int) : Int := if Cp.isG c then 1 else if Cp.isL c then 2 else 0
theorem whichL_pos (c : Int) : (0 < whichL c) ↔ Cp.isL c = true := by
  unfold whichL Cp.isL
  cases Cp.isG c <;> simp
  split <;> simp_all
theorem whichL_one (c : Int) : (whichL c = 1) ↔ Cp.isG c = true := by
  unfold whichL
  cases Cp.isG c <;> simp
  split <;> simp

set_option maxHeartbeats 400000 in
theorem letter_any (c : Int) (w : World) (_ : 0 ≤ c) (_ : c ≤ 255) : Calls Tryd.prog 11 #[.int .u8 c] w fun e w' => e = .returned (.int .i64 (whichL c)) ∧ w' = w := by
  have hx : (65 ≤ c ∧ c ≤ 90 ∧ whichL c = 1) ∨ (65 ≤ c ∧ ¬ c ≤ 90 ∧ 97 ≤ c ∧ c ≤ 122 ∧ whichL c = 2) ∨ (65 ≤ c ∧ ¬ c ≤ 90 ∧ ¬ 97 ≤ c ∧ whichL c = 0) ∨ (97 ≤ c ∧ ¬ c ≤ 90 ∧ 65 ≤ c ∧ ¬ c ≤ 122 ∧ whichL c = 0) ∨ (¬ 65 ≤ c ∧ ¬ 97 ≤ c ∧ whichL c = 0) := by
    unfold whichL Cp.isL Cp.isG
    by_cases a1 : 65 ≤ c
    · by_cases a2 : c ≤ 90
      · exact .inl ⟨a1, a2, by simp [a1, a2]⟩
      · by_cases a3 : 97 ≤ c
        · by_cases a4 : c ≤ 122
          · exact .inr (.inl ⟨a1, a2, a3, a4, by simp [a2, a3, a4]⟩)
          · exact .inr (.inr (.inr (.inl ⟨a3, a2, a1, a4, by simp [a2, a4]⟩)))
        · exact .inr (.inr (.inl ⟨a1, a2, a3, by simp [a2, a3]⟩))
    · exact .inr (.inr (.inr (.inr ⟨a1, by omega, by simp [a1]; omega⟩)))
  rcases hx with ⟨a1, a2, e⟩ | ⟨a1, a2, a3, a4, e⟩ | ⟨a1, a2, a3, e⟩ | ⟨a1, a2, a3, a4, e⟩ | ⟨a1, a2, e⟩
  all_goals
    rw [e]
    clear e
    go_enter Tryd.func11, Tryd.ntmps11
    go_wp2
    go_ret
    exact ⟨rfl, rfl⟩

/-- Are the letters up to a place great? -/
def greatTo (n : List ByteArray) (i j : Nat) : List Bool := (Cp.posTo (labs n) i j).map fun p => Cp.isG (Cp.here p)
theorem greatTo_len (n : List ByteArray) (i j : Nat) (hi : i < n.length) (hj : j ≤ (n.getD i ByteArray.empty).size) : (greatTo n i j).length ≤ nL n := by
  unfold greatTo; rw [List.length_map]
  exact (Cp.posTo_prefix (labs n) (by simpa using hi) (by rw [labs_lab_len]; exact hj)).length_le
theorem greatTo_letter {n : List ByteArray} {i j : Nat} (h : Cp.ok (labs n) i j) (c : Int) (hc : Cp.at2 (labs n) i j = c) : greatTo n i (j + 1) = greatTo n i j ++ [Cp.isG c] := by
  unfold greatTo; rw [Cp.posTo_letter h, List.map_append]; subst hc; rfl
theorem greatTo_none {n : List ByteArray} {i j : Nat} (h : ¬ Cp.ok (labs n) i j) : greatTo n i (j + 1) = greatTo n i j := by
  unfold greatTo; rw [Cp.posTo_none h]
theorem greatTo_row (n : List ByteArray) (i : Nat) : greatTo n i (n.getD i ByteArray.empty).size = greatTo n (i + 1) 0 := by
  unfold greatTo; rw [← labs_lab_len, Cp.posTo_row rfl]
theorem greatTo_all (n : List ByteArray) : greatTo n n.length 0 = Cp.greatsN (labs n) := by
  unfold greatTo; rw [Cp.posTo_end (by simp), Cp.posN_great]

theorem Rowo.of {w : World} {B n : Nat} {v : Value} {xs : List Bool} {ys : List Value} (h : w.ownsRow B 4 1 v n ys) (hn : n = xs.length) (hy : ys = xs.map Value.bool) : Rowo w B v xs := by
  subst hn hy; exact h

set_option maxHeartbeats 4000000 in
set_option maxRecDepth 100000 in
theorem greats_any (x : Option Addr) (c : Nat) (n : List ByteArray) (w : World) (h : Strs w x c n) (hN : nL n ≤ 100000000000) :
    Calls Tryd.prog 4 #[.slice x n.length c] w fun e w' => ∃ v, e = .returned v ∧ Rowo w' w.heap.size v (Cp.greatsN (labs n)) ∧ Below w.heap.size w w' := by
  have hl : n.length ≤ 8796093022208 := h.2.1
  obtain ⟨i0, hi, hz0, hz1, hz2⟩ := info_parts info_bool
  go_enter Tryd.func4, Tryd.ntmps4
  go_wp2_with fail
  go_loopw [3, 4] (fun vo vi wr => ∃ i : Nat, i ≤ n.length ∧ vi = .int .i64 (i : Int) ∧ Rowo wr w.heap.size vo (greatTo n i 0) ∧ Below w.heap.size w wr) (fun _ vi _ => n.length - (intOf vi).toNat)
  case atStart => exact ⟨0, Nat.zero_le _, rfl, World.ownsRow_nil _ _ _ _, Below.refl _ _⟩
  case round =>
    obtain ⟨i, hi1, rfl, hrow, hbel⟩ := hrel
    obtain ⟨w3, hw3⟩ : ∃ u, u = wr := ⟨_, rfl⟩
    subst hw3
    by_cases h1 : i < n.length
    · have r1 : (i : Int) < (n.length : Int) := by omega
      have HR := hid hrow
      have HB := hid hbel
      clear hrow hbel
      go_wp2_with fail
      go_loopw [3, 5] (fun vo vj wr => ∃ j : Nat, j ≤ (n.getD i ByteArray.empty).size ∧ vj = .int .i64 (j : Int) ∧ Rowo wr w.heap.size vo (greatTo n i j) ∧ Below w.heap.size w wr) (fun _ vj _ => (n.getD i ByteArray.empty).size - (intOf vj).toNat)
      case atStart => exact ⟨0, Nat.zero_le _, rfl, HR.out, HB.out⟩
      case round =>
        obtain ⟨j, hj1, rfl, hrow, hbel⟩ := hrel
        have hB := hbel.size
        obtain ⟨_, _, sa, da⟩ := h.below hbel
        rcases da with da | ⟨ba, oa, rfl, hba, qa⟩
        · rw [da] at h1; simp at h1
        have fa := qa i h1
        have na := getD_mem_size sa i
        have EL := hid (labs_lab_len n i)
        have EA := hid (labs_at n i)
        have LT := greatTo_len n i j h1 hj1
        have LROW := hid (greatTo_row n i)
        clear qa sa
        generalize n.getD i ByteArray.empty = s at *
        by_cases h2 : j < s.size
        · have EA2 := EA.out j h2
          have EB := u8_bound s[j]
          have r2 : (j : Int) < (s.size : Int) := by omega
          have HB2 := hid hbel
          have HRW := hid hrow
          by_cases hlt : Cp.isL (s[j].toNat : Int) = true
          · have hok : Cp.ok (labs n) i j := ⟨by simpa using h1, by rw [EL.out]; exact h2, by rw [EA2]; exact hlt⟩
            have HG := hid (greatTo_letter hok _ EA2)
            obtain ⟨g, hg⟩ : ∃ g, Cp.isG (s[j].toNat : Int) = g := ⟨_, rfl⟩
            have hw1 : 0 < whichL (s[j].toNat : Int) := (whichL_pos _).2 hlt
            have hw2 : (whichL (s[j].toNat : Int) == 1) = g := by
              rw [← hg]
              cases q : Cp.isG (s[j].toNat : Int)
              · exact beq_eq_false_iff_ne.2 (fun e => by rw [(whichL_one _).1 e] at q; cases q)
              · exact beq_iff_eq.2 ((whichL_one _).2 q)
            rw [hg] at HG
            clear hlt hok hg EA2 EA EL hrow hbel
            go_wp2_with fail
            refine (letter_any _ wr EB.1 EB.2).mono ?_
            rintro e w' ⟨rfl, rfl⟩
            go_wp2_with fail
            refine (letter_any _ w' EB.1 EB.2).mono ?_
            rintro e w'' ⟨rfl, rfl⟩
            have hown : World.ownsRow _ _ _ _ _ _ _ := HRW.out
            go_wp2_with (at_builtin; refine wpList_append_own _ rfl _ _ 23 rfl w.heap.size 4 i0 (.bool false) 1 1 Tryd.underlying23 hi hz0 hz1 hz2 rfl (by decide) _ _ _ rfl (hown.alloc _) ⟨_, 0, none⟩ 1 1 [.bool g] rfl rfl (cell_one_new _ _ _) (by simp [Value.oneCell']) (by unfold maxLen; omega) (by omega) (by simp; omega) ?_)
            intro v' w2 hown' hgrow _
            have hrow2 : Rowo w2 w.heap.size v' (greatTo n i j ++ [g]) := Rowo.of hown' (by simp) (by simp)
            rw [← HG.out] at hrow2
            have hbel2 := grown_below HRW.out HB2.out hB (grown_alloc hgrow)
            clear hown hown' hgrow
            go_wp2_with fail
            exact ⟨⟨j + 1, by omega, by go_num, hrow2, hbel2⟩, by simp [intOf]; omega⟩
          · have hno : ¬ Cp.ok (labs n) i j := fun q => hlt (by have := q.2.2; rwa [EA2] at this)
            have HG := hid (greatTo_none hno)
            have hw1 : ¬ 0 < whichL (s[j].toNat : Int) := fun q => hlt ((whichL_pos _).1 q)
            clear hlt hno EA2 EA EL hrow hbel
            go_wp2_with fail
            refine (letter_any _ wr EB.1 EB.2).mono ?_
            rintro e w' ⟨rfl, rfl⟩
            go_wp2_with fail
            exact ⟨⟨j + 1, by omega, by go_num, by rw [HG.out]; exact HRW.out, HB2.out⟩, by simp [intOf]; omega⟩
        · have r2 : ¬ (j : Int) < (s.size : Int) := by omega
          obtain rfl : j = s.size := by omega
          rw [LROW.out] at hrow
          go_wp2_with fail
          exact ⟨⟨i + 1, by omega, by go_num, hrow, hbel⟩, by simp [intOf]; omega⟩
    · have r1 : ¬ (i : Int) < (n.length : Int) := by omega
      obtain rfl : i = n.length := by omega
      rw [greatTo_all] at hrow
      go_wp2_with fail
      go_ret
      exact ⟨_, rfl, hrow, hbel⟩

theorem rowt_strs_any {w : World} {B : Nat} {v : Value} {ls : List (List Int)} (h : Rowt w B v ls) (h1 : ∀ l ∈ ls, l.length ≤ 140737488355328) (h2 : ls.length ≤ 8796093022208) :
    ∃ x c, v = .slice x ls.length c ∧ Strs w x c (ls.map strOfNums) := by
  obtain ⟨_, h3⟩ := h
  rcases h3 with ⟨rfl, h4⟩ | ⟨g, cap, cur, rfl, _, hh, hn, _, hs, ht⟩
  · have : ls = [] := List.length_eq_zero_iff.1 h4
    subst this
    exact ⟨none, 0, rfl, Strs.empty w⟩
  · refine ⟨_, cap, rfl, by simpa using hn, by rw [List.length_map]; omega, ?_, ?_⟩
    · intro s hs
      obtain ⟨l, hl, rfl⟩ := List.mem_map.1 hs
      rw [strOfNums_size]
      exact h1 l hl
    · right
      have hlt : g < w.heap.size := by
        rcases Nat.lt_or_ge g w.heap.size with q | q
        · exact q
        · rw [Array.getElem?_eq_none q] at hh; simp at hh
      refine ⟨g, 0, rfl, hlt, fun i hi => ?_⟩
      rw [List.length_map] at hi
      rw [Nat.zero_add]
      simp only [World.cell?, hh]
      have e : (cur.toList.take (ls.length * 1))[i]? = (ls.map fun l => Value.string (strOfNums l))[i]? := by rw [ht]
      rw [List.getElem?_take, if_pos (by omega), List.getElem?_map, List.getElem?_eq_getElem hi] at e
      simp [List.getD_eq_getElem?_getD, List.getElem?_map, List.getElem?_eq_getElem hi]
      simpa using e

/-- A label mixed up to a place. -/
def mixTo (n : List ByteArray) (bits : List Bool) (i j : Nat) : List Int := (List.range j).map (Cp.val (labs n) bits i)
/-- Labels mixed. -/
def mixes (n : List ByteArray) (bits : List Bool) (i : Nat) : List (List Int) := (List.range i).map fun k => mixTo n bits k (n.getD k ByteArray.empty).size
theorem mixTo_next (n : List ByteArray) (bits : List Bool) (i j : Nat) : mixTo n bits i (j + 1) = mixTo n bits i j ++ [Cp.val (labs n) bits i j] := by unfold mixTo; rw [List.range_succ, List.map_append]; rfl
theorem mixTo_len (n : List ByteArray) (bits : List Bool) (i j : Nat) : (mixTo n bits i j).length = j := by simp [mixTo]
theorem mixes_next (n : List ByteArray) (bits : List Bool) (i : Nat) : mixes n bits (i + 1) = mixes n bits i ++ [mixTo n bits i (n.getD i ByteArray.empty).size] := by unfold mixes; rw [List.range_succ, List.map_append]; rfl
theorem mixes_len (n : List ByteArray) (bits : List Bool) (i : Nat) : (mixes n bits i).length = i := by simp [mixes]
theorem mixes_all (n : List ByteArray) (bits : List Bool) : (mixes n bits n.length).map strOfNums = mixS n bits := by
  unfold mixS Cp.mixN mixes
  rw [show (labs n).length = n.length by simp]
  congr 1
  refine List.map_congr_left fun i _ => ?_
  unfold mixTo
  rw [labs_lab_len]
theorem mixes_size {n : List ByteArray} (bits : List Bool) (hn : ∀ s ∈ n, s.size ≤ 140737488355328) : ∀ l ∈ mixes n bits n.length, l.length ≤ 140737488355328 := by
  intro l hl
  unfold mixes at hl
  obtain ⟨i, _, rfl⟩ := List.mem_map.1 hl
  rw [mixTo_len]; exact getD_mem_size hn i

theorem rank_letter {L : List (List Int)} {i j : Nat} (h : Cp.ok L i j) : Cp.rank L i (j + 1) = Cp.rank L i j + 1 := by unfold Cp.rank; rw [Cp.posTo_letter h]; simp
theorem rank_none {L : List (List Int)} {i j : Nat} (h : ¬ Cp.ok L i j) : Cp.rank L i (j + 1) = Cp.rank L i j := by unfold Cp.rank; rw [Cp.posTo_none h]
theorem rank_row (n : List ByteArray) (i : Nat) : Cp.rank (labs n) i (n.getD i ByteArray.empty).size = Cp.rank (labs n) (i + 1) 0 := by unfold Cp.rank; rw [← labs_lab_len, Cp.posTo_row rfl]

/-- What the document's answer lays for a letter. -/
theorem small_sized {c : Int} (h : Cp.isL c = true) : Cp.sized c true = Nm.foI c - 32 ∧ Cp.sized c false = Nm.foI c ∧ Cp.isL (Nm.foI c) = true ∧ 97 ≤ Nm.foI c ∧ Nm.foI c ≤ 122 := by
  have hb := (Cp.isL_iff c).1 h
  rw [Cp.isL_iff]
  unfold Nm.foI Cp.sized
  simp only [Bool.false_eq_true, if_true, if_false]
  refine ⟨?_, ?_, ?_, ?_, ?_⟩ <;> (repeat' split) <;> omega
theorem small_none {c : Int} (h : ¬ Cp.isL c = true) : Nm.foI c = c := by
  rw [Cp.isL_iff] at h
  unfold Nm.foI; split <;> omega

set_option maxHeartbeats 8000000 in
set_option maxRecDepth 100000 in
theorem mixed_any (x y : Option Addr) (c d m : Nat) (n : List ByteArray) (bits : List Bool) (w : World) (h : Strs w x c n) (hy : Bols w y d bits) (hm : bits.length = m) (hk : nL n ≤ bits.length) :
    Calls Tryd.prog 7 #[.slice x n.length c, .slice y m d] w fun e w' => ∃ z cz, e = .returned (.slice z n.length cz) ∧ Strs w' z cz (mixS n bits) ∧ Below w.heap.size w w' := by
  have hl : n.length ≤ 8796093022208 := h.2.1
  have hbl : bits.length ≤ 140737488355328 := hy.2.1
  obtain ⟨i0, hi, hz0, hz1, hz2⟩ := info_parts info_byte
  obtain ⟨i1, gi, gz0, gz1, gz2⟩ := info_parts info_string
  have HM := hid hm
  clear hm
  go_enter Tryd.func7, Tryd.ntmps7
  go_wp2_with fail
  go_loopw [5, 6, 7] (fun vo vc vi wr => ∃ i : Nat, i ≤ n.length ∧ vi = .int .i64 (i : Int) ∧ vc = .int .i64 (Cp.rank (labs n) i 0 : Int) ∧ Rowt wr w.heap.size vo (mixes n bits i) ∧ Below w.heap.size w wr) (fun _ _ vi _ => n.length - (intOf vi).toNat)
  case atStart => exact ⟨0, Nat.zero_le _, rfl, rfl, World.ownsRow_nil _ _ _ _, Below.refl _ _⟩
  case round =>
    obtain ⟨i, hi1, rfl, rfl, hrow, hbel⟩ := hrel
    obtain ⟨w3, hw3⟩ : ∃ u, u = wr := ⟨_, rfl⟩
    subst hw3
    by_cases h1 : i < n.length
    · have r1 : (i : Int) < (n.length : Int) := by omega
      have HR := hid hrow
      have HB := hid hbel
      clear hrow hbel
      go_wp2_with fail
      go_loopw [6, 8, 9] (fun vc vl vj wr => ∃ j : Nat, j ≤ (n.getD i ByteArray.empty).size ∧ vj = .int .i64 (j : Int) ∧ vc = .int .i64 (Cp.rank (labs n) i j : Int) ∧ Rowb wr w.heap.size vl (mixTo n bits i j) ∧ Rowt wr w.heap.size _ (mixes n bits i) ∧ Below w.heap.size w wr) (fun _ _ vj _ => (n.getD i ByteArray.empty).size - (intOf vj).toNat)
      case atStart => exact ⟨0, Nat.zero_le _, rfl, rfl, World.ownsRow_nil _ _ _ _, HR.out, HB.out⟩
      case round =>
        obtain ⟨j, hj1, rfl, rfl, hrb, hrt, hbel⟩ := hrel
        have hB := hbel.size
        obtain ⟨_, _, sa, da⟩ := h.below hbel
        rcases da with da | ⟨ba, oa, rfl, hba, qa⟩
        · rw [da] at h1; simp at h1
        have fa := qa i h1
        have na := getD_mem_size sa i
        have EL := hid (labs_lab_len n i)
        have EA := hid (labs_at n i)
        have LROW := hid (rank_row n i)
        have MN := hid (mixes_next n bits i)
        have MT := hid (mixTo_next n bits i j)
        have LT := mixTo_len n bits i j
        have LS := mixes_len n bits i
        clear qa sa
        generalize n.getD i ByteArray.empty = s at *
        generalize hr0 : mixTo n bits i j = row at *
        have HR0 := hid hr0
        clear hr0
        generalize mixes n bits i = rows at *
        have HLT := hid LT
        have HLS := hid LS
        clear LT LS
        have hl1 : row.length ≤ 140737488355328 := by have := HLT.out; omega
        have hl2 : rows.length ≤ 8796093022207 := by have := HLS.out; omega
        by_cases h2 : j < s.size
        · have EA2 := EA.out j h2
          have EB := u8_bound s[j]
          have r2 : (j : Int) < (s.size : Int) := by omega
          have HB2 := hid hbel
          have HRB := hid hrb
          have HRT := hid hrt
          have hl3 : row.length ≤ 140737488355327 := by have := HLT.out; omega
          clear hl1
          by_cases hlt : Cp.isL (s[j].toNat : Int) = true
          · have hok : Cp.ok (labs n) i j := ⟨by simpa using h1, by rw [EL.out]; exact h2, by rw [EA2]; exact hlt⟩
            have hrk : Cp.rank (labs n) i j < bits.length := Nat.lt_of_lt_of_le (Cp.rank_lt hok) hk
            have hrm : (Cp.rank (labs n) i j : Int) < (m : Int) := by rw [← HM.out]; omega
            have RK := hid (rank_letter hok)
            obtain ⟨f1, f2, f3, f4, f5⟩ := small_sized hlt
            have hval : Cp.val (labs n) bits i j = Cp.sized (s[j].toNat : Int) (bits.getD (Cp.rank (labs n) i j) false) := by unfold Cp.val; rw [if_pos hok, EA2]
            rw [hval] at MT
            obtain ⟨_, _, yd⟩ := hy.below hbel
            rcases yd with yd | ⟨bb, ob, rfl, _, qb⟩
            · rw [yd] at hrk; simp at hrk
            have cb := qb _ hrk
            obtain ⟨k, hkk⟩ : ∃ k, Cp.rank (labs n) i j = k := ⟨_, rfl⟩
            rw [hkk] at cb hrm RK MT
            rw [hkk]
            have hkb : k ≤ 140737488355328 := by omega
            have hw1 : 0 < whichL (Nm.foI (s[j].toNat : Int)) := (whichL_pos _).2 f3
            have F1 := hid f1
            have F2 := hid f2
            have HB3 := u8_bound s[j]
            clear hlt hok EA2 EA EL hrb hrt hbel hval qb f1 f2 f3 hkk hrk hba
            go_wp2_with fail
            refine (small_any _ wr EB.1 EB.2).mono ?_
            rintro e w' ⟨rfl, rfl⟩
            generalize Nm.foI (s[j].toNat : Int) = f at *
            go_wp2_with fail
            refine (letter_any f w' (by omega) (by omega)).mono ?_
            rintro e w'' ⟨rfl, rfl⟩
            have hown : World.ownsRow _ _ _ _ _ _ _ := HRB.out
            obtain ⟨bt, hbt⟩ : ∃ bt, bits.getD k false = bt := ⟨_, rfl⟩
            rw [hbt] at cb MT
            clear hbt
            cases bt
            · rw [F2.out] at MT
              go_wp2_with (at_builtin; refine wpList_append_own _ rfl _ _ 40 rfl w.heap.size 5 i0 (.int .u8 0) 1 1 Tryd.underlying40 hi hz0 hz1 hz2 rfl (by decide) _ _ _ rfl (hown.alloc _) ⟨_, 0, none⟩ 1 1 [.int .u8 f] rfl rfl (cells_new _ [.int .u8 f] 5) (one_cells [f]) (by unfold maxLen; omega) (by omega) (by simp; omega) ?_)
              intro v' w2 hown' hgrow _
              have hrb2 : Rowb w2 w.heap.size v' (row ++ [f]) := Rowb.of hown' (by simp) (by simp)
              rw [← MT.out] at hrb2
              have hbel2 := grown_below HRB.out HB2.out hB (grown_alloc hgrow)
              have hrt2 : Rowt w2 w.heap.size _ rows := World.ownsRow.kept HRT.out (grown_alloc hgrow) (apart HRT.out HRB.out).1
              clear hown hown' hgrow
              go_wp2_with fail
              exact ⟨⟨j + 1, by omega, by go_num, by rw [RK.out]; go_num, hrb2, hrt2, hbel2⟩, by simp [intOf]; omega⟩
            · rw [F1.out] at MT
              go_wp2_with (at_builtin; refine wpList_append_own _ rfl _ _ 40 rfl w.heap.size 5 i0 (.int .u8 0) 1 1 Tryd.underlying40 hi hz0 hz1 hz2 rfl (by decide) _ _ _ rfl (hown.alloc _) ⟨_, 0, none⟩ 1 1 [.int .u8 (f - 32)] rfl rfl (cells_new _ [.int .u8 (f - 32)] 5) (one_cells [f - 32]) (by unfold maxLen; omega) (by omega) (by simp; omega) ?_)
              intro v' w2 hown' hgrow _
              have hrb2 : Rowb w2 w.heap.size v' (row ++ [f - 32]) := Rowb.of hown' (by simp) (by simp)
              rw [← MT.out] at hrb2
              have hbel2 := grown_below HRB.out HB2.out hB (grown_alloc hgrow)
              have hrt2 : Rowt w2 w.heap.size _ rows := World.ownsRow.kept HRT.out (grown_alloc hgrow) (apart HRT.out HRB.out).1
              clear hown hown' hgrow
              go_wp2_with fail
              exact ⟨⟨j + 1, by omega, by go_num, by rw [RK.out]; go_num, hrb2, hrt2, hbel2⟩, by simp [intOf]; omega⟩
          · have hno : ¬ Cp.ok (labs n) i j := fun q => hlt (by have := q.2.2; rwa [EA2] at this)
            have RK := hid (rank_none hno)
            have hval : Cp.val (labs n) bits i j = (s[j].toNat : Int) := by unfold Cp.val; rw [if_neg hno, EA2]
            have hfo := small_none hlt
            have hw1 : ¬ 0 < whichL (s[j].toNat : Int) := fun q => hlt ((whichL_pos _).1 q)
            rw [hval] at MT
            have HFO := hid hfo
            clear hlt hno EA2 EA EL hrb hrt hbel hval hfo
            go_wp2_with fail
            refine (small_any _ wr EB.1 EB.2).mono ?_
            rintro e w' ⟨rfl, rfl⟩
            rw [HFO.out]
            go_wp2_with fail
            refine (letter_any _ w' EB.1 EB.2).mono ?_
            rintro e w'' ⟨rfl, rfl⟩
            have hown : World.ownsRow _ _ _ _ _ _ _ := HRB.out
            go_wp2_with (at_builtin; refine wpList_append_own _ rfl _ _ 40 rfl w.heap.size 5 i0 (.int .u8 0) 1 1 Tryd.underlying40 hi hz0 hz1 hz2 rfl (by decide) _ _ _ rfl (hown.alloc _) ⟨_, 0, none⟩ 1 1 [.int .u8 (s[j].toNat : Int)] rfl rfl (cells_new _ [.int .u8 (s[j].toNat : Int)] 5) (one_cells [(s[j].toNat : Int)]) (by unfold maxLen; omega) (by omega) (by simp; omega) ?_)
            intro v' w2 hown' hgrow _
            have hrb2 : Rowb w2 w.heap.size v' (row ++ [(s[j].toNat : Int)]) := Rowb.of hown' (by simp) (by simp)
            rw [← MT.out] at hrb2
            have hbel2 := grown_below HRB.out HB2.out hB (grown_alloc hgrow)
            have hrt2 : Rowt w2 w.heap.size _ rows := World.ownsRow.kept HRT.out (grown_alloc hgrow) (apart HRT.out HRB.out).1
            clear hown hown' hgrow
            go_wp2_with fail
            exact ⟨⟨j + 1, by omega, by go_num, by rw [RK.out], hrb2, hrt2, hbel2⟩, by simp [intOf]; omega⟩
        · have r2 : ¬ (j : Int) < (s.size : Int) := by omega
          obtain rfl : j = s.size := by omega
          have hconv := rowb_conv hrb
          rw [LROW.out]
          have hown : World.ownsRow _ _ _ _ _ _ _ := hrt
          have HRT := hid hrt
          have HB2 := hid hbel
          clear hrt hbel
          go_wp2_with (at_builtin; refine wpList_append_own _ rfl _ _ 22 rfl w.heap.size 9 i1 (.string ByteArray.empty) 1 16 Tryd.underlying22 gi gz0 gz1 gz2 rfl (by decide) _ _ _ rfl (hown.alloc _) ⟨_, 0, none⟩ 1 1 [.string (strOfNums row)] rfl rfl (cells_new _ [.string (strOfNums row)] 9) (one_string _) (by unfold maxLen; omega) (by omega) (by simp; omega) ?_)
          intro v' w2 hown' hgrow _
          have hrt2 : Rowt w2 w.heap.size v' (rows ++ [row]) := Rowt.of hown' (by simp) (by simp)
          have hbel2 := grown_below HRT.out HB2.out hB (grown_alloc hgrow)
          have hR0 := HR0.out
          clear hown hown' hgrow hconv HR0
          rw [← hR0, ← MN.out] at hrt2
          clear hR0
          go_wp2_with fail
          exact ⟨⟨i + 1, by omega, by go_num, rfl, hrt2, hbel2⟩, by simp [intOf]; omega⟩
    · have r1 : ¬ (i : Int) < (n.length : Int) := by omega
      obtain rfl : i = n.length := by omega
      obtain ⟨z, cz, rfl, hz⟩ := rowt_strs_any hrow (mixes_size bits h.2.2.1) (by rw [mixes_len]; exact hl)
      rw [mixes_len]
      rw [mixes_all] at hz
      go_wp2_with fail
      go_ret
      exact ⟨_, _, rfl, hz, hbel⟩

end Go.Proofs.YtgfplkhcihcagabDoor
