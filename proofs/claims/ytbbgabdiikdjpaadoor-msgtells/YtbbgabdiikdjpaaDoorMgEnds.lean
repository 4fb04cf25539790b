/-
  The walk of endsOf: a name from each of its labels on, as it is sent, in new memory; nothing that was there is written.
-/
import Derived.Test.YtbbgabdiikdjpaaDoorMgW
import Derived.OwnWalk
namespace Go.Proofs.YtbbgabdiikdjpaaDoor
open Go.RowKit Go.Deep

/-- A name from each of its labels on. -/
def endsL (n : List ByteArray) : List ByteArray := (List.range n.length).map fun i => keyS (n.drop i)

theorem ends_get {n : List ByteArray} {i : Nat} (h : i < n.length) : (endsL n).getD i ByteArray.empty = keyS (n.drop i) := by
  unfold endsL
  rw [List.getD_eq_getElem?_getD, List.getElem?_map, List.getElem?_range h]
  rfl

theorem str_drop (xs : List Int) (k : Nat) (hb : ∀ x ∈ xs, 0 ≤ x ∧ x ≤ 255) : (strOfNums xs).extract k (strOfNums xs).size = strOfNums (xs.drop k) := by
  have h := bs_extract (strOfNums xs) k
  rw [bs_of xs hb] at h
  rw [← nums_bs ((strOfNums xs).extract k (strOfNums xs).size), h]

theorem sent_drop (nb : List (List Int)) (i : Nat) : (Nm.sentL nb ++ [0]).drop (Nm.total (nb.take i)) = Nm.sentL (nb.drop i) ++ [0] := by
  conv => lhs; rw [← List.take_append_drop i nb, Nm.sentL_append]
  rw [List.take_append_drop, List.append_assoc]
  have e : Nm.total (nb.take i) = (Nm.sentL (nb.take i)).length := (Nm.sentL_length _).symm
  rw [e, List.drop_left]

theorem total_one (n : List ByteArray) (i : Nat) (h : i < n.length) : Nm.total ((n.map Nm.bs).take (i + 1)) = Nm.total ((n.map Nm.bs).take i) + (1 + (n.getD i ByteArray.empty).size) := by
  have e : (n.map Nm.bs).take (i + 1) = (n.map Nm.bs).take i ++ [Nm.bs (n.getD i ByteArray.empty)] := by
    rw [List.take_succ_eq_append_getElem (by simpa using h), List.getElem_map, List.getD_eq_getElem?_getD, List.getElem?_eq_getElem h]
    rfl
  rw [e, Nm.total_append, Nm.total_cons, bs_length]
  simp [Nm.total]
  omega

theorem ends_bad {y : Option Addr} {d l : Nat} (k : Int) (n : List ByteArray) (w : World) (hn : Strs w y d n) (hl : n.length = l) (hk : Nm.checkN (n.map Nm.bs) = k) (k0 : ¬ k = 0) :
    Calls Tryd.prog 64 #[.slice y l d] w fun e w' => e = .returned (.tuple #[.slice none 0 0, .iface 29 (.int .i64 k)]) ∧ w = w' := by
  go_enter Tryd.func64, Tryd.ntmps64
  go_wp2_with fail
  refine (write_bad k n _ hn hl hk k0).mono ?_
  rintro e w1 ⟨rfl, rfl⟩
  go_wp2_with fail
  go_ret2
  exact ⟨rfl, rfl⟩

set_option maxHeartbeats 1000000 in
set_option maxRecDepth 100000 in
theorem ends_good {y : Option Addr} {d l : Nat} (n : List ByteArray) (w : World) (hn : Strs w y d n) (hl : n.length = l) (hk : Nm.checkN (n.map Nm.bs) = 0) :
    Calls Tryd.prog 64 #[.slice y l d] w fun e w' => ∃ z s, e = .returned (.tuple #[.slice z l s, .nilIface]) ∧ Strs w' z s (endsL n) ∧ Below w.heap.size w w' := by
  subst hl
  have hlen : n.length ≤ 8796093022208 := hn.2.1
  have K := hid hk
  have SB := hid (sent_ok hk)
  have h254 := check_len hk
  rw [List.length_map] at h254
  obtain ⟨i0, hi, hz0, hz1, hz2⟩ := info_parts info_string
  clear hk
  obtain ⟨W, hW⟩ : ∃ W, Nm.sentL (n.map Nm.bs) ++ [0] = W := ⟨_, rfl⟩
  have HW := hid hW
  have hpos : 0 < W.length := by rw [← hW]; simp
  have hWl : Hid (W.length = Nm.total (n.map Nm.bs) + 1) := hid (by rw [← hW, List.length_append, Nm.sentL_length]; rfl)
  rw [hW] at SB
  have hsz : (strOfNums W).size = W.length := by rw [← bs_length, bs_of W SB.out]
  have hszl : W.length ≤ 255 := by
    have := key_size K.out
    unfold keyS at this
    rw [hW, hsz] at this
    exact this
  clear hW
  go_enter Tryd.func64, Tryd.ntmps64
  go_wp2_with fail
  refine (write_good W [] n _ (Bys.nil w none 0) hn rfl rfl (by simp) K.out HW.out).mono ?_
  rintro e w1 ⟨x1, c1, rfl, hs1, b1⟩
  obtain ⟨bk, off, rfl, hlt, q⟩ : ∃ b off, x1 = some ⟨b, off, none⟩ ∧ b < w1.heap.size ∧ ∀ i, i < W.length → w1.cell? ⟨b, off + i, none⟩ = some (.int .u8 (W.getD i 0)) := by
    rcases hs1.2.2.2 with hd | hd
    · rw [hd] at hpos; simp at hpos
    · exact hd
  have hconv := run_convert_bytes_arg (P := Tryd.prog) w1 22 5 Tryd.underlying22 Tryd.underlying5 bk off W.length c1 W rfl q 9 Tryd.underlying9
  have B1 := hid b1
  clear q hs1 b1
  obtain ⟨S, hS⟩ : ∃ S, strOfNums W = S := ⟨_, rfl⟩
  rw [hS] at hconv hsz
  have HS := hid hS
  have HZ := hid hsz
  clear hS hsz
  go_wp2_with (at_make; refine wpList_make_full _ rfl _ _ 60 rfl w1.heap.size 9 i0 (.string ByteArray.empty) 1 Tryd.underlying60 hi hz0 hz1 _ _ _ _ n.length rfl rfl rfl rfl (by rw [hz2]; omega) (by unfold maxLen; omega) (Nat.le_refl _) ?_)
  intro w2 hown2 hg2
  obtain ⟨C, hC, hCs⟩ : ∃ C, Bl 9 w2 w1.heap.size C ∧ C.size = n.length := by
    rcases hown2.2 with ⟨e, _⟩ | ⟨g, cap, cur, e, _, hg, _, _, hcs, _⟩
    · cases e
    · cases e
      exact ⟨cur, hg, by simpa using hcs⟩
  have B2 := hid (B1.out.grown hg2 B1.out.size (fun k hk => by cases hk))
  have hgw : w.heap.size ≤ w1.heap.size := B1.out.size
  have KC := hid hC
  clear hown2 hg2 hC hconv hlt
  generalize w1.heap.size = g at *
  go_wp2_with fail
  go_loopw [8, 26] (fun va vi wr => ∃ (i : Nat) (C : Array Value), i ≤ n.length ∧ va = .int .i64 ((Nm.total ((n.map Nm.bs).take i) : Nat) : Int) ∧ vi = .int .i64 (i : Int) ∧ Bl 9 wr g C ∧ C.size = n.length ∧ (∀ j, j < i → C[j]? = some (.string (keyS (n.drop j)))) ∧ Below w.heap.size w wr) (fun _ i _ => n.length - (intOf i).toNat)
  case atStart => exact ⟨0, C, Nat.zero_le _, by simp [Nm.total], rfl, KC.out, hCs, fun j hj => by omega, B2.out⟩
  case round =>
    clear B2 KC hCs C
    obtain ⟨i, C, hi, rfl, rfl, hK, hCs, hall, hbel⟩ := hrel
    by_cases c1 : i < n.length
    · have hN := hn.below hbel
      obtain ⟨b0, o0, rfl, hb0, q0⟩ : ∃ b off, y = some ⟨b, off, none⟩ ∧ b < wr.heap.size ∧ ∀ i, i < n.length → wr.cell? ⟨b, off + i, none⟩ = some (.string (n.getD i ByteArray.empty)) := by
        rcases hN.2.2.2 with hd | hd
        · rw [hd] at c1; simp at c1
        · exact hd
      have q1 := q0 i c1
      have HT := hid (total_one n i c1)
      have hts : Nm.total ((n.map Nm.bs).take i) ≤ Nm.total (n.map Nm.bs) := by
        have := total_split (n.map Nm.bs) i
        omega
      have hle := hWl.out
      have HE : Hid (S.extract (Nm.total ((n.map Nm.bs).take i)) S.size = keyS (n.drop i)) := hid (by
        rw [← HS.out, str_drop W _ SB.out, ← HW.out, sent_drop]
        unfold keyS
        rw [List.map_drop])
      have hts2 : (n.getD i ByteArray.empty).size ≤ 140737488355328 := by
        have := hN.2.2.1
        rw [List.getD_eq_getElem?_getD, List.getElem?_eq_getElem c1]
        exact this _ (List.getElem_mem c1)
      generalize n.getD i ByteArray.empty = lab at *
      generalize Nm.total ((n.map Nm.bs).take i) = t at *
      have t1 : (t : Int) ≤ (S.size : Int) := by have := HZ.out; omega
      have t2 : (t : Int) ≤ 255 := by omega
      clear hle hts
      have c2 : (i : Int) < (n.length : Int) := by omega
      have cc : ∃ v, wr.cell? ⟨g, i, none⟩ = some v := ⟨C[i]'(by omega), hK.cell (i := i) (Array.getElem?_eq_getElem (by omega))⟩
      obtain ⟨v0, cc⟩ := cc
      have ff := hK.frozen i
      have HK := hid hK
      have HB := hid hbel
      have HA := hid hall
      clear q0 hK hbel hall hN hn
      go_wp2_with fail
      rw [HE.out]
      refine ⟨⟨i + 1, C.setIfInBounds i (.string (keyS (n.drop i))), by omega, ?_, by go_num, HK.out.set i _, by simpa using hCs, fun j hj => ?_, HB.out.setCell hgw _⟩, by simp [intOf]; omega⟩
      · rw [HT.out]; exact congrArg _ (by omega)
      · by_cases e : i = j
        · subst e
          rw [Array.getElem?_setIfInBounds_self_of_lt (by omega)]
        · rw [Array.getElem?_setIfInBounds_ne e]
          exact HA.out j (by omega)
    · have c2 : ¬ (i : Int) < (n.length : Int) := by omega
      go_wp2_with fail
      go_ret2
      refine ⟨_, _, rfl, ⟨by simp [endsL], by simp [endsL]; omega, fun s hs => ?_, ?_⟩, hbel⟩
      · obtain ⟨j, _, rfl⟩ := List.mem_map.1 hs
        have := key_size (check_drop K.out j)
        omega
      · rcases Nat.eq_zero_or_pos n.length with h0 | h0
        · left; simp [endsL, h0]
        · refine Or.inr ⟨g, 0, rfl, hK.lt, fun j hj => ?_⟩
          have hj2 : j < n.length := by simpa [endsL] using hj
          rw [ends_get hj2, Nat.zero_add]
          exact hK.cell (hall j (by omega))

end Go.Proofs.YtbbgabdiikdjpaaDoor
