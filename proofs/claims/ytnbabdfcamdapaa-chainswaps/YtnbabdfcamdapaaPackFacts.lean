/-
  Plain facts on what Write and Pack make, with no program in sight: it is read as it was, from its first label on and from each label that was written; it is no longer with a pointer; what stands ahead stays.
-/
import Derived.Test.YtnbabdfcamdapaaMsgPack
namespace Go.Proofs.Ytnbabdfcamdapaa
open Go.RowKit Go.Deep

theorem getD_second (pre : List Int) (x y : Int) : (pre ++ [x, y]).getD (pre.length + 1) 0 = y := by
  rw [List.getD_eq_getElem?_getD, List.getElem?_append_right (by omega), Nat.add_sub_cancel_left]; rfl

/-- Labels behind a message, then an end or a pointer into it, are read from there on. -/
theorem read_out {ms pre' : List Int} {n L : List (List Int)} {count : Nat} {to : Int} (hb : ∀ b ∈ ms, 0 ≤ b ∧ b ≤ 255) (ho : n.all Nm.okL = true) (ht : Nm.total n + Nm.total L ≤ 254)
    (h0 : count = 0 → L = []) (h1 : ¬ count = 0 → 0 ≤ to ∧ to ≤ 16383 ∧ ∃ e, readW ms to = (0, L, e)) :
    readW (ms ++ pre' ++ Nm.sentL n ++ tailN count to) (((ms ++ pre').length : Nat) : Int) = (0, n ++ L, (ms ++ pre' ++ Nm.sentL n ++ tailN count to).length) := by
  unfold readW
  rw [if_neg (by omega), Int.toNat_natCast]
  refine Nm.rd_sent n (ms ++ pre') (tailN count to) (ms ++ pre').length 1 L _ ho (by omega) ?_
  have hq : (ms ++ pre').length + Nm.total n = (ms ++ pre' ++ Nm.sentL n).length := by rw [← Nm.sentL_length n]; exact List.length_append.symm
  rw [hq]
  by_cases c : count = 0
  · have e : tailN count to = [0] := by unfold tailN; rw [if_pos c]
    rw [e, h0 c, Nm.rdA_eq, if_neg (by simp), if_pos (Nm.getD_at _ _ _)]
    simp; omega
  · obtain ⟨t0, t1, e, hr⟩ := h1 c
    have e1 : tailN count to = [192 + to / 256, to % 256] := by unfold tailN; rw [if_neg c]
    rw [e1]
    obtain ⟨m0, m1, m2, m3, m4⟩ := readW_may hb hr
    obtain ⟨_, hr2⟩ := readW_ok hr
    generalize hQ : ms ++ pre' ++ Nm.sentL n = q at *
    have g0 := Nm.getD_at q [to % 256] (192 + to / 256)
    have g1 := getD_second q (192 + to / 256) (to % 256)
    have hp : Nm.place (q ++ [192 + to / 256, to % 256]) q.length = to.toNat := by
      unfold Nm.place
      rw [g0, g1]
      congr 1
      omega
    have hl : to.toNat < (ms ++ pre').length := by rw [List.length_append]; omega
    have hr3 : Nm.rdA (q ++ [192 + to / 256, to % 256]) to.toNat to.toNat (1 + Nm.total n) = (0, L, e) := by
      have := Nm.rdA_size (Nm.rdA_behind (pre' ++ Nm.sentL n ++ [192 + to / 256, to % 256]) hr2) (size' := 1 + Nm.total n) (by omega)
      rw [← hQ]
      simpa [List.append_assoc] using this
    rw [Nm.rdA_eq, if_neg (by simp), if_neg (by rw [g0]; omega), if_pos (by rw [g0]; omega), if_neg (by simp), if_neg (by rw [hp]; omega), hp, hr3]
    simp [Nm.ends]

theorem look_nil (ms : List Int) (n : List ByteArray) : lookN ms n [] = ([], 0, 0) := rfl

theorem take_ok {n : List (List Int)} (h : n.all Nm.okL = true) (k : Nat) : (n.take k).all Nm.okL = true := by
  rw [List.all_eq_true] at *
  exact fun l hl => h l (List.mem_of_mem_take hl)
theorem drop_ok {n : List (List Int)} (h : n.all Nm.okL = true) (k : Nat) : (n.drop k).all Nm.okL = true := by
  rw [List.all_eq_true] at *
  exact fun l hl => h l (List.mem_of_mem_drop hl)

theorem total_split (n : List (List Int)) (k : Nat) : Nm.total (n.take k) + Nm.total (n.drop k) = Nm.total n := by
  rw [← Nm.total_append, List.take_append_drop]

/-- What was written is read. -/
theorem read_written {ms : List Int} {n : List (List Int)} (hb : ∀ b ∈ ms, 0 ≤ b ∧ b ≤ 255) (hk : Nm.checkN n = 0) : readW (ms ++ Nm.sentL n ++ [0]) (ms.length : Int) = (0, n, (ms ++ Nm.sentL n ++ [0]).length) := by
  obtain ⟨ho, ht⟩ := check_zero hk
  have := read_out (pre' := []) (L := []) (count := 0) (to := 0) hb ho (by simp [Nm.total] at *; omega) (fun _ => rfl) (fun q => absurd rfl q)
  simpa [tailN] using this

/-- What was packed is read, from each of the labels that was written on. -/
theorem read_packed {ms starts : List Int} {n : List ByteArray} (hb : ∀ b ∈ ms, 0 ≤ b ∧ b ≤ 255) (hk : Nm.checkN (n.map Nm.bs) = 0) (i : Nat) (hi : i ≤ n.length - (lookN ms n starts).2.1) :
    readW (packOut ms n starts) ((ms.length + Nm.total ((n.map Nm.bs).take i) : Nat) : Int) = (0, (n.map Nm.bs).drop i, (packOut ms n starts).length) := by
  obtain ⟨ho, ht⟩ := check_zero hk
  have LKD := looked ms n hb starts
  unfold packOut
  generalize lookN ms n starts = s at *
  obtain ⟨T, count, to⟩ := s
  obtain ⟨_, hcn, ht0, ht1⟩ := LKD
  simp only at hi hcn ht0 ht1 ⊢
  have hnl : (n.map Nm.bs).length = n.length := by simp
  generalize n.map Nm.bs = nb at *
  generalize hkk : n.length - count = k at *
  have e1 : nb.take k = nb.take i ++ (nb.take k).drop i := by
    conv => lhs; rw [← List.take_append_drop i (nb.take k)]
    rw [List.take_take, Nat.min_eq_left hi]
  have e2 : nb.drop i = (nb.take k).drop i ++ nb.drop k := by
    conv => lhs; rw [← List.take_append_drop k nb]
    rw [List.drop_append_of_le_length (by rw [List.length_take]; omega)]
  have hsum : Nm.total ((nb.take k).drop i) + Nm.total (nb.drop k) ≤ 254 := by
    have a1 := total_split nb k
    have a2 := total_split (nb.take k) i
    omega
  have key := read_out (ms := ms) (pre' := Nm.sentL (nb.take i)) (n := (nb.take k).drop i) (L := nb.drop k) (count := count) (to := to) hb (drop_ok (take_ok ho k) i) hsum
    (fun q => by rw [List.drop_eq_nil_iff]; omega) ht1
  rw [← e2] at key
  have e3 : ms ++ Nm.sentL (nb.take i) ++ Nm.sentL ((nb.take k).drop i) = ms ++ Nm.sentL (nb.take k) := by
    rw [List.append_assoc, ← Nm.sentL_append, ← e1]
  have e4 : (ms ++ Nm.sentL (nb.take i)).length = ms.length + Nm.total (nb.take i) := by rw [List.length_append, Nm.sentL_length]
  rw [e3, e4] at key
  exact key

theorem pack_len {ms starts : List Int} {n : List ByteArray} (hb : ∀ b ∈ ms, 0 ≤ b ∧ b ≤ 255) : ms.length ≤ (packOut ms n starts).length ∧ (packOut ms n starts).length ≤ (ms ++ Nm.sentL (n.map Nm.bs) ++ [0]).length := by
  have LKD := looked ms n hb starts
  unfold packOut
  generalize lookN ms n starts = s at *
  obtain ⟨T, count, to⟩ := s
  obtain ⟨_, hcn, _, _⟩ := LKD
  simp only at hcn ⊢
  have hnl : (n.map Nm.bs).length = n.length := by simp
  generalize n.map Nm.bs = nb at *
  rw [List.length_append, List.length_append, List.length_append, List.length_append, Nm.sentL_length, Nm.sentL_length]
  have a1 := total_split nb (n.length - count)
  refine ⟨by omega, ?_⟩
  unfold tailN
  by_cases c : count = 0
  · rw [if_pos c]; simp; omega
  · rw [if_neg c]
    have : 1 ≤ Nm.total (nb.drop (n.length - count)) := by
      cases hd : nb.drop (n.length - count) with
      | nil => rw [List.drop_eq_nil_iff] at hd; omega
      | cons a l => rw [Nm.total_cons]; omega
    simp; omega

theorem pack_ahead (ms starts : List Int) (n : List ByteArray) : (packOut ms n starts).take ms.length = ms := by
  unfold packOut
  rw [List.append_assoc, List.take_left]

theorem pack_behind (ms starts : List Int) (n : List ByteArray) : ∃ more, packOut ms n starts = ms ++ more := by
  unfold packOut
  exact ⟨_, List.append_assoc _ _ _⟩

/-! ### The places -/

theorem total_mono (nb : List (List Int)) {i j : Nat} (h : i ≤ j) : Nm.total (nb.take i) ≤ Nm.total (nb.take j) := by
  have : nb.take i = (nb.take j).take i := by rw [List.take_take, Nat.min_eq_left h]
  rw [this]
  exact flat_take_len _ i

theorem places_row (len : Nat) (nb : List (List Int)) (k : Nat) : ∃ j, j ≤ k ∧ placesN len nb k = (List.range j).map (fun i => ((len + Nm.total (nb.take i) : Nat) : Int)) ∧ (j < k → ¬ len + Nm.total (nb.take j) ≤ 16383) := by
  induction k with
  | zero => exact ⟨0, Nat.le_refl _, rfl, fun q => by omega⟩
  | succ k ih =>
    obtain ⟨j, h1, h2, h3⟩ := ih
    by_cases c : len + Nm.total (nb.take k) ≤ 16383
    · have hj : j = k := by
        rcases Nat.lt_or_ge j k with q | q
        · have := h3 q
          have := total_mono nb h1
          omega
        · omega
      subst hj
      refine ⟨j + 1, Nat.le_refl _, ?_, fun q => by omega⟩
      rw [places_yes len nb j c, h2, List.range_succ, List.map_append]
      rfl
    · refine ⟨j, by omega, by rw [places_no len nb k c, h2], fun _ => ?_⟩
      rcases Nat.lt_or_ge j k with q | q
      · exact h3 q
      · have : j = k := by omega
        rw [this]; exact c

theorem places_get {len : Nat} {nb : List (List Int)} {k i : Nat} (h : i < (placesN len nb k).length) : i < k ∧ (placesN len nb k).getD i 0 = ((len + Nm.total (nb.take i) : Nat) : Int) := by
  obtain ⟨j, h1, h2, _⟩ := places_row len nb k
  rw [h2] at h ⊢
  rw [List.length_map, List.length_range] at h
  refine ⟨by omega, ?_⟩
  rw [List.getD_eq_getElem?_getD, List.getElem?_map, List.getElem?_range h]
  rfl

/-- Each place that is told is one where a name is read. -/
theorem packed_each {ms starts : List Int} {n : List ByteArray} (hb : ∀ b ∈ ms, 0 ≤ b ∧ b ≤ 255) (hk : Nm.checkN (n.map Nm.bs) = 0) : ∀ z ∈ packTold ms n starts, (readW (packOut ms n starts) z).1 = 0 := by
  intro z hz
  unfold packTold at hz
  rcases List.mem_append.1 hz with q | q
  · have := (looked ms n hb starts).1 z q
    obtain ⟨more, e⟩ := pack_behind ms starts n
    rw [e]
    have r : readW ms z = (0, (readW ms z).2.1, (readW ms z).2.2) := by rw [← this]
    rw [readW_behind more r]
  · obtain ⟨i, hi, e⟩ := List.getElem_of_mem q
    have g := places_get hi
    rw [List.getD_eq_getElem?_getD, List.getElem?_eq_getElem hi, e] at g
    simp only [Option.getD_some] at g
    rw [g.2, read_packed hb hk i (by omega)]

end Go.Proofs.Ytnbabdfcamdapaa
