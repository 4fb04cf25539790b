/-
  Plain facts on a record that was written: it is found as it was; another TTL laid over its own makes the record with that one; and bytes in memory that are stored over.
-/
import Derived.Test.YtnbabdfcamdapaaRrRead
import Derived.Test.YtnbabdfcamdapaaRrWrite
import Derived.Test.YtnbabdfcamdapaaPackFacts
namespace Go.Proofs.Ytnbabdfcamdapaa
open Go.RowKit Go.Deep

theorem cut_behind (P F : List Int) (i k : Nat) : Nm.cut (P ++ F) (P.length + i) k = Nm.cut F i k := by
  unfold Nm.cut
  rw [← List.drop_drop, List.drop_left]

theorem getD_behind (P F : List Int) (i : Nat) : (P ++ F).getD (P.length + i) 0 = F.getD i 0 := by
  rw [List.getD_eq_getElem?_getD, List.getD_eq_getElem?_getD, List.getElem?_append_right (by omega), Nat.add_sub_cancel_left]

theorem two_num (n : Int) (h0 : 0 ≤ n) (h1 : n ≤ 65535) : numN (twoN n) = n := by
  simp [numN, twoN]
  omega

theorem four_num (n : Int) (h0 : 0 ≤ n) (h1 : n ≤ 4294967295) : numN (twoN (n / 65536) ++ twoN n) = n := by
  simp [numN, twoN]
  omega

theorem recE_zero {n : List ByteArray} {ty cl ttl : Int} {D : List Int} (h : recE n ty cl ttl D = 0) : Nm.checkN (n.map Nm.bs) = 0 ∧ (0 ≤ ty ∧ ty ≤ 65535) ∧ (0 ≤ cl ∧ cl ≤ 65535) ∧ (0 ≤ ttl ∧ ttl ≤ 4294967295) ∧ D.length ≤ 65535 := by
  unfold recE at h
  by_cases k0 : Nm.checkN (n.map Nm.bs) = 0
  · rw [if_neg (by simp [k0])] at h
    by_cases k1 : (0 ≤ ty ∧ ty ≤ 65535) ∧ (0 ≤ cl ∧ cl ≤ 65535) ∧ (0 ≤ ttl ∧ ttl ≤ 4294967295)
    · rw [if_neg (by simp only [Decidable.not_not]; exact k1)] at h
      by_cases k2 : 65535 < D.length
      · rw [if_pos k2] at h; simp at h
      · exact ⟨k0, k1.1, k1.2.1, k1.2.2, by omega⟩
    · rw [if_pos k1] at h; simp at h
  · rw [if_pos k0] at h; exact absurd h k0

/-- A record that was written is found, with more bytes behind it too. -/
theorem rec_found {ms starts more : List Int} {n : List ByteArray} {ty cl ttl : Int} {D : List Int} (hb : ∀ b ∈ ms, 0 ≤ b ∧ b ≤ 255) (hk : Nm.checkN (n.map Nm.bs) = 0) (hd : D.length ≤ 65535) :
    recW (packOut ms n starts ++ fieldsN ty cl ttl D ++ more) (ms.length : Int) = (0, n.map Nm.bs, (packOut ms n starts).length, (packOut ms n starts).length + 10 + D.length) := by
  have R := read_packed (starts := starts) hb hk 0 (Nat.zero_le _)
  have e0 : ms.length + Nm.total ((n.map Nm.bs).take 0) = ms.length := by simp [Nm.total]
  rw [e0] at R
  simp only [List.drop_zero] at R
  have R2 := readW_behind (fieldsN ty cl ttl D ++ more) R
  rw [← List.append_assoc] at R2
  have hp : pairN (packOut ms n starts ++ fieldsN ty cl ttl D ++ more) ((packOut ms n starts).length + 8) = D.length := by
    unfold pairN
    rw [List.append_assoc, Nat.add_assoc, getD_behind, getD_behind]
    simp [fieldsN, twoN]
    omega
  have hl : (packOut ms n starts ++ fieldsN ty cl ttl D ++ more).length = (packOut ms n starts).length + 10 + D.length + more.length := by
    rw [List.length_append, List.length_append, fields_len]; omega
  unfold recW
  rw [R2]
  simp only
  rw [if_neg (by simp), hp, hl, if_neg (by omega), if_neg (by omega)]

theorem rec_ty (P more : List Int) {ty cl ttl : Int} {D : List Int} (h0 : 0 ≤ ty) (h1 : ty ≤ 65535) : numN (Nm.cut (P ++ fieldsN ty cl ttl D ++ more) P.length 2) = ty := by
  have := cut_behind P (fieldsN ty cl ttl D ++ more) 0 2
  rw [Nat.add_zero] at this
  rw [List.append_assoc, this]
  have e : Nm.cut (fieldsN ty cl ttl D ++ more) 0 2 = twoN ty := by simp [Nm.cut, fieldsN, twoN]
  rw [e]
  exact two_num ty h0 h1

theorem rec_cl (P more : List Int) {ty cl ttl : Int} {D : List Int} (h0 : 0 ≤ cl) (h1 : cl ≤ 65535) : numN (Nm.cut (P ++ fieldsN ty cl ttl D ++ more) (P.length + 2) 2) = cl := by
  rw [List.append_assoc, cut_behind]
  have e : Nm.cut (fieldsN ty cl ttl D ++ more) 2 2 = twoN cl := by simp [Nm.cut, fieldsN, twoN]
  rw [e]
  exact two_num cl h0 h1

theorem rec_ttl (P more : List Int) {ty cl ttl : Int} {D : List Int} (h0 : 0 ≤ ttl) (h1 : ttl ≤ 4294967295) : numN (Nm.cut (P ++ fieldsN ty cl ttl D ++ more) (P.length + 4) 4) = ttl := by
  rw [List.append_assoc, cut_behind]
  have e : Nm.cut (fieldsN ty cl ttl D ++ more) 4 4 = twoN (ttl / 65536) ++ twoN ttl := by simp [Nm.cut, fieldsN, twoN]
  rw [e]
  exact four_num ttl h0 h1

theorem rec_data (P more : List Int) {ty cl ttl : Int} {D : List Int} : Nm.cut (P ++ fieldsN ty cl ttl D ++ more) (P.length + 10) D.length = D := by
  rw [List.append_assoc, cut_behind]
  simp [Nm.cut, fieldsN, twoN]

/-- Another TTL laid over. -/
theorem rec_put (P : List Int) (ty cl ttl t : Int) (D : List Int) (h0 : 0 ≤ t) (h1 : t ≤ 4294967295) :
    ((((P ++ fieldsN ty cl ttl D).set (P.length + 4) (t / 16777216)).set (P.length + 5) (t / 65536 % 256)).set (P.length + 6) (t / 256 % 256)).set (P.length + 7) (t % 256) = P ++ fieldsN ty cl t D := by
  have e : t / 16777216 = t / 65536 / 256 % 256 := by omega
  rw [e]
  simp [fieldsN, twoN, List.set_append_right]

theorem Bys.put {w : World} {g c : Nat} {ms : List Int} (h : Bys w (some ⟨g, 0, none⟩) c ms) {C : Array Value} (hc : Bl 5 w g C) (i : Nat) (v : Int) (h0 : 0 ≤ v) (h1 : v ≤ 255) : Bys (w.setCell ⟨g, i, none⟩ (.int .u8 v)) (some ⟨g, 0, none⟩) c (ms.set i v) := by
  obtain ⟨a1, a2, a3, a4⟩ := h
  refine ⟨by rw [List.length_set]; exact a1, by rw [List.length_set]; exact a2, fun b hb => ?_, ?_⟩
  · rcases List.mem_or_eq_of_mem_set hb with q | q
    · exact a3 b q
    · rw [q]; exact ⟨h0, h1⟩
  · rcases a4 with a4 | ⟨b, off, e, hlt, hq⟩
    · left; rw [a4]; rfl
    · cases e
      refine Or.inr ⟨g, 0, rfl, by simpa [World.setCell] using hlt, fun j hj => ?_⟩
      rw [List.length_set] at hj
      have hs := hc.set i (.int .u8 v)
      have hj2 := hq j hj
      rw [Nat.zero_add] at hj2 ⊢
      have hcj : C[j]? = some (.int .u8 (ms.getD j 0)) := by
        unfold Bl at hc
        simpa [World.cell?, hc] using hj2
      refine hs.cell (i := j) ?_
      by_cases q : i = j
      · subst q
        have hi : i < C.size := by
          rcases Nat.lt_or_ge i C.size with r | r
          · exact r
          · rw [Array.getElem?_eq_none r] at hcj; cases hcj
        rw [Array.getElem?_setIfInBounds_self_of_lt hi, List.getD_eq_getElem?_getD, List.getElem?_set_self hj]
        rfl
      · rw [Array.getElem?_setIfInBounds_ne q, hcj, List.getD_eq_getElem?_getD, List.getD_eq_getElem?_getD, List.getElem?_set_ne q]

theorem rowb_open {w : World} {B : Nat} {v : Value} {xs : List Int} (h : Rowb w B v xs) (hp : 0 < xs.length) (hl : xs.length ≤ 200000000000000) (hb : ∀ b ∈ xs, 0 ≤ b ∧ b ≤ 255) :
    ∃ g cap C, v = .slice (some ⟨g, 0, none⟩) xs.length cap ∧ B ≤ g ∧ Bl 5 w g C ∧ Bys w (some ⟨g, 0, none⟩) cap xs := by
  have h0 := h
  rcases h.2 with ⟨rfl, h4⟩ | ⟨g, cap, cur, rfl, hg, hh, _⟩
  · omega
  · obtain ⟨x, c, e, hs⟩ := rowb_bys h0 hl hb
    cases e
    exact ⟨g, cap, cur, rfl, hg, hh, hs⟩

end Go.Proofs.Ytnbabdfcamdapaa
