/-
  The walk of the document's own NameText: a name's text, where the name may be. It only reads.
-/
import Derived.Test.YtbngafofmgcngaaDoorTextWalk
namespace Go.Proofs.YtbngafofmgcngaaDoor
open Go.RowKit Go.Deep

theorem bs_append (a b : ByteArray) : Nm.bs (a ++ b) = Nm.bs a ++ Nm.bs b := by
  unfold Nm.bs
  rw [ByteArray.data_append, Array.toList_append, List.map_append]

theorem bs_one (s : ByteArray) (j : Nat) (h : j < s.size) : Nm.bs (s.extract j (j + 1)) = [(s[j].toNat : Int)] := by
  unfold Nm.bs
  rw [ByteArray.data_extract, Array.toList_extract, List.extract_eq_take_drop]
  have hl : j < s.data.toList.length := by simpa using h
  rw [List.drop_eq_getElem_cons hl, show j + 1 - j = 1 from by omega]
  simp
  rfl

theorem bs_mark (o s : ByteArray) (j : Nat) (h : j < s.size) (hc : (s[j].toNat : Int) = 46 ∨ (s[j].toNat : Int) = 92) : Nm.bs (o ++ (⟨#[92]⟩ ++ s.extract j (j + 1))) = Nm.bs o ++ Nm.esc (s[j].toNat : Int) := by
  rw [bs_append, bs_append, bs_one s j h]
  unfold Nm.esc
  rw [if_pos hc]; rfl

theorem bs_plain (o s : ByteArray) (j : Nat) (h : j < s.size) (h1 : ¬ (s[j].toNat : Int) = 46) (h2 : ¬ (s[j].toNat : Int) = 92) (h3 : (33 : Int) ≤ (s[j].toNat : Int) ∧ (s[j].toNat : Int) ≤ 126) : Nm.bs (o ++ s.extract j (j + 1)) = Nm.bs o ++ Nm.esc (s[j].toNat : Int) := by
  rw [bs_append, bs_one s j h]
  unfold Nm.esc
  rw [if_neg (by omega), if_neg (by omega)]

theorem wrap_small (c : Int) (h0 : 0 ≤ c) (h1 : c ≤ 255) : wrap64 c = c := by
  rw [wrap64]; omega

theorem digit_h (c : Int) (h0 : 0 ≤ c) (h1 : c ≤ 255) : ∃ d : Nat, wrap64 ((wrap64 c).tdiv 100) = (d : Int) ∧ d ≤ 9 ∧ (d : Int) = c / 100 := by
  refine ⟨(c / 100).toNat, ?_, by omega, by omega⟩
  rw [wrap_small c h0 h1, Int.tdiv_eq_ediv_of_nonneg h0, wrap_small _ (by omega) (by omega)]; omega
theorem digit_t (c : Int) (h0 : 0 ≤ c) (h1 : c ≤ 255) : ∃ d : Nat, (wrap64 ((wrap64 c).tdiv 10)).tmod 10 = (d : Int) ∧ d ≤ 9 ∧ (d : Int) = c / 10 % 10 := by
  refine ⟨(c / 10 % 10).toNat, ?_, by omega, by omega⟩
  rw [wrap_small c h0 h1, Int.tdiv_eq_ediv_of_nonneg h0, wrap_small _ (by omega) (by omega), Int.tmod_eq_emod_of_nonneg (by omega)]; omega
theorem digit_o (c : Int) (h0 : 0 ≤ c) (h1 : c ≤ 255) : ∃ d : Nat, (wrap64 c).tmod 10 = (d : Int) ∧ d ≤ 9 ∧ (d : Int) = c % 10 := by
  refine ⟨(c % 10).toNat, ?_, by omega, by omega⟩
  rw [wrap_small c h0 h1, Int.tmod_eq_emod_of_nonneg h0]; omega

theorem bs_digit (d : Nat) (h : d ≤ 9) : Nm.bs ((⟨#[48, 49, 50, 51, 52, 53, 54, 55, 56, 57]⟩ : ByteArray).extract d (d + 1)) = [48 + (d : Int)] := by
  match d, h with
  | 0, _ => rfl
  | 1, _ => rfl
  | 2, _ => rfl
  | 3, _ => rfl
  | 4, _ => rfl
  | 5, _ => rfl
  | 6, _ => rfl
  | 7, _ => rfl
  | 8, _ => rfl
  | 9, _ => rfl

theorem bs_digits (o : ByteArray) (c : Int) (d1 d2 d3 : Nat) (r1 : d1 ≤ 9) (r2 : d2 ≤ 9) (r3 : d3 ≤ 9) (t1 : (d1 : Int) = c / 100) (t2 : (d2 : Int) = c / 10 % 10) (t3 : (d3 : Int) = c % 10)
    (hc : (¬ c = 46 ∧ ¬ c = 92) ∧ (c < 33 ∨ 126 < c)) :
    Nm.bs (o ++ (⟨#[92]⟩ ++ (⟨#[48, 49, 50, 51, 52, 53, 54, 55, 56, 57]⟩ : ByteArray).extract d1 (d1 + 1) ++ (⟨#[48, 49, 50, 51, 52, 53, 54, 55, 56, 57]⟩ : ByteArray).extract d2 (d2 + 1) ++ (⟨#[48, 49, 50, 51, 52, 53, 54, 55, 56, 57]⟩ : ByteArray).extract d3 (d3 + 1))) = Nm.bs o ++ Nm.esc c := by
  rw [bs_append, bs_append, bs_append, bs_append, bs_digit d1 r1, bs_digit d2 r2, bs_digit d3 r3]
  unfold Nm.esc
  rw [if_neg (by omega), if_pos hc.2, t1, t2, t3]; rfl

theorem ret_string {a b : ByteArray} (h : a = b) : Ending.returned (.string a) = .returned (.string b) := by rw [h]

theorem nums_of (s : ByteArray) : strOfNums (Nm.bs s) = s := by
  apply ByteArray.ext
  apply Array.toList_inj.1
  rw [strOfNums_data]
  unfold Nm.bs
  rw [List.map_map]
  have : ∀ c ∈ s.data.toList, ((fun n : Int => UInt8.ofNat n.toNat) ∘ fun c : UInt8 => (c.toNat : Int)) c = id c := by
    intro c _
    simp
  rw [List.map_congr_left this, List.map_id]

set_option maxRecDepth 100000 in
set_option maxHeartbeats 2000000 in
theorem nameText_any (x : Option Addr) (c : Nat) (n : List ByteArray) (w : World) (h : Strs w x c n) (hk : Nm.checkN (n.map Nm.bs) = 0) :
    Calls Tryd.prog 17 #[.slice x n.length c] w fun e w' => e = .returned (.string (strOfNums (Nm.textN (n.map Nm.bs)))) ∧ Drawn w w' := by
  have hl : n.length ≤ 8796093022208 := h.2.1
  have K := hid hk
  clear hk
  by_cases hn : n = []
  · subst hn
    go_enter Tryd.func17, Tryd.ntmps17
    go_wp2_with fail
    go_ret
    exact ⟨rfl, Drawn.refl w⟩
  · have hn0 : ((n.length : Int) == 0) = false := by
      have : n.length ≠ 0 := fun q => hn (List.length_eq_zero_iff.1 q)
      exact beq_eq_false_iff_ne.2 (by omega)
    have HN := hid hn
    clear hn
    go_enter Tryd.func17, Tryd.ntmps17
    go_wp2_with fail
    go_loopw [3, 4] (fun v i wr => ∃ (k : Nat) (o : ByteArray), k ≤ n.length ∧ i = .int .i64 (k : Int) ∧ v = .string o ∧ Nm.bs o = textTo n k ∧ Drawn w wr) (fun _ i _ => n.length - (intOf i).toNat)
    case atStart => exact ⟨0, _, Nat.zero_le _, rfl, rfl, rfl, Drawn.refl w⟩
    case round =>
      obtain ⟨k, o, hk, rfl, rfl, ho, hdr⟩ := hrel
      by_cases h1 : k < n.length
      · obtain ⟨_, _, sa, da⟩ := h.drawn hdr
        rcases da with da | ⟨ba, oa, rfl, _, qa⟩
        · rw [da] at h1; simp at h1
        have fa := qa k (by omega)
        have ls := label_size K.out h1
        have E1 := hid (textAt_done n k h1)
        have E2 := hid (textAt_zero n k (n.getD k ByteArray.empty))
        have fw := (hdr.cell ⟨ba, oa + k, none⟩).symm.trans fa
        have FW := hid fw
        clear qa sa fw
        generalize n.getD k ByteArray.empty = s at *
        have E3 := hid (textAt_next n k s)
        have E4 := hid (fun j => textAt_len n k s j K.out ls.2)
        have HO := hid ho
        have hz : o.size ≤ 2000 := by
          have a := textTo_len n k K.out
          rw [← ho, bs_length] at a; omega
        clear ho
        have i1 : (k : Int) < (n.length : Int) := by omega
        go_wp2_with fail
        go_loopw [3, 5] (fun v i wq => ∃ (j : Nat) (o : ByteArray), j ≤ s.size ∧ i = .int .i64 (j : Int) ∧ v = .string o ∧ Nm.bs o = textAt n k s j ∧ Drawn w wq) (fun _ i _ => s.size - (intOf i).toNat)
        case atStart => exact ⟨0, o, Nat.zero_le _, rfl, rfl, by rw [HO.out, E2.out], hdr⟩
        case round =>
          clear HO hz hdr fa
          obtain ⟨j, o, hj, rfl, rfl, ho, hdr⟩ := hrel
          have fa := (hdr.cell ⟨ba, oa + k, none⟩).trans FW.out
          have hz : o.size ≤ 2000 := by
            have a := E4.out j
            rw [← ho, bs_length] at a; exact a
          have HO := hid ho
          clear ho
          by_cases h2 : j < s.size
          · have i2 : (j : Int) < (s.size : Int) := by omega

            go_wp2
            · exact ⟨⟨j + 1, _, by omega, by go_num, rfl, by rw [← E3.out j h2, ← HO.out]; exact bs_mark o s j h2 (Or.inl ‹_›), hdr⟩, by simp [intOf]; omega⟩
            · have t : ((s[j].toNat : Int) == (46 : Int)) = true ∨ ((s[j].toNat : Int) == (92 : Int)) = true := by assumption
              rw [beq_iff_eq, beq_iff_eq] at t
              exact ⟨⟨j + 1, _, by omega, by go_num, rfl, by rw [← E3.out j h2, ← HO.out]; exact bs_mark o s j h2 t, hdr⟩, by simp [intOf]; omega⟩
            · have ub := u8_bound s[j]
              have E5 := hid (E3.out j h2)
              have t : ((s[j].toNat : Int) == (46 : Int)) = false ∧ ((s[j].toNat : Int) == (92 : Int)) = false := by assumption
              have t' : (s[j].toNat : Int) < (33 : Int) ∨ (126 : Int) < (s[j].toNat : Int) := by first | assumption | omega
              rw [beq_eq_false_iff_ne, beq_eq_false_iff_ne] at t
              have E6 : Hid ((¬ (s[j].toNat : Int) = 46 ∧ ¬ (s[j].toNat : Int) = 92) ∧ ((s[j].toNat : Int) < 33 ∨ 126 < (s[j].toNat : Int))) := ⟨t, t'⟩
              clear t t'
              generalize (s[j].toNat : Int) = cc at *
              obtain ⟨d1, q1, r1, t1⟩ := digit_h cc ub.1 ub.2
              obtain ⟨d2, q2, r2, t2⟩ := digit_t cc ub.1 ub.2
              obtain ⟨d3, q3, r3, t3⟩ := digit_o cc ub.1 ub.2
              first | rw [q1, q2, q3] | rw [← t1, ← t2, ← t3]
              have Q1 := hid t1
              have Q2 := hid t2
              have Q3 := hid t3
              clear q1 q2 q3 t1 t2 t3
              have z1 : (d1 : Int) + 1 ≤ 10 := by omega
              have z2 : (d2 : Int) + 1 ≤ 10 := by omega
              have z3 : (d3 : Int) + 1 ≤ 10 := by omega
              go_quiet (fail)
              go_wp2
              exact ⟨⟨j + 1, _, by omega, by go_num, rfl, by rw [← E5.out, ← HO.out]; exact bs_digits o cc d1 d2 d3 r1 r2 r3 Q1.out Q2.out Q3.out E6.out, hdr.more _⟩, by simp [intOf]; omega⟩
            · have t : ((s[j].toNat : Int) == (46 : Int)) = false ∧ ((s[j].toNat : Int) == (92 : Int)) = false := by assumption
              have t' : (33 : Int) ≤ (s[j].toNat : Int) ∧ (s[j].toNat : Int) ≤ (126 : Int) := by assumption
              rw [beq_eq_false_iff_ne, beq_eq_false_iff_ne] at t
              exact ⟨⟨j + 1, _, by omega, by go_num, rfl, by rw [← E3.out j h2, ← HO.out]; exact bs_plain o s j h2 t.1 t.2 t', hdr⟩, by simp [intOf]; omega⟩
            · have ub := u8_bound s[j]
              have E5 := hid (E3.out j h2)
              have t : ((s[j].toNat : Int) == (46 : Int)) = false ∧ ((s[j].toNat : Int) == (92 : Int)) = false := by assumption
              have t' : (s[j].toNat : Int) < (33 : Int) ∨ (126 : Int) < (s[j].toNat : Int) := by first | assumption | omega
              rw [beq_eq_false_iff_ne, beq_eq_false_iff_ne] at t
              have E6 : Hid ((¬ (s[j].toNat : Int) = 46 ∧ ¬ (s[j].toNat : Int) = 92) ∧ ((s[j].toNat : Int) < 33 ∨ 126 < (s[j].toNat : Int))) := ⟨t, t'⟩
              clear t t'
              generalize (s[j].toNat : Int) = cc at *
              obtain ⟨d1, q1, r1, t1⟩ := digit_h cc ub.1 ub.2
              obtain ⟨d2, q2, r2, t2⟩ := digit_t cc ub.1 ub.2
              obtain ⟨d3, q3, r3, t3⟩ := digit_o cc ub.1 ub.2
              first | rw [q1, q2, q3] | rw [← t1, ← t2, ← t3]
              have Q1 := hid t1
              have Q2 := hid t2
              have Q3 := hid t3
              clear q1 q2 q3 t1 t2 t3
              have z1 : (d1 : Int) + 1 ≤ 10 := by omega
              have z2 : (d2 : Int) + 1 ≤ 10 := by omega
              have z3 : (d3 : Int) + 1 ≤ 10 := by omega
              go_quiet (fail)
              go_wp2
              exact ⟨⟨j + 1, _, by omega, by go_num, rfl, by rw [← E5.out, ← HO.out]; exact bs_digits o cc d1 d2 d3 r1 r2 r3 Q1.out Q2.out Q3.out E6.out, hdr.more _⟩, by simp [intOf]; omega⟩
          · have i2 : ¬ (j : Int) < (s.size : Int) := by omega
            go_wp2
            exact ⟨⟨k + 1, _, by omega, by go_num, rfl, by rw [← E1.out j (by omega), ← HO.out]; exact bs_append o ⟨#[46]⟩, hdr⟩, by simp [intOf]; omega⟩
      · have i1 : ¬ (k : Int) < (n.length : Int) := by omega
        have E := hid (textTo_all n k (by omega) HN.out)
        have HO := hid ho
        clear ho
        go_wp2
        go_ret
        exact ⟨ret_string (by rw [← E.out, ← HO.out, nums_of]), hdr⟩

end Go.Proofs.YtbngafofmgcngaaDoor
