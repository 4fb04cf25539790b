/-
  The walk of the law NameTexts over its callees' contracts: for any labels, and any text of at most 1048576 bytes, it hands back true, and writes nothing that was there, where what the library keeps of the type of errors lies where it was laid.
-/
import Derived.Test.YtbngafofmgcngaaDoorRefName
import Derived.Test.YtbngafofmgcngaaDoorReadWalk
namespace Go.Proofs.YtbngafofmgcngaaDoor
open Go.RowKit Go.Deep

theorem fact_check : Nm.checkN ([(⟨#[97, 46, 98]⟩ : ByteArray)].map Nm.bs) = 0 := by decide +kernel
theorem fact_text : strOfNums (Nm.textN ([(⟨#[97, 46, 98]⟩ : ByteArray)].map Nm.bs)) = ⟨#[97, 92, 46, 98, 46]⟩ := by decide +kernel

theorem on {w w1 w2 : World} (h : Below w.heap.size w w1) (k : Below w1.heap.size w1 w2) : Below w.heap.size w w2 := h.trans (k.mono h.size)

theorem one_new' (w : World) (s : ByteArray) (hs : s.size ≤ 140737488355328) : Strs (w.alloc (.cells #[.string s] 9)) (some ⟨w.heap.size, 0, none⟩) 1 [s] :=
  Strs.one (by simp) (by rw [World.cell?_alloc_at _ _ _ _ rfl]; rfl) hs

theorem texts_on (r : Bool) {xa xb : Option Addr} {ca cb la lb : Nat} (a b : List ByteArray) (w : World) (ha : Strs w xa ca a) (hb : Strs w xb cb b) (hla : a.length = la) (hlb : b.length = lb) (hr : decide (a = b) = r) :
    Calls Tryd.prog 9 #[.slice xa la ca, .slice xb lb cb] w fun e w' => e = .returned (.bool r) ∧ Below w.heap.size w w' :=
  (texts_at r a b w ha hb hla hlb hr).mono fun _ _ ⟨a, b⟩ => ⟨a, b.below _⟩

theorem nameText_on (t : ByteArray) {x : Option Addr} {c l : Nat} (n : List ByteArray) (w : World) (h : Strs w x c n) (hl : n.length = l) (hk : Nm.checkN (n.map Nm.bs) = 0) (ht : strOfNums (Nm.textN (n.map Nm.bs)) = t) :
    Calls Tryd.prog 17 #[.slice x l c] w fun e w' => e = .returned (.string t) ∧ Below w.heap.size w w' :=
  (nameText_at t n w h hl hk ht).mono fun _ _ ⟨a, b⟩ => ⟨a, b.below _⟩

set_option maxHeartbeats 2000000 in
theorem texts_walk (x : Option Addr) (c : Nat) (n : List ByteArray) (s : ByteArray) (w : World) (h : Strs w x c n) (hs : s.size ≤ 1048576) (hg : Glob w) (l : Nat) (hl : n.length = l) :
    Calls Tryd.prog 4 #[.slice x l c, .string s] w fun e w' => e = .returned (.bool true) ∧ Below w.heap.size w w' := by
  have L := hid hl
  clear hl
  have hs2 : s.size ≤ 140737488355328 := by omega
  have b0 : Below w.heap.size w (w.alloc (.cells #[.string ⟨#[97, 46, 98]⟩] 9)) := (Below.refl _ _).alloc (Nat.le_refl _) _
  have B0 := hid b0
  clear b0
  by_cases hk : Nm.checkN (n.map Nm.bs) = 0
  · have K := hid hk
    clear hk
    obtain ⟨T, hT⟩ : ∃ T, strOfNums (Nm.textN (n.map Nm.bs)) = T := ⟨_, rfl⟩
    have HT := hid hT
    clear hT
    go_enter Tryd.func4, Tryd.ntmps4
    go_wp2_with fail
    refine (text_good_at [⟨#[97, 46, 98]⟩] _ (one_new' w ⟨#[97, 46, 98]⟩ (by decide)) rfl fact_check ⟨#[97, 92, 46, 98, 46]⟩ fact_text).mono ?_
    rintro e w1 ⟨rfl, d1⟩
    have b1 := on B0.out d1
    clear d1
    go_wp2_with fail
    refine (fault_at 0 n _ (h.below b1) L.out K.out).mono ?_
    rintro e w2 ⟨rfl, rfl⟩
    go_wp2_with fail
    refine (nameText_on T n _ (h.below b1) L.out K.out HT.out).mono ?_
    rintro e w3 ⟨rfl, d3⟩
    have b3 := on b1 d3
    clear d3 b1
    go_wp2_with fail
    refine (text_good_at n _ (h.below b3) L.out K.out T HT.out).mono ?_
    rintro e w4 ⟨rfl, d4⟩
    have b4 := on b3 d4
    clear d4 b3
    go_wp2_with fail
    refine (error_at 0 0 .nilIface _ (hg.below b4) rfl rfl).mono ?_
    rintro e w5 ⟨rfl, d5⟩
    have b5 := on b4 d5
    clear d5 b4
    go_wp2_with fail
    refine (nameOf_any s _ hs).mono ?_
    rintro e w6 ⟨told, d6⟩
    have b6 := on b5 d6
    clear d6 b5
    rcases told with ⟨m, y, q, hr, rfl, hst⟩ | ⟨hr, v, rfl⟩
    · have R := hid hr
      clear hr
      go_wp2_with fail
      refine (read_some s m _ hs2 R.out).mono ?_
      rintro e w7 ⟨y2, q2, rfl, hst2, d7⟩
      have b7 := on b6 d7
      have hst7 := hst.below d7
      clear d7 b6 hst
      go_wp2_with fail
      refine (error_at 0 0 .nilIface _ (hg.below b7) rfl rfl).mono ?_
      rintro e w8 ⟨rfl, d8⟩
      have b8 := on b7 d8
      have hst8 := hst7.below d8
      have hst9 := hst2.below d8
      clear d8 b7 hst7 hst2
      go_wp2_with fail
      refine (texts_on true _ _ _ hst9 hst8 (by rw [List.length_map]) (by rw [List.length_map]) (by simp)).mono ?_
      rintro e w9 ⟨rfl, d9⟩
      have b9 := on b8 d9
      go_wp2_with fail
      go_ret
      exact ⟨rfl, b9⟩
    · have R := hid hr
      clear hr
      go_wp2_with fail
      refine (read_none s _ hs2 R.out).mono ?_
      rintro e w7 ⟨rfl, d7⟩
      have b7 := on b6 d7
      clear d7 b6
      go_wp2_with fail
      refine (error_at 1 1 (.iface 27 (.int .i64 1)) _ (hg.below b7) rfl rfl).mono ?_
      rintro e w8 ⟨rfl, d8⟩
      have b8 := on b7 d8
      clear d8 b7
      go_wp2_with fail
      refine (texts_on true [] [] _ (Strs.empty _) (Strs.empty _) rfl rfl (by simp)).mono ?_
      rintro e w9 ⟨rfl, d9⟩
      have b9 := on b8 d9
      go_wp2_with fail
      go_ret
      exact ⟨rfl, b9⟩
  · obtain ⟨Q, hQ⟩ : ∃ Q, Nm.checkN (n.map Nm.bs) = Q := ⟨_, rfl⟩
    have QE := hid hQ
    rw [hQ] at hk
    have QN := hid hk
    have QB : (Q == 0) = false := beq_eq_false_iff_ne.2 hk
    clear hk hQ
    go_enter Tryd.func4, Tryd.ntmps4
    go_wp2_with fail
    refine (text_good_at [⟨#[97, 46, 98]⟩] _ (one_new' w ⟨#[97, 46, 98]⟩ (by decide)) rfl fact_check ⟨#[97, 92, 46, 98, 46]⟩ fact_text).mono ?_
    rintro e w1 ⟨rfl, d1⟩
    have b1 := on B0.out d1
    clear d1
    go_wp2_with fail
    refine (fault_at Q n _ (h.below b1) L.out QE.out).mono ?_
    rintro e w2 ⟨rfl, rfl⟩
    go_wp2_with fail
    refine (text_bad_at n _ (h.below b1) L.out Q QE.out QN.out).mono ?_
    rintro e w4 ⟨rfl, rfl⟩
    go_wp2_with fail
    refine (error_at Q Q (.iface 27 (.int .i64 Q)) _ (hg.below b1) (errV_some QN.out) rfl).mono ?_
    rintro e w5 ⟨rfl, d5⟩
    have b5 := on b1 d5
    clear d5 b1
    go_wp2_with fail
    refine (nameOf_any s _ hs).mono ?_
    rintro e w6 ⟨told, d6⟩
    have b6 := on b5 d6
    clear d6 b5
    rcases told with ⟨m, y, q, hr, rfl, hst⟩ | ⟨hr, v, rfl⟩
    · have R := hid hr
      clear hr
      go_wp2_with fail
      refine (read_some s m _ hs2 R.out).mono ?_
      rintro e w7 ⟨y2, q2, rfl, hst2, d7⟩
      have b7 := on b6 d7
      have hst7 := hst.below d7
      clear d7 b6 hst
      go_wp2_with fail
      refine (error_at 0 0 .nilIface _ (hg.below b7) rfl rfl).mono ?_
      rintro e w8 ⟨rfl, d8⟩
      have b8 := on b7 d8
      have hst8 := hst7.below d8
      have hst9 := hst2.below d8
      clear d8 b7 hst7 hst2
      go_wp2_with fail
      refine (texts_on true _ _ _ hst9 hst8 (by rw [List.length_map]) (by rw [List.length_map]) (by simp)).mono ?_
      rintro e w9 ⟨rfl, d9⟩
      have b9 := on b8 d9
      go_wp2_with fail
      go_ret
      exact ⟨rfl, b9⟩
    · have R := hid hr
      clear hr
      go_wp2_with fail
      refine (read_none s _ hs2 R.out).mono ?_
      rintro e w7 ⟨rfl, d7⟩
      have b7 := on b6 d7
      clear d7 b6
      go_wp2_with fail
      refine (error_at 1 1 (.iface 27 (.int .i64 1)) _ (hg.below b7) rfl rfl).mono ?_
      rintro e w8 ⟨rfl, d8⟩
      have b8 := on b7 d8
      clear d8 b7
      go_wp2_with fail
      refine (texts_on true [] [] _ (Strs.empty _) (Strs.empty _) rfl rfl (by simp)).mono ?_
      rintro e w9 ⟨rfl, d9⟩
      have b9 := on b8 d9
      go_wp2_with fail
      go_ret
      exact ⟨rfl, b9⟩

end Go.Proofs.YtbngafofmgcngaaDoor
