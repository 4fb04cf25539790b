/-
  The walk of the law NameBack over its callees' contracts: for any labels and any text it hands back true, and writes nothing that was there.
-/
import Derived.Test.YtbngafofmgcngaaReadWalk
namespace Go.Proofs.Ytbngafofmgcngaa
open Go.RowKit Go.Deep

theorem grown_on {w w1 w2 : World} (h : Below w.heap.size w w1) (k : Below w1.heap.size w1 w2) : Below w.heap.size w w2 := h.trans (k.mono h.size)

theorem fact_read : Nm.readN (Nm.bs ⟨#[97, 92, 46, 98, 46]⟩) = some [[97, 46, 98]] := by decide +kernel
theorem fact_same : decide ([strOfNums [97, 46, 98]] = [(⟨#[97, 46, 98]⟩ : ByteArray)]) = true := by decide +kernel

theorem bs_all (n : List ByteArray) : ∀ l ∈ n.map Nm.bs, ∀ x ∈ l, 0 ≤ x ∧ x ≤ 255 := by
  intro l hl
  obtain ⟨s, _, rfl⟩ := List.mem_map.1 hl
  exact bs_bound s

theorem text_size (n : List ByteArray) (h : Nm.checkN (n.map Nm.bs) = 0) : (strOfNums (Nm.textN (n.map Nm.bs))).size ≤ 140737488355328 := by
  have := Nm.text_len h
  rw [strOfNums_size]; omega

theorem read_back (n : List ByteArray) (h : Nm.checkN (n.map Nm.bs) = 0) : Nm.readN (Nm.bs (strOfNums (Nm.textN (n.map Nm.bs)))) = some (n.map Nm.bs) := by
  rw [bs_of _ (text_bytes _ (bs_all n))]
  exact Nm.read_text (bs_all n) h

theorem one_new (w : World) (s : ByteArray) (hs : s.size ≤ 140737488355328) : Strs (w.alloc (.cells #[.string s] 9)) (some ⟨w.heap.size, 0, none⟩) 1 [s] :=
  Strs.one (by simp) (by rw [World.cell?_alloc_at _ _ _ _ rfl]; rfl) hs

theorem texts_here (r : Bool) {xa xb : Option Addr} {ca cb la lb : Nat} (a b : List ByteArray) (w : World) (ha : Strs w xa ca a) (hb : Strs w xb cb b) (hla : a.length = la) (hlb : b.length = lb) (hr : decide (a = b) = r) :
    Calls Try.prog 6 #[.slice xa la ca, .slice xb lb cb] w fun e w' => e = .returned (.bool r) ∧ Below w.heap.size w w' :=
  (texts_at r a b w ha hb hla hlb hr).mono fun _ _ ⟨a, b⟩ => ⟨a, b.below _⟩

theorem read_bytes {s : ByteArray} {m : List (List Int)} (h : Nm.readN (Nm.bs s) = some m) : ∀ l ∈ m, ∀ x ∈ l, 0 ≤ x ∧ x ≤ 255 := by
  unfold Nm.readN at h
  split at h
  · obtain rfl := Option.some.inj h
    simp
  · split at h
    · simp at h
    · split at h
      · obtain rfl := Option.some.inj h
        exact splitN_bytes s
      · simp at h

set_option maxHeartbeats 2000000 in
theorem back_walk (x : Option Addr) (c : Nat) (n : List ByteArray) (s : ByteArray) (w : World) (h : Strs w x c n) (hs : s.size ≤ 140737488355328) (l : Nat) (hl : n.length = l) :
    Calls Try.prog 3 #[.slice x l c, .string s] w fun e w' => e = .returned (.bool true) ∧ Below w.heap.size w w' := by
  have L := hid hl
  clear hl
  by_cases hk : Nm.checkN (n.map Nm.bs) = 0
  · have K := hid hk
    clear hk
    have hts := text_size n K.out
    have RB := hid (read_back n K.out)
    obtain ⟨T, hT⟩ : ∃ T, strOfNums (Nm.textN (n.map Nm.bs)) = T := ⟨_, rfl⟩
    rw [hT] at hts
    have RB2 : Hid (Nm.readN (Nm.bs T) = some (n.map Nm.bs)) := by rw [← hT]; exact RB.out
    have HT := hid hT
    clear hT RB
    cases hr : Nm.readN (Nm.bs s) with
    | none =>
      have R := hid hr
      clear hr
      go_enter Try.func3, Try.ntmps3
      go_wp2_with fail
      refine (read_some ⟨#[97, 92, 46, 98, 46]⟩ [[97, 46, 98]] _ (by decide) fact_read).mono ?_
      rintro e w1 ⟨y, d, rfl, hst, b1⟩
      go_wp2_with fail
      refine (texts_here true _ _ _ (hst.below ((Below.refl _ _).alloc (Nat.le_refl _) _)) (one_new w1 ⟨#[97, 46, 98]⟩ (by decide)) rfl rfl fact_same).mono ?_
      rintro e w2 ⟨rfl, d2⟩
      have b2 := grown_on (b1.alloc b1.size _) d2
      clear b1 d2 hst
      go_wp2_with fail
      refine (text_good_at n _ (h.below b2) L.out K.out T HT.out).mono ?_
      rintro e w3 ⟨rfl, d3⟩
      have b3 := grown_on b2 d3
      clear b2 d3
      go_wp2_with fail
      refine (read_some T _ _ hts RB2.out).mono ?_
      rintro e w4 ⟨y2, q2, rfl, hst2, d4⟩
      rw [map_nums_bs] at hst2
      have b4 := grown_on b3 d4
      clear b3 d4
      go_wp2_with fail
      refine (texts_here true n n _ hst2 (h.below b4) (by simp) L.out (by simp)).mono ?_
      rintro e w5 ⟨rfl, d5⟩
      have b5 := grown_on b4 d5
      clear b4 d5 hst2
      go_wp2_with fail
      refine (read_none s _ hs R.out).mono ?_
      rintro e w6 ⟨rfl, d6⟩
      have b6 := grown_on b5 d6
      clear b5 d6
      go_wp2_with fail
      go_ret
      exact ⟨rfl, b6⟩
    | some m =>
      have R := hid hr
      have M : Hid ((m.map strOfNums).map Nm.bs = m ∧ Nm.checkN m = 0 ∧ Nm.textN m = Nm.bs s) := ⟨map_bs_of m (read_bytes hr), Nm.text_read hr⟩
      clear hr
      go_enter Try.func3, Try.ntmps3
      go_wp2_with fail
      refine (read_some ⟨#[97, 92, 46, 98, 46]⟩ [[97, 46, 98]] _ (by decide) fact_read).mono ?_
      rintro e w1 ⟨y, d, rfl, hst, b1⟩
      go_wp2_with fail
      refine (texts_here true _ _ _ (hst.below ((Below.refl _ _).alloc (Nat.le_refl _) _)) (one_new w1 ⟨#[97, 46, 98]⟩ (by decide)) rfl rfl fact_same).mono ?_
      rintro e w2 ⟨rfl, d2⟩
      have b2 := grown_on (b1.alloc b1.size _) d2
      clear b1 d2 hst
      go_wp2_with fail
      refine (text_good_at n _ (h.below b2) L.out K.out T HT.out).mono ?_
      rintro e w3 ⟨rfl, d3⟩
      have b3 := grown_on b2 d3
      clear b2 d3
      go_wp2_with fail
      refine (read_some T _ _ hts RB2.out).mono ?_
      rintro e w4 ⟨y2, q2, rfl, hst2, d4⟩
      rw [map_nums_bs] at hst2
      have b4 := grown_on b3 d4
      clear b3 d4
      go_wp2_with fail
      refine (texts_here true n n _ hst2 (h.below b4) (by simp) L.out (by simp)).mono ?_
      rintro e w5 ⟨rfl, d5⟩
      have b5 := grown_on b4 d5
      clear b4 d5 hst2
      go_wp2_with fail
      refine (read_some s m _ hs R.out).mono ?_
      rintro e w6 ⟨y3, q3, rfl, hst3, d6⟩
      have b6 := grown_on b5 d6
      clear b5 d6
      go_wp2_with fail
      refine (text_good_at (m.map strOfNums) _ hst3 (by rw [List.length_map]) (by rw [M.out.1]; exact M.out.2.1) s (by rw [M.out.1, M.out.2.2]; exact nums_bs s)).mono ?_
      rintro e w7 ⟨rfl, d7⟩
      have b7 := grown_on b6 d7
      clear b6 d7
      go_wp2_with fail
      go_ret
      exact ⟨rfl, b7⟩
  · obtain ⟨Q, hQ⟩ : ∃ Q, Nm.checkN (n.map Nm.bs) = Q := ⟨_, rfl⟩
    have QE := hid hQ
    rw [hQ] at hk
    have QN := hid hk
    clear hk hQ
    cases hr : Nm.readN (Nm.bs s) with
    | none =>
      have R := hid hr
      clear hr
      go_enter Try.func3, Try.ntmps3
      go_wp2_with fail
      refine (read_some ⟨#[97, 92, 46, 98, 46]⟩ [[97, 46, 98]] _ (by decide) fact_read).mono ?_
      rintro e w1 ⟨y, d, rfl, hst, b1⟩
      go_wp2_with fail
      refine (texts_here true _ _ _ (hst.below ((Below.refl _ _).alloc (Nat.le_refl _) _)) (one_new w1 ⟨#[97, 46, 98]⟩ (by decide)) rfl rfl fact_same).mono ?_
      rintro e w2 ⟨rfl, d2⟩
      have b2 := grown_on (b1.alloc b1.size _) d2
      clear b1 d2 hst
      go_wp2_with fail
      refine (text_bad_at n _ (h.below b2) L.out Q QE.out QN.out).mono ?_
      rintro e w5 ⟨rfl, rfl⟩
      have b5 := b2
      clear b2
      go_wp2_with fail
      refine (read_none s _ hs R.out).mono ?_
      rintro e w6 ⟨rfl, d6⟩
      have b6 := grown_on b5 d6
      clear b5 d6
      go_wp2_with fail
      go_ret
      exact ⟨rfl, b6⟩
    | some m =>
      have R := hid hr
      have M : Hid ((m.map strOfNums).map Nm.bs = m ∧ Nm.checkN m = 0 ∧ Nm.textN m = Nm.bs s) := ⟨map_bs_of m (read_bytes hr), Nm.text_read hr⟩
      clear hr
      go_enter Try.func3, Try.ntmps3
      go_wp2_with fail
      refine (read_some ⟨#[97, 92, 46, 98, 46]⟩ [[97, 46, 98]] _ (by decide) fact_read).mono ?_
      rintro e w1 ⟨y, d, rfl, hst, b1⟩
      go_wp2_with fail
      refine (texts_here true _ _ _ (hst.below ((Below.refl _ _).alloc (Nat.le_refl _) _)) (one_new w1 ⟨#[97, 46, 98]⟩ (by decide)) rfl rfl fact_same).mono ?_
      rintro e w2 ⟨rfl, d2⟩
      have b2 := grown_on (b1.alloc b1.size _) d2
      clear b1 d2 hst
      go_wp2_with fail
      refine (text_bad_at n _ (h.below b2) L.out Q QE.out QN.out).mono ?_
      rintro e w5 ⟨rfl, rfl⟩
      have b5 := b2
      clear b2
      go_wp2_with fail
      refine (read_some s m _ hs R.out).mono ?_
      rintro e w6 ⟨y3, q3, rfl, hst3, d6⟩
      have b6 := grown_on b5 d6
      clear b5 d6
      go_wp2_with fail
      refine (text_good_at (m.map strOfNums) _ hst3 (by rw [List.length_map]) (by rw [M.out.1]; exact M.out.2.1) s (by rw [M.out.1, M.out.2.2]; exact nums_bs s)).mono ?_
      rintro e w7 ⟨rfl, d7⟩
      have b7 := grown_on b6 d7
      clear b6 d7
      go_wp2_with fail
      go_ret
      exact ⟨rfl, b7⟩

end Go.Proofs.Ytbngafofmgcngaa
