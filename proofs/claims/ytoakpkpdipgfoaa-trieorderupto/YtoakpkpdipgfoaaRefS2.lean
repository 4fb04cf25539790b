/-
  The walks of the document's own answers on subnets: Wide, SubnetFault, pair, Alike, Inside.
-/
import Derived.Test.YtoakpkpdipgfoaaRefS
namespace Go.Proofs.Ytoakpkpdipgfoaa
open Go.RowKit Go.Deep

theorem top_of_bits {x y : Int} {c : Nat} (hx : 0 ≤ x ∧ x ≤ 255) (hy : 0 ≤ y ∧ y ≤ 255) (hc : c ≤ 8) (h : ∀ k, k < c → x / 2 ^ (7 - k) % 2 = y / 2 ^ (7 - k) % 2) : topB c x = topB c y := by
  have tx := topB_byte c x hx.1 hx.2
  have ty := topB_byte c y hy.1 hy.2
  have key : ∀ k, k ≤ 8 → topB c x / 2 ^ (8 - k) = topB c y / 2 ^ (8 - k) := by
    intro k
    induction k with
    | zero =>
      intro _
      rw [Int.ediv_eq_zero_of_lt tx.1 (by omega), Int.ediv_eq_zero_of_lt ty.1 (by omega)]
    | succ k ih =>
      intro hk
      have i1 := ih (by omega)
      rw [show 8 - (k + 1) = 7 - k by omega, bit_top x c k hx.1 hx.2 hc (by omega), bit_top y c k hy.1 hy.2 hc (by omega), i1]
      by_cases q : k < c
      · rw [if_pos q, if_pos q, h k q]
      · rw [if_neg q, if_neg q]
  have := key 8 (Nat.le_refl _)
  simpa using this

theorem bits_of_top {x y : Int} {c k : Nat} (hx : 0 ≤ x ∧ x ≤ 255) (hy : 0 ≤ y ∧ y ≤ 255) (hc : c ≤ 8) (h : topB c x = topB c y) (hk : k < c) : x / 2 ^ (7 - k) % 2 = y / 2 ^ (7 - k) % 2 := by
  have h1 := bit_top x c k hx.1 hx.2 hc (by omega)
  have h2 := bit_top y c k hy.1 hy.2 hc (by omega)
  rw [if_pos hk] at h1 h2
  rw [h] at h1
  omega

theorem alike_mask {a b : List Int} {n : Nat} (ha : ∀ x ∈ a, 0 ≤ x ∧ x ≤ 255) (hb : ∀ x ∈ b, 0 ≤ x ∧ x ≤ 255) (hl : a.length = b.length) : (∀ i, i < n → bitN a i = bitN b i) ↔ maskN n a = maskN n b := by
  constructor
  · intro h
    refine list_getD (by rw [maskN_len, maskN_len, hl]) fun j _ => ?_
    rw [maskN_getD, maskN_getD]
    refine top_of_bits (getD_byte ha j) (getD_byte hb j) (by omega) fun k hk => ?_
    have := h (8 * j + k) (by omega)
    unfold bitN at this
    rwa [show (8 * j + k) / 8 = j by omega, show (8 * j + k) % 8 = k by omega] at this
  · intro h i hi
    have h1 : (maskN n a).getD (i / 8) 0 = (maskN n b).getD (i / 8) 0 := by rw [h]
    rw [maskN_getD, maskN_getD] at h1
    exact bits_of_top (getD_byte ha _) (getD_byte hb _) (by omega) h1 (by omega)

set_option maxHeartbeats 1000000 in
set_option maxRecDepth 100000 in
theorem alike_at {xa xb : Option Addr} {ca cb la lb : Nat} (r : Bool) (a b : List Int) (n : Nat) (w : World) (ha : Bys w xa ca a) (hb : Bys w xb cb b) (hla : a.length = la) (hlb : b.length = lb) (hna : n ≤ 8 * a.length) (hnb : n ≤ 8 * b.length) (hr : r = true ↔ ∀ i, i < n → bitN a i = bitN b i) :
    Calls Try.prog 11 #[.slice xa la ca, .slice xb lb cb, .int .i64 (n : Int)] w fun e w' => e = .returned (.bool r) ∧ w = w' := by
  have h1 : a.length ≤ 200000000000000 := ha.2.1
  have HR := hid hr
  clear hr
  go_enter Try.func11, Try.ntmps11
  go_wp2
  go_loop [7] (fun t => ∃ k : Nat, k ≤ n ∧ t = .int .i64 (k : Int) ∧ Hid (∀ i, i < k → bitN a i = bitN b i)) (fun t => n - (intOf t).toNat)
  case atStart => exact ⟨0, Nat.zero_le _, rfl, hid (fun i hi => absurd hi (by omega))⟩
  case round =>
    obtain ⟨k, hk, rfl, HK⟩ := hrel
    by_cases hlt : k < n
    · have A1 := hid (bitOf_at k a w ha hla (by omega) (by omega))
      have A2 := hid (bitOf_at k b w hb hlb (by omega) (by omega))
      have NX : Hid (bitN a k = bitN b k → ∀ i, i < k + 1 → bitN a i = bitN b i) := hid fun q i hi => by
        rcases Nat.lt_or_ge i k with q2 | q2
        · exact HK.out i q2
        · obtain rfl : i = k := by omega
          exact q
      have NO : Hid (¬ bitN a k = bitN b k → false = r) := hid fun q => by
        cases r
        · rfl
        · exact absurd (HR.out.1 rfl k hlt) q
      generalize bitN a k = p at *
      generalize bitN b k = q at *
      by_cases hpq : p = q
      · subst hpq
        go_wp2_with (first | (go_at_call_of 19 ca; refine A1.out.mono ?_; rintro e w' ⟨rfl, rfl⟩) | (go_at_call_of 19 cb; refine A2.out.mono ?_; rintro e w' ⟨rfl, rfl⟩))
        go_round
        case rel => exact ⟨k + 1, by omega, by go_num, hid (NX.out trivial)⟩
        case measure => simp [intOf]; omega
      · have hne : (p != q) = true := by rw [bne_iff_ne]; exact hpq
        go_wp2_with (first | (go_at_call_of 19 ca; refine A1.out.mono ?_; rintro e w' ⟨rfl, rfl⟩) | (go_at_call_of 19 cb; refine A2.out.mono ?_; rintro e w' ⟨rfl, rfl⟩))
        go_ret
        exact ⟨ret_bool (NO.out hpq), rfl⟩
    · have e : true = r := by
        obtain rfl : k = n := by omega
        exact (HR.out.2 HK.out).symm
      have E := hid e
      clear e
      go_wp2
      go_ret
      exact ⟨ret_bool E.out, rfl⟩

end Go.Proofs.Ytoakpkpdipgfoaa
