/-
  Plain: the first bits of an address, a subnet's bytes, who is in a subnet. The walks of package subnet: touched, sizeOf, masked, fit, check; of bytes.Equal. The walks of package subnet: fit, check, Mask, In. The walk of subnet.Encode. The walk of subnet.Decode. The walk of subnet.Decode, its other ways. The walk of subnet.Decode, its last ways. The walk of TopSubnet. Written by gensub.py.
-/
import Derived.Test.YtpmbbaacpnooeaaRr
import Derived.Test.YtpmbbaacpnooeaaMsgAt
import Derived.Laws.CopyOwn
import Derived.Laws.MakeOwn
import Derived.Deep.RegionHeld3
import Derived.Deep.Cut
import Derived.Test.YtpmbbaacpnooeaaJA
namespace Go.Proofs.Ytpmbbaacpnooeaa
open Go.RowKit Go.Deep

/-- The first bits of a byte. -/
def topB (k : Nat) (x : Int) : Int := x / 2 ^ (8 - k) * 2 ^ (8 - k)

/-- The first bits of an address. -/
def maskN : Nat → List Int → List Int
  | _, [] => []
  | n, x :: xs => topB (min 8 n) x :: maskN (n - 8) xs

theorem maskN_len (n : Nat) (xs : List Int) : (maskN n xs).length = xs.length := by
  induction xs generalizing n with
  | nil => rfl
  | cons x xs ih => simp [maskN, ih]

theorem topB_zero (k : Nat) : topB k 0 = 0 := by simp [topB]

theorem topB_eight (x : Int) : topB 8 x = x := by simp [topB]

theorem topB_none (x : Int) (h0 : 0 ≤ x) (h1 : x ≤ 255) : topB 0 x = 0 := by
  have : x / 2 ^ (8 - 0) = 0 := Int.ediv_eq_zero_of_lt h0 (by omega)
  unfold topB
  rw [this, Int.zero_mul]

theorem topB_byte (k : Nat) (x : Int) (h0 : 0 ≤ x) (h1 : x ≤ 255) : 0 ≤ topB k x ∧ topB k x ≤ 255 := by
  have hp : (0 : Int) < 2 ^ (8 - k) := Int.pow_pos (by omega)
  have h2 := Int.ediv_mul_le x (Int.ne_of_gt hp)
  refine ⟨Int.mul_nonneg (Int.ediv_nonneg h0 (Int.le_of_lt hp)) (Int.le_of_lt hp), ?_⟩
  unfold topB
  omega

theorem topB_topB (a b : Nat) (x : Int) : topB a (topB b x) = topB (min a b) x := by
  have ha : (0 : Int) < 2 ^ (8 - a) := Int.pow_pos (by omega)
  have hb : (0 : Int) < 2 ^ (8 - b) := Int.pow_pos (by omega)
  unfold topB
  rcases Nat.le_total a b with h | h
  · rw [Nat.min_eq_left h]
    have e : (2 : Int) ^ (8 - a) = 2 ^ (8 - b) * 2 ^ ((8 - a) - (8 - b)) := by rw [← Int.pow_add]; congr 1; omega
    rw [e, ← Int.ediv_ediv_of_nonneg (Int.le_of_lt hb), ← Int.ediv_ediv_of_nonneg (Int.le_of_lt hb), Int.mul_ediv_cancel _ (Int.ne_of_gt hb)]
  · rw [Nat.min_eq_right h]
    have e : (2 : Int) ^ (8 - b) = 2 ^ (8 - a) * 2 ^ ((8 - b) - (8 - a)) := by rw [← Int.pow_add]; congr 1; omega
    have e2 : x / 2 ^ (8 - b) * 2 ^ (8 - b) = (x / 2 ^ (8 - b) * 2 ^ ((8 - b) - (8 - a))) * 2 ^ (8 - a) := by
      conv => lhs; arg 2; rw [e]
      rw [Int.mul_assoc, Int.mul_comm (2 ^ ((8 - b) - (8 - a)))]
    rw [e2, Int.mul_ediv_cancel _ (Int.ne_of_gt ha)]

theorem maskN_getD (n : Nat) (xs : List Int) (i : Nat) : (maskN n xs).getD i 0 = topB (min 8 (n - 8 * i)) (xs.getD i 0) := by
  induction xs generalizing n i with
  | nil => simp [maskN, topB_zero]
  | cons x xs ih =>
    cases i with
    | zero => simp [maskN]
    | succ i =>
      simp only [maskN, List.getD_cons_succ, ih]
      congr 2
      omega

theorem maskN_bytes (n : Nat) {xs : List Int} (h : ∀ b ∈ xs, 0 ≤ b ∧ b ≤ 255) : ∀ b ∈ maskN n xs, 0 ≤ b ∧ b ≤ 255 := by
  induction xs generalizing n with
  | nil => intro b hb; simp [maskN] at hb
  | cons x xs ih =>
    intro b hb
    simp only [maskN, List.mem_cons] at hb
    rcases hb with rfl | hb
    · exact topB_byte _ _ (h x (by simp)).1 (h x (by simp)).2
    · exact ih _ (fun y hy => h y (by simp [hy])) b hb

theorem maskN_maskN (m n : Nat) (xs : List Int) : maskN m (maskN n xs) = maskN (min m n) xs := by
  induction xs generalizing m n with
  | nil => simp [maskN]
  | cons x xs ih =>
    simp only [maskN, topB_topB, ih]
    congr 2 <;> omega

/-- How many bytes have one of the first bits. -/
def touchN (n : Nat) : Nat := (n + 7) / 8

theorem list_getD {a b : List Int} (hl : a.length = b.length) (h : ∀ i, i < a.length → a.getD i 0 = b.getD i 0) : a = b := by
  refine List.ext_getElem hl fun i h1 h2 => ?_
  have := h i h1
  rwa [List.getD_eq_getElem?_getD, List.getD_eq_getElem?_getD, List.getElem?_eq_getElem h1, List.getElem?_eq_getElem h2] at this

theorem maskN_past {n i : Nat} {xs : List Int} (h : ∀ b ∈ xs, 0 ≤ b ∧ b ≤ 255) (hi : touchN n ≤ i) : (maskN n xs).getD i 0 = 0 := by
  unfold touchN at hi
  have hb : 0 ≤ xs.getD i 0 ∧ xs.getD i 0 ≤ 255 := by
    rw [List.getD_eq_getElem?_getD]
    cases e : xs[i]? with
    | none => simp
    | some s => exact h s (List.mem_of_getElem? e)
  rw [maskN_getD, show min 8 (n - 8 * i) = 0 by omega]
  exact topB_none _ hb.1 hb.2

/-- An address of which just the bytes ahead stand. -/
def frontN (k : Nat) (xs : List Int) : List Int := xs.take k ++ List.replicate (xs.length - k) 0

theorem frontN_len (k : Nat) (xs : List Int) : (frontN k xs).length = xs.length := by
  simp [frontN]; omega

theorem sub_take (k i : Nat) (xs : List Int) (h : i < k) : (xs.take k).getD i 0 = xs.getD i 0 := by
  rw [List.getD_eq_getElem?_getD, List.getD_eq_getElem?_getD, List.getElem?_take_of_lt h]

theorem frontN_getD (k i : Nat) (xs : List Int) : (frontN k xs).getD i 0 = if i < k then xs.getD i 0 else 0 := by
  unfold frontN
  rw [List.getD_eq_getElem?_getD, List.getElem?_append]
  by_cases c : i < (xs.take k).length
  · rw [if_pos c, if_pos (by simp at c; omega), List.getElem?_take_of_lt (by simp at c; omega), List.getD_eq_getElem?_getD]
  · rw [if_neg c]
    by_cases c2 : i < k
    · rw [if_pos c2]
      have h1 : xs.length ≤ i := by simp at c; omega
      rw [List.getD_eq_getElem?_getD, List.getElem?_eq_none h1]
      have h2 : xs.length - k = 0 := by omega
      rw [h2]
      simp
    · rw [if_neg c2]
      rw [List.getElem?_replicate]
      split <;> rfl

theorem mask_even {n : Nat} {xs : List Int} (h : ∀ b ∈ xs, 0 ≤ b ∧ b ≤ 255) (h8 : n % 8 = 0) : frontN (touchN n) xs = maskN n xs := by
  refine list_getD (by rw [frontN_len, maskN_len]) fun i _ => ?_
  by_cases c : touchN n ≤ i
  · rw [maskN_past h c, frontN_getD, if_neg (by omega)]
  · rw [frontN_getD, if_pos (by omega), maskN_getD, show min 8 (n - 8 * i) = 8 by unfold touchN at c; omega, topB_eight]

theorem mask_odd {n : Nat} {xs : List Int} (h : ∀ b ∈ xs, 0 ≤ b ∧ b ≤ 255) (h8 : 0 < n % 8) : (frontN (touchN n) xs).set (n / 8) (topB (n % 8) (xs.getD (n / 8) 0)) = maskN n xs := by
  refine list_getD (by rw [List.length_set, frontN_len, maskN_len]) fun i hi => ?_
  rw [List.length_set, frontN_len] at hi
  rw [List.getD_eq_getElem?_getD, List.getElem?_set]
  by_cases c0 : n / 8 = i
  · rw [if_pos c0, if_pos (by rw [frontN_len]; omega), ← c0, maskN_getD, show min 8 (n - 8 * (n / 8)) = n % 8 by omega]
    rfl
  · rw [if_neg c0, ← List.getD_eq_getElem?_getD]
    by_cases c : touchN n ≤ i
    · rw [maskN_past h c, frontN_getD, if_neg (by omega)]
    · rw [frontN_getD, if_pos (by omega), maskN_getD, show min 8 (n - 8 * i) = 8 by unfold touchN at c; omega, topB_eight]

theorem and_top : ∀ (k : Fin 8) (x : Fin 256), 0 < k.val → bits .and .u8 (x.val : Int) (256 - 2 ^ (8 - k.val)) = topB k.val (x.val : Int) := by decide +kernel

theorem mask_front {n : Nat} {xs : List Int} (h : ∀ b ∈ xs, 0 ≤ b ∧ b ≤ 255) : frontN (touchN n) (maskN n xs) = maskN n xs := by
  refine list_getD (by rw [frontN_len]) fun i _ => ?_
  rw [frontN_getD]
  by_cases c : touchN n ≤ i
  · rw [if_neg (by omega), maskN_past h c]
  · rw [if_pos (by omega)]

/-- How many bytes an address of a family has. -/
def wideN (f : Int) : Nat := if f = 1 then 4 else if f = 2 then 16 else 0

/-- A subnet. -/
structure Sn where
  fam : Int
  src : Int
  scp : Int
  A : List Int

/-- Are source and scope bits of so many bytes? -/
def fitN (s : Sn) (size : Nat) : Prop := (0 ≤ s.src ∧ s.src ≤ size * 8) ∧ (0 ≤ s.scp ∧ s.scp ≤ size * 8)

instance (s : Sn) (size : Nat) : Decidable (fitN s size) := by unfold fitN; infer_instance

/-- What is wrong with a subnet. -/
def snE (s : Sn) : Int := if wideN s.fam = 0 then 6 else if ¬ s.A.length = wideN s.fam then 2 else if ¬ fitN s (wideN s.fam) then 6 else 0

/-- A subnet's bytes. -/
def encB (s : Sn) : List Int := twoN s.fam ++ [s.src, s.scp] ++ (maskN s.src.toNat s.A).take (touchN s.src.toNat)

/-- Is an address in a subnet? -/
def inN (a : List Int) (s : Sn) : Prop := snE s = 0 ∧ a.length = s.A.length ∧ maskN s.src.toNat a = maskN s.src.toNat s.A

instance (a : List Int) (s : Sn) : Decidable (inN a s) := by unfold inN; infer_instance

/-- The subnet that bytes seem to be. -/
def snOf (b : List Int) : Sn := ⟨numN (b.take 2), b.getD 2 0, b.getD 3 0, (b.drop 4).take (wideN (numN (b.take 2))) ++ List.replicate (wideN (numN (b.take 2)) - (b.length - 4)) 0⟩

/-- What is wrong with bytes as a subnet. -/
def decE (b : List Int) : Int :=
  if b.length < 4 then 2 else if wideN (snOf b).fam = 0 ∨ ¬ fitN (snOf b) (wideN (snOf b).fam) then 6
  else if ¬ b.length - 4 = touchN (snOf b).src.toNat then 1 else if ¬ (snOf b).A = maskN (snOf b).src.toNat (snOf b).A then 1 else 0

theorem snE_zero {s : Sn} (h : snE s = 0) : (s.fam = 1 ∧ s.A.length = 4 ∨ s.fam = 2 ∧ s.A.length = 16) ∧ wideN s.fam = s.A.length ∧ fitN s s.A.length := by
  unfold snE at h
  by_cases c1 : wideN s.fam = 0
  · rw [if_pos c1] at h; cases h
  · rw [if_neg c1] at h
    by_cases c2 : s.A.length = wideN s.fam
    · rw [if_neg (by simpa using c2)] at h
      by_cases c3 : fitN s (wideN s.fam)
      · refine ⟨?_, c2.symm, by rw [c2]; exact c3⟩
        unfold wideN at c1 c2
        by_cases f1 : s.fam = 1
        · rw [if_pos f1] at c2; exact Or.inl ⟨f1, c2⟩
        · rw [if_neg f1] at c2 c1
          by_cases f2 : s.fam = 2
          · rw [if_pos f2] at c2; exact Or.inr ⟨f2, c2⟩
          · rw [if_neg f2] at c1; exact absurd rfl c1
      · rw [if_pos c3] at h; cases h
    · rw [if_pos c2] at h; cases h

theorem snE_of {s : Sn} {k : Nat} (hk : wideN s.fam = k) (h0 : ¬ k = 0) (hl : s.A.length = k) (hf : fitN s k) : snE s = 0 := by
  unfold snE
  rw [hk, if_neg h0, if_neg (by simpa using hl), if_neg (by simpa using hf)]

theorem touch_le {n k : Nat} (h : n ≤ k * 8) : touchN n ≤ k := by unfold touchN; omega

theorem encB_len {s : Sn} (h : snE s = 0) : (encB s).length = 4 + touchN s.src.toNat := by
  obtain ⟨_, _, hf⟩ := snE_zero h
  have h1 : touchN s.src.toNat ≤ s.A.length := touch_le (by have := hf.1; omega)
  simp only [encB, List.length_append, List.length_take, maskN_len, twoN, List.length_cons, List.length_nil]
  omega

theorem front_mask {n : Nat} {xs : List Int} (h : ∀ b ∈ xs, 0 ≤ b ∧ b ≤ 255) : (maskN n xs).take (touchN n) ++ List.replicate (xs.length - touchN n) 0 = maskN n xs := by
  have := mask_front (n := n) h
  unfold frontN at this
  rwa [maskN_len] at this

theorem dec_enc {s : Sn} (h : snE s = 0) (hb : ∀ b ∈ s.A, 0 ≤ b ∧ b ≤ 255) : decE (encB s) = 0 ∧ snOf (encB s) = ⟨s.fam, s.src, s.scp, maskN s.src.toNat s.A⟩ := by
  obtain ⟨hfam, hw, hf⟩ := snE_zero h
  have ht : touchN s.src.toNat ≤ s.A.length := touch_le (by have := hf.1; omega)
  have hl := encB_len h
  have hn : numN ((encB s).take 2) = s.fam := by
    have : (encB s).take 2 = twoN s.fam := by simp [encB, twoN]
    rw [this]
    rcases hfam with ⟨e, _⟩ | ⟨e, _⟩ <;> (rw [e]; decide)
  have hA : (encB s).drop 4 = (maskN s.src.toNat s.A).take (touchN s.src.toNat) := by simp [encB, twoN]
  have ho : snOf (encB s) = ⟨s.fam, s.src, s.scp, maskN s.src.toNat s.A⟩ := by
    unfold snOf
    rw [hn, hA, hl, hw]
    congr 1
    rw [List.take_take, Nat.min_eq_right ht, show 4 + touchN s.src.toNat - 4 = touchN s.src.toNat by omega]
    exact front_mask hb
  refine ⟨?_, ho⟩
  unfold decE
  rw [ho, if_neg (by omega)]
  simp only
  rw [hw, if_neg, if_neg (by omega), if_neg (by rw [maskN_maskN, Nat.min_self]; simp)]
  intro q
  rcases q with q | q
  · rcases hfam with ⟨_, e⟩ | ⟨_, e⟩ <;> omega
  · exact q hf

theorem dec_zero {b : List Int} (h : decE b = 0) : 4 ≤ b.length ∧ ¬ wideN (snOf b).fam = 0 ∧ fitN (snOf b) (wideN (snOf b).fam) ∧ b.length - 4 = touchN (snOf b).src.toNat ∧ (snOf b).A = maskN (snOf b).src.toNat (snOf b).A := by
  unfold decE at h
  by_cases c1 : b.length < 4
  · rw [if_pos c1] at h; cases h
  · rw [if_neg c1] at h
    by_cases c2 : wideN (snOf b).fam = 0 ∨ ¬ fitN (snOf b) (wideN (snOf b).fam)
    · rw [if_pos c2] at h; cases h
    · rw [if_neg c2] at h
      by_cases c3 : b.length - 4 = touchN (snOf b).src.toNat
      · rw [if_neg (by simpa using c3)] at h
        by_cases c4 : (snOf b).A = maskN (snOf b).src.toNat (snOf b).A
        · refine ⟨by omega, fun q => c2 (Or.inl q), Classical.byContradiction fun q => c2 (Or.inr q), c3, c4⟩
        · rw [if_pos c4] at h; cases h
      · rw [if_pos c3] at h; cases h

theorem two_back {b : List Int} (hl : 2 ≤ b.length) (hb : ∀ x ∈ b, 0 ≤ x ∧ x ≤ 255) : twoN (numN (b.take 2)) = b.take 2 := by
  match b, hl, hb with
  | x :: y :: r, _, hb =>
    have h1 := hb x (by simp)
    have h2 := hb y (by simp)
    have e : numN ((x :: y :: r).take 2) = x * 256 + y := by simp [numN]
    rw [e]
    simp only [twoN, List.take_succ_cons, List.take_zero]
    congr 1
    · omega
    · congr 1; omega

theorem sn_len {b : List Int} (h : decE b = 0) : (snOf b).A.length = wideN (snOf b).fam := by
  obtain ⟨h1, h2, h3, h4, _⟩ := dec_zero h
  have ht : touchN (snOf b).src.toNat ≤ wideN (snOf b).fam := touch_le (by have := h3.1; omega)
  show ((b.drop 4).take _ ++ List.replicate _ 0).length = _
  have e : (snOf b).fam = numN (b.take 2) := rfl
  rw [e] at ht ⊢
  simp only [List.length_append, List.length_take, List.length_drop, List.length_replicate]
  omega

theorem enc_dec {b : List Int} (h : decE b = 0) (hb : ∀ x ∈ b, 0 ≤ x ∧ x ≤ 255) : snE (snOf b) = 0 ∧ encB (snOf b) = b := by
  obtain ⟨h1, h2, h3, h4, h5⟩ := dec_zero h
  have ht : touchN (snOf b).src.toNat ≤ wideN (snOf b).fam := touch_le (by have := h3.1; omega)
  refine ⟨snE_of rfl h2 (sn_len h) h3, ?_⟩
  have hA : (snOf b).A = (b.drop 4).take (wideN (snOf b).fam) ++ List.replicate (wideN (snOf b).fam - (b.length - 4)) 0 := rfl
  have hd : (b.drop 4).take (wideN (snOf b).fam) = b.drop 4 := List.take_of_length_le (by rw [List.length_drop]; omega)
  unfold encB
  rw [← h5]
  rw [hA, hd, ← h4, List.take_append_of_le_length (by rw [List.length_drop]; omega), List.take_of_length_le (by rw [List.length_drop]; omega)]
  have e : (snOf b).fam = numN (b.take 2) := rfl
  rw [e, two_back (by omega) hb]
  have e2 : [(snOf b).src, (snOf b).scp] = (b.drop 2).take 2 := by
    match b, h1 with
    | x :: y :: z :: t :: r, _ => simp [snOf]
  rw [e2]
  have e3 : b.drop 4 = (b.drop 2).drop 2 := by rw [List.drop_drop]
  rw [e3, List.append_assoc, List.take_append_drop, List.take_append_drop]

theorem sn_bytes {b : List Int} (hb : ∀ x ∈ b, 0 ≤ x ∧ x ≤ 255) : ∀ x ∈ (snOf b).A, 0 ≤ x ∧ x ≤ 255 := by
  intro x hx
  have hA : (snOf b).A = (b.drop 4).take (wideN (snOf b).fam) ++ List.replicate (wideN (snOf b).fam - (b.length - 4)) 0 := rfl
  rw [hA, List.mem_append] at hx
  rcases hx with hx | hx
  · exact hb x (List.mem_of_mem_drop (List.mem_of_mem_take hx))
  · rw [List.mem_replicate] at hx; omega

/-- With fewer bits alike. -/
theorem mask_less {m k : Nat} {a b : List Int} (h : maskN m a = maskN m b) (hk : k ≤ m) : maskN k a = maskN k b := by
  have e : k = min k m := by omega
  rw [e, ← maskN_maskN, h, maskN_maskN]

end Go.Proofs.Ytpmbbaacpnooeaa

namespace Go.Proofs.Ytpmbbaacpnooeaa
open Go.RowKit Go.Deep

set_option maxHeartbeats 400000 in
set_option maxRecDepth 100000 in
theorem touched_at (n : Nat) (w : World) (hn : n < 2000000000000000) :
    Calls Try.prog 36 #[.int .i64 (n : Int)] w fun e w' => e = .returned (.int .i64 ((touchN n : Nat) : Int)) ∧ w = w' := by
  have e : ((touchN n : Nat) : Int) = ((n : Int) + 8 - 1) / 8 := by unfold touchN; omega
  rw [e]
  go_enter Try.func36, Try.ntmps36
  go_wp2
  go_ret
  exact ⟨rfl, rfl⟩

set_option maxHeartbeats 400000 in
set_option maxRecDepth 100000 in
theorem sizeOf_at (f : Int) (w : World) :
    Calls Try.prog 38 #[.int .i64 f] w fun e w' => e = .returned (.int .i64 ((wideN f : Nat) : Int)) ∧ w = w' := by
  unfold wideN
  by_cases c1 : f = 1
  · subst c1
    go_enter Try.func38, Try.ntmps38
    go_wp2
    go_ret
    exact ⟨rfl, rfl⟩
  · by_cases c2 : f = 2
    · subst c2
      go_enter Try.func38, Try.ntmps38
      go_wp2
      go_ret
      exact ⟨rfl, rfl⟩
    · rw [if_neg c1, if_neg c2]
      go_enter Try.func38, Try.ntmps38
      go_wp2
      go_ret
      exact ⟨rfl, rfl⟩

theorem str_inj {A B : List Int} (ha : ∀ x ∈ A, 0 ≤ x ∧ x ≤ 255) (hb : ∀ x ∈ B, 0 ≤ x ∧ x ≤ 255) : decide (strOfNums A = strOfNums B) = decide (A = B) := by
  by_cases c : A = B
  · subst c; simp
  · have : ¬ strOfNums A = strOfNums B := fun e => c (by rw [← bs_of A ha, ← bs_of B hb, e])
    rw [decide_eq_false this, decide_eq_false c]

theorem bytes_eq (S T : ByteArray) : (S.toList == T.toList) = decide (S = T) := by
  by_cases c : S = T
  · subst c; simp
  · rw [decide_eq_false c]
    have : ¬ S.toList = T.toList := fun e => c (by
      rw [ByteArray.toList_eq, ByteArray.toList_eq] at e
      exact ByteArray.ext (Array.toList_inj.1 e))
    simpa using this

set_option maxHeartbeats 400000 in
set_option maxRecDepth 100000 in
theorem bequal_at {b1 o1 c1 l1 b2 o2 c2 l2 : Nat} (r : Bool) (A B : List Int) (w : World) (hA : ∀ x ∈ A, 0 ≤ x ∧ x ≤ 255) (hB : ∀ x ∈ B, 0 ≤ x ∧ x ≤ 255)
    (qA : ∀ i, i < A.length → w.cell? ⟨b1, o1 + i, none⟩ = some (.int .u8 (A.getD i 0))) (qB : ∀ i, i < B.length → w.cell? ⟨b2, o2 + i, none⟩ = some (.int .u8 (B.getD i 0))) (h1 : A.length = l1) (h2 : B.length = l2) (hr : decide (A = B) = r) :
    Calls Try.prog 40 #[.slice (some ⟨b1, o1, none⟩) l1 c1, .slice (some ⟨b2, o2, none⟩) l2 c2] w fun e w' => e = .returned (.bool r) ∧ w = w' := by
  subst h1 h2
  rw [← str_inj hA hB] at hr
  have k1 := run_convert_bytes_arg (P := Try.prog) w 36 5 Try.underlying36 Try.underlying5 b1 o1 A.length c1 A rfl qA 9 Try.underlying9
  have k2 := run_convert_bytes_arg (P := Try.prog) w 36 5 Try.underlying36 Try.underlying5 b2 o2 B.length c2 B rfl qB 9 Try.underlying9
  clear qA qB hA hB
  generalize strOfNums A = S at *
  generalize strOfNums B = T at *
  subst hr
  go_enter Try.func40, Try.ntmps40
  go_wp2
  go_ret
  exact ⟨ret_bool (bytes_eq S T), rfl⟩

/-- What masked hands back: a row of its own, at the end of what was there. -/
def MaskP (n : Nat) (xs : List Int) (w : World) (e : Ending) (w' : World) : Prop :=
  e = .returned (.slice (some ⟨w.heap.size, 0, none⟩) xs.length xs.length) ∧ Bl 5 w' w.heap.size ((maskN n xs).map (Value.int .u8)).toArray ∧ Below w.heap.size w w'

theorem and_top1 : ∀ (k : Fin 8) (x : Fin 256), 0 < k.val → bits .and .u8 (x.val : Int) (255 * 2 ^ (8 - k.val) % 256) = topB k.val (x.val : Int) := by decide +kernel

theorem and_top' (k : Nat) (x : Int) (hk0 : 0 < k) (hk8 : k < 8) (g0 : 0 ≤ x) (g1 : x ≤ 255) : bits .and .u8 x (255 * 2 ^ (8 - k) % 256) = topB k x := by
  have := and_top1 ⟨k, hk8⟩ ⟨x.toNat, by omega⟩ hk0
  simp only at this
  rwa [show ((x.toNat : Nat) : Int) = x by omega] at this

theorem zeros_made (n : Nat) : madeCells #[Value.int .u8 0] n = ((List.replicate n (0 : Int)).map (Value.int .u8)).toArray := by
  refine Array.ext' ?_
  simp only [madeCells, List.map_replicate]
  refine List.ext_getElem (by simp) fun i h1 h2 => ?_
  simp [Nat.mod_one]

theorem splice_front (xs : List Int) (t : Nat) (ht : t ≤ xs.length) : splice ((List.replicate xs.length (0 : Int)).map (Value.int .u8)) 0 ((xs.take t).map (Value.int .u8)) = (frontN t xs).map (Value.int .u8) := by
  unfold splice frontN
  simp only [List.take_zero, List.nil_append, Nat.zero_add, List.map_append, List.map_replicate, List.length_map, List.length_take, List.drop_replicate, Nat.min_eq_left ht]

set_option maxHeartbeats 1000000 in
set_option maxRecDepth 100000 in
theorem masked_some {b off c l : Nat} (n : Nat) (xs : List Int) (w : World) (hlen : xs.length ≤ 200000000000000) (hlc : xs.length ≤ c) (hb : b < w.heap.size) (hbs : ∀ x ∈ xs, 0 ≤ x ∧ x ≤ 255)
    (hq : ∀ i, i < xs.length → w.cell? ⟨b, off + i, none⟩ = some (.int .u8 (xs.getD i 0))) (hn : n ≤ 8 * xs.length) (hl : xs.length = l) :
    Calls Try.prog 35 #[.slice (some ⟨b, off, none⟩) l c, .int .i64 (n : Int)] w (MaskP n xs w) := by
  subst hl
  have htl : touchN n ≤ xs.length := by unfold touchN; omega
  obtain ⟨i0, hi, hz0, hz1, hz2⟩ := info_of_byte
  obtain ⟨t, ht⟩ : ∃ t, touchN n = t := ⟨_, rfl⟩
  have htl' : t ≤ xs.length := by omega
  have HT := hid ht
  have HQ := hid hq
  clear hq ht htl
  go_enter Try.func35, Try.ntmps35
  go_wp2_with (at_make; refine wpList_make_full _ rfl _ _ 36 rfl w.heap.size 5 i0 (.int .u8 0) 1 Try.underlying36 hi hz0 hz1 _ _ _ _ xs.length rfl rfl rfl rfl (by rw [hz2]; omega) (by unfold maxLen; omega) (Nat.le_refl _) ?_)
  intro w2 hown2 hg2
  obtain ⟨L, hC, hL⟩ : ∃ L : List Value, Bl 5 w2 w.heap.size L.toArray ∧ Hid (L = (List.replicate xs.length (0 : Int)).map (Value.int .u8)) := by
    rcases hown2.2 with ⟨e, _⟩ | ⟨g, cap, cur, e, _, hg, _, _, hcs, htk⟩
    · cases e
    · cases e
      refine ⟨_, ?_, hid rfl⟩
      rw [List.take_of_length_le (by simpa using Nat.le_of_eq hcs)] at htk
      have htk2 : cur.toList = (madeCells #[Value.int .u8 0] xs.length).toList := by simpa using htk
      rw [zeros_made] at htk2
      have : cur = ((List.replicate xs.length (0 : Int)).map (Value.int .u8)).toArray := Array.ext' htk2
      rw [← this]
      exact hg
  have B2 := hid ((Below.refl w.heap.size w).grown hg2 (Nat.le_refl _) (fun k hk => by cases hk))
  have hLl : L.length = xs.length := by rw [hL.out]; simp
  have KC := hid hC
  clear hown2 hg2 hC
  go_wp2_with fail
  refine (touched_at n _ (by omega)).mono ?_
  rintro e w3 ⟨rfl, rfl⟩
  rw [HT.out]
  obtain ⟨X, hX⟩ : ∃ X, (xs.take t).map (Value.int .u8) = X := ⟨_, rfl⟩
  have hXl : X.length = t := by rw [← hX, List.length_map, List.length_take]; omega
  have HX := hid hX
  have HLl := hid hLl
  have HXl := hid hXl
  have hsrc : Hid (∀ j v, X[j]? = some v → w2.cell? ((⟨b, off, none⟩ : Addr).add j) = some v) := by
    refine hid ?_
    intro j v hj
    have hjl : j < X.length := by
      rcases Nat.lt_or_ge j X.length with q | q
      · exact q
      · rw [List.getElem?_eq_none q] at hj; cases hj
    rw [hXl] at hjl
    rw [show (⟨b, off, none⟩ : Addr).add j = ⟨b, off + j, none⟩ by simp [Addr.add], B2.out.cell (p := ⟨b, off + j, none⟩) hb, HQ.out j (by omega)]
    rw [← hX, List.getElem?_map, List.getElem?_take_of_lt hjl, List.getElem?_eq_getElem (by omega : j < xs.length)] at hj
    rw [List.getD_eq_getElem?_getD, List.getElem?_eq_getElem (by omega : j < xs.length)]
    simpa using hj
  have hX1 : Hid (∀ v ∈ X, v.oneCell' = true) := by
    refine hid ?_
    rw [← hX]
    intro v hv
    obtain ⟨y, _, rfl⟩ := List.mem_map.1 hv
    rfl
  clear hX hLl hXl
  have hB : w.heap.size ≤ w.heap.size := Nat.le_refl _
  have hsz : (Try.prog.info? 5).map (·.size) = some 1 := by rw [hi]; simp [hz1]
  have HXm : Hid (X.length = Nat.min t xs.length) := hid (by rw [HXl.out]; exact (Nat.min_eq_left htl').symm)
  have HXf : Hid (0 + X.length ≤ L.length) := hid (by rw [HLl.out, HXl.out]; omega)
  go_wp2_with (refine wpList_copy_splice rfl (.tmp 10) (.tmp 14) 36 36 rfl 5 Try.underlying36 hsz _ _ _ _ _ _ rfl rfl w.heap.size 0 L 5 KC.out X HXm.out (fun _ => ⟨rfl, _, rfl, hsrc.out⟩) HXf.out hX1.out w.heap.size w B2.out hB ?_)
  intro w3 HG3 hB3
  have K3 : Hid (Bl 5 w3 w.heap.size ((frontN t xs).map (Value.int .u8)).toArray) := by
    refine hid ?_
    have e : splice L 0 X = (frontN t xs).map (Value.int .u8) := by rw [hL.out, ← HX.out]; exact splice_front xs t htl'
    rw [← e]
    exact HG3.out
  have B3 := hid hB3
  clear HG3 hB3 KC HXm HXf hX1 hsrc HXl HLl HX hL
  by_cases c8 : n % 8 = 0
  · have e8 : (n : Int) % 8 = 0 := by omega
    go_wp2_with fail
    go_ret
    refine ⟨rfl, ?_, B3.out⟩
    have := K3.out
    rwa [← HT.out, mask_even hbs c8] at this
  · obtain ⟨k, hk⟩ : ∃ k, n % 8 = k := ⟨_, rfl⟩
    obtain ⟨q, hq⟩ : ∃ q, n / 8 = q := ⟨_, rfl⟩
    have e8 : (n : Int) % 8 = (k : Int) := by omega
    have e9 : (n : Int) / 8 = (q : Int) := by omega
    have hql : q < xs.length := by omega
    have hcell : w3.cell? ⟨w.heap.size, q, none⟩ = some (.int .u8 (xs.getD q 0)) := by
      refine K3.out.cell ?_
      have hqt : q < t := by rw [← HT.out]; unfold touchN; omega
      have h1 := frontN_getD t q xs
      rw [if_pos hqt, List.getD_eq_getElem?_getD] at h1
      have h2 : q < (frontN t xs).length := by rw [frontN_len]; exact hql
      rw [List.getElem?_eq_getElem h2] at h1
      simp only [Option.getD_some] at h1
      simp [List.getElem?_eq_getElem h2, h1]
    have hfz := K3.out.frozen q
    obtain ⟨g0, g1⟩ := getD_byte hbs q
    have hm := mask_odd hbs (n := n) (by omega)
    rw [hk, hq, HT.out] at hm
    have HM := hid hm
    clear hm
    have hk0 : 0 < k := by omega
    have hk8 : k < 8 := by omega
    generalize xs.getD q 0 = x at *
    have hqi : (q : Int) < (xs.length : Int) := by omega
    go_wp2_with fail
    go_region
    go_wp2_with fail
    go_ret
    refine ⟨rfl, ?_, (B3.out.setCell (p := ⟨w.heap.size, q, none⟩) (Nat.le_refl _) _).drew⟩
    have hs := (K3.out.set q (.int .u8 (bits .and .u8 x (255 * 2 ^ (8 - k) % 256)))).drew
    rw [← HM.out, ← and_top' k x hk0 hk8 g0 g1]
    have ea : ((frontN t xs).set q (bits .and .u8 x (255 * 2 ^ (8 - k) % 256))).map (Value.int .u8) = ((frontN t xs).map (Value.int .u8)).set q (.int .u8 (bits .and .u8 x (255 * 2 ^ (8 - k) % 256))) := List.map_set
    rw [ea]
    simpa using hs

set_option maxHeartbeats 1000000 in
set_option maxRecDepth 100000 in
theorem masked_none {x : Option Addr} {c : Nat} (w : World) (hx : x = none → c = 0) :
    Calls Try.prog 35 #[.slice x 0 c, .int .i64 0] w (MaskP 0 [] w) := by
  obtain ⟨i0, hi, hz0, hz1, hz2⟩ := info_of_byte
  have hsz : (Try.prog.info? 5).map (·.size) = some 1 := by rw [hi]; simp [hz1]
  have key : ∀ (y : Option Addr) (d : Nat), (y = none → d = 0) → Calls Try.prog 35 #[.slice y 0 d, .int .i64 0] w (MaskP 0 [] w) := by
    intro y d hd
    cases y with
    | none =>
      obtain rfl := hd rfl
      go_enter Try.func35, Try.ntmps35
      go_wp2_with (at_make; refine wpList_make_full _ rfl _ _ 36 rfl w.heap.size 5 i0 (.int .u8 0) 1 Try.underlying36 hi hz0 hz1 _ _ _ _ 0 rfl rfl rfl rfl (by rw [hz2]; omega) (by unfold maxLen; omega) (Nat.le_refl _) ?_)
      intro w2 hown2 hg2
      have K2 : Hid (Bl 5 w2 w.heap.size #[]) := by
        refine hid ?_
        rcases hown2.2 with ⟨e, _⟩ | ⟨g, cap, cur, e, _, hg, _, _, hcs, htk⟩
        · cases e
        · cases e
          have : cur = #[] := Array.eq_empty_of_size_eq_zero (by simpa using hcs)
          rw [← this]
          exact hg
      have B2 := hid ((Below.refl w.heap.size w).grown hg2 (Nat.le_refl _) (fun k hk => by cases hk))
      clear hown2 hg2
      go_wp2_with fail
      refine (touched_at 0 _ (by omega)).mono ?_
      rintro e w3 ⟨rfl, rfl⟩
      rw [show ((touchN 0 : Nat) : Int) = 0 by decide]
      go_wp2_with (refine wpList_copy_nothing rfl (.tmp 10) (.tmp 14) 36 36 rfl 5 Try.underlying36 hsz _ _ _ _ _ _ rfl rfl rfl ?_)
      go_ret
      exact ⟨rfl, K2.out, B2.out⟩
    | some a =>
      go_enter Try.func35, Try.ntmps35
      go_wp2_with (at_make; refine wpList_make_full _ rfl _ _ 36 rfl w.heap.size 5 i0 (.int .u8 0) 1 Try.underlying36 hi hz0 hz1 _ _ _ _ 0 rfl rfl rfl rfl (by rw [hz2]; omega) (by unfold maxLen; omega) (Nat.le_refl _) ?_)
      intro w2 hown2 hg2
      have K2 : Hid (Bl 5 w2 w.heap.size #[]) := by
        refine hid ?_
        rcases hown2.2 with ⟨e, _⟩ | ⟨g, cap, cur, e, _, hg, _, _, hcs, htk⟩
        · cases e
        · cases e
          have : cur = #[] := Array.eq_empty_of_size_eq_zero (by simpa using hcs)
          rw [← this]
          exact hg
      have B2 := hid ((Below.refl w.heap.size w).grown hg2 (Nat.le_refl _) (fun k hk => by cases hk))
      clear hown2 hg2
      go_wp2_with fail
      refine (touched_at 0 _ (by omega)).mono ?_
      rintro e w3 ⟨rfl, rfl⟩
      rw [show ((touchN 0 : Nat) : Int) = 0 by decide]
      go_wp2_with (refine wpList_copy_nothing rfl (.tmp 10) (.tmp 14) 36 36 rfl 5 Try.underlying36 hsz _ _ _ _ _ _ rfl rfl rfl ?_)
      go_ret
      exact ⟨rfl, K2.out, B2.out⟩
  exact key x c hx

theorem masked_any {x : Option Addr} {c l : Nat} (n : Nat) (xs : List Int) (w : World) (h : Bys w x c xs) (hx : x = none → c = 0) (hn : n ≤ 8 * xs.length) (hl : xs.length = l) :
    Calls Try.prog 35 #[.slice x l c, .int .i64 (n : Int)] w (MaskP n xs w) := by
  obtain ⟨h1, h2, h3, h4⟩ := h
  rcases h4 with rfl | ⟨b, off, rfl, hb, hc⟩
  · obtain rfl : n = 0 := by simpa using hn
    subst hl
    exact masked_none w hx
  · exact masked_some n xs w h2 h1 hb h3 hc hn hl

end Go.Proofs.Ytpmbbaacpnooeaa

namespace Go.Proofs.Ytpmbbaacpnooeaa
open Go.RowKit Go.Deep

theorem MaskP.bys {n : Nat} {xs : List Int} {w w' : World} (hb : Bl 5 w' w.heap.size ((maskN n xs).map (Value.int .u8)).toArray) (hbs : ∀ x ∈ xs, 0 ≤ x ∧ x ≤ 255) (hl : xs.length ≤ 200000000000000) : Bys w' (some ⟨w.heap.size, 0, none⟩) xs.length (maskN n xs) := by
  refine ⟨by rw [maskN_len]; exact Nat.le_refl _, by rw [maskN_len]; exact hl, maskN_bytes n hbs, Or.inr ⟨w.heap.size, 0, rfl, hb.lt, fun i hi => ?_⟩⟩
  rw [Nat.zero_add]
  refine hb.cell ?_
  simp [List.getD_eq_getElem?_getD, List.getElem?_eq_getElem hi]

set_option maxHeartbeats 1000000 in
set_option maxRecDepth 100000 in
theorem sfit_at {x : Option Addr} {c l : Nat} (r : Bool) (s : Sn) (size : Nat) (w : World) (hsz : size ≤ 100) (hr : decide (fitN s size) = r) :
    Calls Try.prog 39 #[.agg #[.int .i64 s.fam, .int .i64 s.src, .int .i64 s.scp, .slice x l c], .int .i64 (size : Int)] w fun e w' => e = .returned (.bool r) ∧ Below w.heap.size w w' := by
  obtain ⟨fam, src, scp, A⟩ := s
  have B0 := hid ((Below.refl w.heap.size w).alloc (Nat.le_refl _) (.cells #[.int .i64 fam, .int .i64 src, .int .i64 scp, .slice x l c] 47))
  by_cases c1 : 0 ≤ src ∧ src ≤ (size : Int) * 8
  · by_cases c2 : 0 ≤ scp ∧ scp ≤ (size : Int) * 8
    · obtain rfl : r = true := by rw [← hr]; exact decide_eq_true ⟨c1, c2⟩
      have C1 := hid c1
      have C2 := hid c2
      clear c1 c2 hr
      go_enter Try.func39, Try.ntmps39
      go_wp2_with fail
      refine (rfits_at true _ _ _ (decide_eq_true C1.out)).mono ?_
      rintro e w1 ⟨rfl, rfl⟩
      go_wp2_with fail
      refine (rfits_at true _ _ _ (decide_eq_true C2.out)).mono ?_
      rintro e w1 ⟨rfl, rfl⟩
      go_wp2_with fail
      go_ret
      exact ⟨rfl, B0.out⟩
    · obtain rfl : r = false := by rw [← hr]; exact decide_eq_false (fun h => c2 h.2)
      have C1 := hid c1
      have C2 := hid c2
      clear c1 c2 hr
      go_enter Try.func39, Try.ntmps39
      go_wp2_with fail
      refine (rfits_at true _ _ _ (decide_eq_true C1.out)).mono ?_
      rintro e w1 ⟨rfl, rfl⟩
      go_wp2_with fail
      refine (rfits_at false _ _ _ (decide_eq_false C2.out)).mono ?_
      rintro e w1 ⟨rfl, rfl⟩
      go_wp2_with fail
      go_ret
      exact ⟨rfl, B0.out⟩
  · obtain rfl : r = false := by rw [← hr]; exact decide_eq_false (fun h => c1 h.1)
    have C1 := hid c1
    clear c1 hr
    go_enter Try.func39, Try.ntmps39
    go_wp2_with fail
    refine (rfits_at false _ _ _ (decide_eq_false C1.out)).mono ?_
    rintro e w1 ⟨rfl, rfl⟩
    go_wp2_with fail
    go_ret
    exact ⟨rfl, B0.out⟩

theorem wide_small (f : Int) : wideN f ≤ 16 := by unfold wideN; split <;> (try split) <;> omega

set_option maxHeartbeats 1000000 in
set_option maxRecDepth 100000 in
theorem scheck_at {x : Option Addr} {c l : Nat} (k : Int) (s : Sn) (w : World) (hl : s.A.length = l) (hl2 : s.A.length ≤ 200000000000000) (hk : snE s = k) :
    Calls Try.prog 33 #[.agg #[.int .i64 s.fam, .int .i64 s.src, .int .i64 s.scp, .slice x l c]] w fun e w' => e = .returned (errV k) ∧ Below w.heap.size w w' := by
  obtain ⟨fam, src, scp, A⟩ := s
  simp only at hl hl2 ⊢
  have hws := wide_small fam
  have B0 := hid ((Below.refl w.heap.size w).alloc (Nat.le_refl _) (.cells #[.int .i64 fam, .int .i64 src, .int .i64 scp, .slice x l c] 47))
  have C0 := Bl.new 47 w #[.int .i64 fam, .int .i64 src, .int .i64 scp, .slice x l c]
  unfold snE at hk
  simp only at hk
  by_cases c1 : wideN fam = 0
  · rw [if_pos c1] at hk
    subst hk
    have C1 := hid c1
    clear c1
    go_enter Try.func33, Try.ntmps33
    go_wp2_with fail
    refine (sizeOf_at fam _).mono ?_
    rintro e w1 ⟨rfl, rfl⟩
    rw [C1.out]
    go_wp2_with fail
    go_ret
    exact ⟨rfl, B0.out⟩
  · rw [if_neg c1] at hk
    by_cases c2 : A.length = wideN fam
    · rw [if_neg (by simpa using c2)] at hk
      have hne : ((l : Int) != ((wideN fam : Nat) : Int)) = false := by rw [← hl, c2]; simp
      have hn0 : (((wideN fam : Nat) : Int) == 0) = false := by simpa using c1
      have HS := sizeOf_at fam
      have HF := hid (sfit_at (x := x) (c := c) (l := l) (decide (fitN ⟨fam, src, scp, A⟩ (wideN fam))) ⟨fam, src, scp, A⟩ (wideN fam) (w.alloc (.cells #[.int .i64 fam, .int .i64 src, .int .i64 scp, .slice x l c] 47)) (by omega) rfl)
      have HK := hid hk
      clear c1 c2 hk
      generalize wideN fam = sz at *
      by_cases c3 : fitN ⟨fam, src, scp, A⟩ sz
      · have hk := HK.out
        rw [if_neg (by simpa using c3)] at hk
        subst hk
        have HF2 := HF.out
        rw [decide_eq_true c3] at HF2
        have HG := hid HF2
        clear HF HF2 HK c3
        go_enter Try.func33, Try.ntmps33
        go_wp2_with fail
        refine (HS _).mono ?_
        rintro e w1 ⟨rfl, rfl⟩
        clear HS
        go_wp2_with fail
        refine HG.out.mono ?_
        rintro e w1 ⟨rfl, d1⟩
        have B1 := hid (B0.out.trans (d1.mono B0.out.size))
        clear d1
        go_wp2_with fail
        go_ret
        exact ⟨rfl, B1.out⟩
      · have hk := HK.out
        rw [if_pos c3] at hk
        subst hk
        have HF2 := HF.out
        rw [decide_eq_false c3] at HF2
        have HG := hid HF2
        clear HF HF2 HK c3
        go_enter Try.func33, Try.ntmps33
        go_wp2_with fail
        refine (HS _).mono ?_
        rintro e w1 ⟨rfl, rfl⟩
        clear HS
        go_wp2_with fail
        refine HG.out.mono ?_
        rintro e w1 ⟨rfl, d1⟩
        have B1 := hid (B0.out.trans (d1.mono B0.out.size))
        clear d1
        go_wp2_with fail
        go_ret
        exact ⟨rfl, B1.out⟩
    · rw [if_pos c2] at hk
      subst hk
      have hne : ((l : Int) != ((wideN fam : Nat) : Int)) = true := by rw [bne_iff_ne]; omega
      have hn0 : (((wideN fam : Nat) : Int) == 0) = false := by simpa using c1
      have HS := sizeOf_at fam
      clear c1 c2
      generalize wideN fam = sz at *
      go_enter Try.func33, Try.ntmps33
      go_wp2_with fail
      refine (HS _).mono ?_
      rintro e w1 ⟨rfl, rfl⟩
      clear HS
      go_wp2_with fail
      go_ret
      exact ⟨rfl, B0.out⟩

set_option maxHeartbeats 1000000 in
set_option maxRecDepth 100000 in
theorem in_no {xa xs : Option Addr} {ca la cs ls : Nat} (a : List Int) (s : Sn) (w : World) (_ha : a.length ≤ 200000000000000) (hs : s.A.length ≤ 200000000000000) (hla : a.length = la) (hls : s.A.length = ls) (hr : ¬ (snE s = 0 ∧ a.length = s.A.length)) :
    Calls Try.prog 16 #[.slice xa la ca, .agg #[.int .i64 s.fam, .int .i64 s.src, .int .i64 s.scp, .slice xs ls cs]] w fun e w' => e = .returned (.bool false) ∧ Below w.heap.size w w' := by
  obtain ⟨fam, src, scp, A⟩ := s
  simp only at hls hs hr ⊢
  have B0 := hid ((Below.refl w.heap.size w).alloc (Nat.le_refl _) (.cells #[.int .i64 fam, .int .i64 src, .int .i64 scp, .slice xs ls cs] 47))
  have C0 := hid (Bl.new 47 w #[.int .i64 fam, .int .i64 src, .int .i64 scp, .slice xs ls cs])
  have HC := hid (scheck_at (x := xs) (c := cs) (l := ls) _ ⟨fam, src, scp, A⟩ (w.alloc (.cells #[.int .i64 fam, .int .i64 src, .int .i64 scp, .slice xs ls cs] 47)) hls hs rfl)
  by_cases c1 : snE ⟨fam, src, scp, A⟩ = 0
  · have hne : ((la : Int) != (ls : Int)) = true := by rw [bne_iff_ne]; intro q; exact hr ⟨c1, by omega⟩
    rw [c1] at HC
    clear hr c1
    go_enter Try.func16, Try.ntmps16
    go_wp2_with fail
    refine HC.out.mono ?_
    rintro e w1 ⟨rfl, d1⟩
    have hc3 := (C0.out.below d1).cell (i := 3) rfl
    have B1 := hid (B0.out.trans (d1.mono B0.out.size))
    clear d1
    rw [show errV 0 = .nilIface from rfl]
    go_wp2_with fail
    go_ret
    exact ⟨rfl, B1.out⟩
  · rw [errV_some c1] at HC
    clear hr c1
    generalize snE ⟨fam, src, scp, A⟩ = k at *
    go_enter Try.func16, Try.ntmps16
    go_wp2_with fail
    refine HC.out.mono ?_
    rintro e w1 ⟨rfl, d1⟩
    have B1 := hid (B0.out.trans (d1.mono B0.out.size))
    clear d1
    go_wp2_with fail
    go_ret
    exact ⟨rfl, B1.out⟩

set_option maxHeartbeats 4000000 in
set_option maxRecDepth 100000 in
theorem in_yes {ba oa bs os : Nat} {ca la cs ls : Nat} (r : Bool) (a : List Int) (s : Sn) (w : World) (ha : Bys w (some ⟨ba, oa, none⟩) ca a) (hs : Bys w (some ⟨bs, os, none⟩) cs s.A) (hla : a.length = la) (hls : s.A.length = ls) (h0 : snE s = 0) (hal : a.length = s.A.length) (hr : decide (maskN s.src.toNat a = maskN s.src.toNat s.A) = r) :
    Calls Try.prog 16 #[.slice (some ⟨ba, oa, none⟩) la ca, .agg #[.int .i64 s.fam, .int .i64 s.src, .int .i64 s.scp, .slice (some ⟨bs, os, none⟩) ls cs]] w fun e w' => e = .returned (.bool r) ∧ Below w.heap.size w w' := by
  obtain ⟨fam, src, scp, A⟩ := s
  simp only at hls hs hal hr ⊢
  obtain ⟨hfam, hw, hf⟩ := snE_zero h0
  simp only at hfam hf
  obtain ⟨m, rfl⟩ : ∃ m : Nat, src = (m : Int) := ⟨src.toNat, by have := hf.1; simp only at this; omega⟩
  have hm : m ≤ 8 * A.length := by have := hf.1; simp only at this; omega
  rw [Int.toNat_natCast] at hr
  have B0 := hid ((Below.refl w.heap.size w).alloc (Nat.le_refl _) (.cells #[.int .i64 fam, .int .i64 (m : Int), .int .i64 scp, .slice (some ⟨bs, os, none⟩) ls cs] 47))
  have C0 := hid (Bl.new 47 w #[.int .i64 fam, .int .i64 (m : Int), .int .i64 scp, .slice (some ⟨bs, os, none⟩) ls cs])
  have HC := hid (scheck_at (x := some ⟨bs, os, none⟩) (c := cs) (l := ls) 0 ⟨fam, m, scp, A⟩ (w.alloc (.cells #[.int .i64 fam, .int .i64 (m : Int), .int .i64 scp, .slice (some ⟨bs, os, none⟩) ls cs] 47)) hls hs.2.1 h0)
  have hne : ((la : Int) != (ls : Int)) = false := by rw [bne_eq_false_iff_eq]; omega
  have hlen : A.length ≤ 200000000000000 := hs.2.1
  have HR := hid hr
  have HAL := hid hal
  have HF := hid hfam
  clear hr hal hfam hw hf h0
  go_enter Try.func16, Try.ntmps16
  go_wp2_with fail
  refine HC.out.mono ?_
  rintro e w1 ⟨rfl, d1⟩
  have hc1 := (C0.out.below d1).cell (i := 1) rfl
  have hc3 := (C0.out.below d1).cell (i := 3) rfl
  have B1 := hid (B0.out.trans (d1.mono B0.out.size))
  have hlt := Nat.lt_of_lt_of_le C0.out.lt d1.size
  clear d1 HC
  rw [show errV 0 = .nilIface from rfl]
  go_wp2_with fail
  have M1 : Hid (∀ u, Below w1.heap.size w1 u → Calls Try.prog 35 #[.slice (some ⟨ba, oa, none⟩) la ca, .int .i64 (m : Int)] u fun e u' => ∃ g, e = .returned (.slice (some ⟨g, 0, none⟩) la la) ∧ Bl 5 u' g ((maskN m a).map (Value.int .u8)).toArray ∧ Below w1.heap.size w1 u') := by
    refine hid fun u hu => (masked_any m a u ((ha.below B1.out).below hu) (fun q => by cases q) (by have := HAL.out; omega) hla).mono ?_
    rintro e u' ⟨rfl, k, d⟩
    exact ⟨u.heap.size, by rw [hla], k, hu.trans (d.mono hu.size)⟩
  have M2 : Hid (∀ u, Below w1.heap.size w1 u → Calls Try.prog 35 #[.slice (some ⟨bs, os, none⟩) ls cs, .int .i64 (m : Int)] u fun e u' => ∃ g, e = .returned (.slice (some ⟨g, 0, none⟩) ls ls) ∧ Bl 5 u' g ((maskN m A).map (Value.int .u8)).toArray ∧ Below u.heap.size u u' ∧ Below w1.heap.size w1 u') := by
    refine hid fun u hu => (masked_any m A u ((hs.below B1.out).below hu) (fun q => by cases q) hm hls).mono ?_
    rintro e u' ⟨rfl, k, d⟩
    exact ⟨u.heap.size, by rw [hls], k, d, hu.trans (d.mono hu.size)⟩
  have M3 : Hid (∀ (u : World) (g1 g2 : Nat), Bl 5 u g1 ((maskN m a).map (Value.int .u8)).toArray → Bl 5 u g2 ((maskN m A).map (Value.int .u8)).toArray → Calls Try.prog 40 #[.slice (some ⟨g1, 0, none⟩) la la, .slice (some ⟨g2, 0, none⟩) ls ls] u fun e u' => e = .returned (.bool r) ∧ u = u') := by
    refine hid fun u g1 g2 k1 k2 => ?_
    refine bequal_at r (maskN m a) (maskN m A) u (maskN_bytes m ha.2.2.1) (maskN_bytes m hs.2.2.1) (fun i hi => ?_) (fun i hi => ?_) (by rw [maskN_len, hla]) (by rw [maskN_len, hls]) HR.out
    · rw [Nat.zero_add]; refine k1.cell ?_; simp [List.getD_eq_getElem?_getD, List.getElem?_eq_getElem hi]
    · rw [Nat.zero_add]; refine k2.cell ?_; simp [List.getD_eq_getElem?_getD, List.getElem?_eq_getElem hi]
  have PK : Hid (∀ u, Below w1.heap.size w1 u → u.cell? ⟨w.heap.size, 1, none⟩ = some (.int .i64 (m : Int)) ∧ u.cell? ⟨w.heap.size, 3, none⟩ = some (.slice (some ⟨bs, os, none⟩) ls cs) ∧ Below w1.heap.size w1 u) :=
    hid fun u hu => ⟨by rw [hu.cell (p := ⟨w.heap.size, 1, none⟩) hlt]; exact hc1, by rw [hu.cell (p := ⟨w.heap.size, 3, none⟩) hlt]; exact hc3, hu⟩
  clear ha hs HR HAL HF
  go_region_held3 (fun u => u.cell? ⟨w.heap.size, 1, none⟩ = some (.int .i64 (m : Int)) ∧ u.cell? ⟨w.heap.size, 3, none⟩ = some (.slice (some ⟨bs, os, none⟩) ls cs) ∧ Below w1.heap.size w1 u) (with_reducible (first | assumption | exact PK.out _ (Below.drew (Below.refl _ _)) | exact PK.out _ HB2 | exact PK.out _ HB3))
    (first
      | (go_at_call_of 35 ca; refine (M1.out _ ?_).mono ?_; (first | assumption | exact Below.drew (Below.refl _ _)); rintro e w2 ⟨g1, rfl, K1, HB2⟩)
      | (go_at_call_of 35 cs; refine (M2.out _ ?_).mono ?_; (first | assumption | exact Below.drew (Below.refl _ _)); rintro e w3 ⟨g2, rfl, K2, D3, HB3⟩)
      | (go_at_call 40; refine (M3.out _ _ _ (K1.below D3) K2).mono ?_; rintro e w4 ⟨rfl, rfl⟩))
  all_goals
    have BE := hid (grown_on B1.out HB3)
    go_wp2_with fail
    go_ret
    exact ⟨rfl, BE.out⟩

theorem in_at {xa xs : Option Addr} {ca la cs ls : Nat} (r : Bool) (a : List Int) (s : Sn) (w : World) (ha : Bys w xa ca a) (hs : Bys w xs cs s.A) (hla : a.length = la) (hls : s.A.length = ls) (hr : decide (inN a s) = r) :
    Calls Try.prog 16 #[.slice xa la ca, .agg #[.int .i64 s.fam, .int .i64 s.src, .int .i64 s.scp, .slice xs ls cs]] w fun e w' => e = .returned (.bool r) ∧ Below w.heap.size w w' := by
  by_cases c1 : snE s = 0 ∧ a.length = s.A.length
  · obtain ⟨h0, hal⟩ := c1
    obtain ⟨hfam, _, _⟩ := snE_zero h0
    rcases ha.2.2.2 with e | ⟨ba, oa, rfl, _, _⟩
    · rw [e] at hal; simp only [List.length_nil] at hal; omega
    rcases hs.2.2.2 with e | ⟨bs, os, rfl, _, _⟩
    · rw [e] at hfam; simp only [List.length_nil] at hfam; omega
    refine in_yes r a s w ha hs hla hls h0 hal ?_
    rw [← hr]
    unfold inN
    simp [h0, hal]
  · obtain rfl : r = false := by rw [← hr]; exact decide_eq_false (fun h => c1 ⟨h.1, h.2.1⟩)
    exact in_no a s w ha.2.1 hs.2.1 hla hls c1

end Go.Proofs.Ytpmbbaacpnooeaa

namespace Go.Proofs.Ytpmbbaacpnooeaa
open Go.RowKit Go.Deep

theorem rowb_fresh {w : World} {B : Nat} {v : Value} {xs : List Int} (h : Rowb w B v xs) (hp : 0 < xs.length) (hl : xs.length ≤ 200000000000000) (hb : ∀ b ∈ xs, 0 ≤ b ∧ b ≤ 255) :
    ∃ b o c, v = .slice (some ⟨b, o, none⟩) xs.length c ∧ Bys w (some ⟨b, o, none⟩) c xs ∧ B ≤ b := by
  have h0 := h
  rcases h.2 with ⟨rfl, h4⟩ | ⟨g, cap, cur, rfl, hg, _⟩
  · omega
  · obtain ⟨x, c, e, hs⟩ := rowb_bys h0 hl hb
    cases e
    exact ⟨_, _, _, rfl, hs, hg⟩

theorem rowb_under {w w' : World} {B : Nat} {v : Value} {xs : List Int} (h : Rowb w B v xs) (k : Below w.heap.size w w') : Rowb w' B v xs := by
  have g : w.grownBy w' none := ⟨k.os, k.tape, k.output, k.size, fun j hj _ => k.block j hj⟩
  refine World.ownsRow.kept h g ?_
  cases v.ownBlock
  · exact Or.inl rfl
  · right; intro q; cases q

/-- Bytes appended to a row of the call's own, as a step of a region that draws. -/
theorem step_append_bys {w : World} {ops : Array Oper} {o : Oper} {a : Act} {K : Act → World → Prop} {Q : Exit → Act → World → Prop} {E : Prop} (hgd : o.guard = none) (sl x : Operand)
    (ho : o.op = .call { callee := .builtin .append, args := #[sl, x], argTypes := #[36, 36] }) (B : Nat) (v : Value) (xs : List Int) (hs : a.eval sl = v) (hown : Rowb w B v xs) (ad : Addr) (m c : Nat) (D : List Int) (hm : D.length = m) (hx : a.eval x = .slice (some ad) m c)
    (hn : ∀ j u, (D.map (Value.int .u8))[j]? = some u → w.cell? (ad.add j) = some u) (hl : xs.length + D.length ≤ 200000000000000) (hB : B ≤ w.heap.size)
    (h : ∀ v' w', Rowb w' B v' (xs ++ D) → w.grownBy w' v.ownBlock → K (a.put o.dst v') w') :
    if Region.wanted o (yielded ops a.tmps) = true then Oper.wp Try.prog o a w K Q else E := by
  have hw : Region.wanted o (yielded ops a.tmps) = true := by simp [Region.wanted, hgd]
  rw [if_pos hw]
  obtain ⟨i0, hi, hz0, hz1, hz2⟩ := info_of_byte
  subst hm
  obtain ⟨v', w', hr, hown', hgr, _⟩ := run_append_own_wide (P := Try.prog) w B 36 o.type 5 i0 (.int .u8 0) 1 1 Try.underlying36 hi hz0 hz1 hz2 rfl (by decide) v xs.length (xs.map (Value.int .u8)) hown ad D.length c (D.map (Value.int .u8)) (by simp) hn (one_cells D) (by unfold maxLen; omega) (by omega) hB
  unfold Oper.wp execOp
  simp only [ho, resolve, invoke, builtin, Sem.run_bind, Sem.run_pure, Result.andThen_ok, List.map_toArray, List.map_cons, List.map_nil, hs, hx, hr]
  exact h v' w' (Rowb.of hown' (by simp) (by simp)) hgr

set_option maxHeartbeats 1000000 in
set_option maxRecDepth 100000 in
theorem encode_bad {x : Option Addr} {c l : Nat} (s : Sn) (w : World) (hl : s.A.length = l) (hl2 : s.A.length ≤ 200000000000000) (hk : ¬ snE s = 0) :
    Calls Try.prog 14 #[.agg #[.int .i64 s.fam, .int .i64 s.src, .int .i64 s.scp, .slice x l c]] w fun e w' => e = .returned (.tuple #[.slice none 0 0, errV (snE s)]) ∧ Below w.heap.size w w' := by
  obtain ⟨fam, src, scp, A⟩ := s
  simp only at hl hl2 ⊢
  have B0 := hid ((Below.refl w.heap.size w).alloc (Nat.le_refl _) (.cells #[.int .i64 fam, .int .i64 src, .int .i64 scp, .slice x l c] 47))
  have HC := hid (scheck_at (x := x) (c := c) (l := l) _ ⟨fam, src, scp, A⟩ (w.alloc (.cells #[.int .i64 fam, .int .i64 src, .int .i64 scp, .slice x l c] 47)) hl hl2 rfl)
  rw [errV_some hk] at HC ⊢
  clear hk
  generalize snE ⟨fam, src, scp, A⟩ = k at *
  go_enter Try.func14, Try.ntmps14
  go_wp2_with fail
  refine HC.out.mono ?_
  rintro e w1 ⟨rfl, d1⟩
  have B1 := hid (grown_on B0.out d1)
  clear d1 HC
  go_wp2_with fail
  go_ret2
  exact ⟨rfl, B1.out⟩

/-- What Encode hands back. -/
def EncP (s : Sn) (w : World) (e : Ending) (w' : World) : Prop :=
  ∃ b o c, e = .returned (.tuple #[.slice (some ⟨b, o, none⟩) (encB s).length c, .nilIface]) ∧ Bys w' (some ⟨b, o, none⟩) c (encB s) ∧ w.heap.size ≤ b ∧ Below w.heap.size w w'

theorem encB_bytes {s : Sn} (h : snE s = 0) (hb : ∀ b ∈ s.A, 0 ≤ b ∧ b ≤ 255) : ∀ b ∈ encB s, 0 ≤ b ∧ b ≤ 255 := by
  obtain ⟨hfam, _, hf⟩ := snE_zero h
  have h1 := hf.1
  have h2 := hf.2
  intro b hm
  unfold encB at hm
  rw [List.mem_append, List.mem_append] at hm
  rcases hm with (hm | hm) | hm
  · simp only [twoN, List.mem_cons, List.not_mem_nil, or_false] at hm
    rcases hm with rfl | rfl <;> omega
  · simp only [List.mem_cons, List.not_mem_nil, or_false] at hm
    rcases hm with rfl | rfl <;> omega
  · exact maskN_bytes _ hb b (List.mem_of_mem_take hm)

theorem EncP.of {s : Sn} {w w' : World} {B : Nat} {v r : Value} (hb : ∀ b ∈ encB s, 0 ≤ b ∧ b ≤ 255) (h : Rowb w' B v (encB s)) (hB : w.heap.size ≤ B) (hw : Below w.heap.size w w') (hr : r = .tuple #[v, .nilIface]) (hl : (encB s).length ≤ 200000000000000) : EncP s w (.returned r) w' := by
  obtain ⟨b, o, c, rfl, hs, hBb⟩ := rowb_fresh h (by unfold encB; simp [twoN]) hl hb
  exact ⟨b, o, c, by rw [hr], hs, by omega, hw⟩

set_option maxHeartbeats 4000000 in
set_option maxRecDepth 100000 in
theorem encode_good {x : Option Addr} {c l : Nat} (s : Sn) (w : World) (h : Bys w x c s.A) (hl : s.A.length = l) (h0 : snE s = 0) :
    Calls Try.prog 14 #[.agg #[.int .i64 s.fam, .int .i64 s.src, .int .i64 s.scp, .slice x l c]] w (EncP s w) := by
  have HB := hid (encB_bytes h0 h.2.2.1)
  have HLn : Hid ((encB s).length ≤ 200000000000000) := hid (by
    obtain ⟨hfam, _, hf⟩ := snE_zero h0
    have := touch_le (n := s.src.toNat) (k := s.A.length) (by have := hf.1; omega)
    rw [encB_len h0]
    omega)
  obtain ⟨hfam, hw, hf⟩ := snE_zero h0
  obtain ⟨fam, src, scp, A⟩ := s
  simp only at hl hfam hf h ⊢
  obtain ⟨m, rfl⟩ : ∃ m : Nat, src = (m : Int) := ⟨src.toNat, by have := hf.1; simp only at this; omega⟩
  have hf1 : (m : Int) ≤ 128 := by have := hf.1; simp only at this; omega
  have hf0 : (0 : Int) ≤ (m : Int) := by omega
  have hg0 : 0 ≤ scp := by have := hf.2; simp only at this; omega
  have hg1 : scp ≤ 128 := by have := hf.2; simp only at this; omega
  have hm : m ≤ 8 * A.length := by have := hf.1; simp only at this; omega
  have B0 := hid ((Below.refl w.heap.size w).alloc (Nat.le_refl _) (.cells #[.int .i64 fam, .int .i64 (m : Int), .int .i64 scp, .slice x l c] 47))
  have C0 := hid (Bl.new 47 w #[.int .i64 fam, .int .i64 (m : Int), .int .i64 scp, .slice x l c])
  have HC := hid (scheck_at (x := x) (c := c) (l := l) 0 ⟨fam, m, scp, A⟩ (w.alloc (.cells #[.int .i64 fam, .int .i64 (m : Int), .int .i64 scp, .slice x l c] 47)) hl h.2.1 h0)
  have hlen : A.length ≤ 16 := by omega
  have HF := hid hfam
  clear hfam hw hf h0
  go_enter Try.func14, Try.ntmps14
  go_wp2_with fail
  refine HC.out.mono ?_
  rintro e w1 ⟨rfl, d1⟩
  have C1 := C0.out.below d1
  have c0 := C1.cell (i := 0) rfl
  have c1 := C1.cell (i := 1) rfl
  have c2 := C1.cell (i := 2) rfl
  have c3 := C1.cell (i := 3) rfl
  have B1 := hid (grown_on B0.out d1)
  have hlt := Nat.lt_of_lt_of_le C0.out.lt d1.size
  have HC1 := hid C1
  clear d1 HC C0 C1
  rw [show errV 0 = .nilIface from rfl]
  go_wp2_with fail
  refine (appendTwo_any w1.heap.size (.slice none 0 0) [] fam w1 (World.ownsRow_nil _ _ _ _) (by simp) (Nat.le_refl _)).mono ?_
  rintro e w2 ⟨v2, rfl, R2, d2, _⟩
  have C2 := HC1.out.under hlt d2
  clear c0 c1 c2 c3
  have c0 := C2.cell (i := 0) rfl
  have c1 := C2.cell (i := 1) rfl
  have c2 := C2.cell (i := 2) rfl
  have c3 := C2.cell (i := 3) rfl
  have HC2 := hid C2
  have HD2 := hid d2
  have HR2 := hid R2
  clear C2 d2 R2
  obtain ⟨i0, hi, hz0, hz1, hz2⟩ := info_of_byte
  have hown : w2.ownsRow w1.heap.size 5 1 v2 2 ((twoN fam).map (Value.int .u8)) := HR2.out
  have hle2 : w1.heap.size ≤ w2.heap.size := HD2.out.size
  go_wp2_with (at_builtin; refine wpList_append_own_wide _ rfl _ _ 36 rfl w1.heap.size 5 i0 (.int .u8 0) 1 1 Try.underlying36 hi hz0 hz1 hz2 rfl (by decide) _ _ _ rfl (hown.alloc _) ⟨w2.heap.size, 0, none⟩ 2 2 [.int .u8 (m : Int), .int .u8 scp] rfl rfl (cells_new w2 [.int .u8 (m : Int), .int .u8 scp] 5) (one_cells [(m : Int), scp]) (by unfold maxLen; omega) (by omega) (by simp; omega) ?_)
  intro v3 w3 hown3 hgrow3 _
  have R3 : Hid (Rowb w3 w1.heap.size v3 (twoN fam ++ [(m : Int), scp])) := hid (Rowb.of hown3 (by simp [twoN]) (by simp [twoN]))
  have B3 : Hid (Below w1.heap.size w1 w3) := hid (grown_below (hown.alloc _) (HD2.out.alloc hle2 _) (by simp; omega) hgrow3)
  clear hown hown3 hgrow3 HR2 c0 c1 c2 c3 hi hz0 hz1 hz2 i0
  have PK : Hid (∀ u, Below w1.heap.size w1 u → u.cell? ⟨w.heap.size, 1, none⟩ = some (.int .i64 (m : Int)) ∧ u.cell? ⟨w.heap.size, 3, none⟩ = some (.slice x l c) ∧ Below w1.heap.size w1 u) :=
    hid fun u hu => ⟨(HC1.out.under hlt hu).cell (i := 1) rfl, (HC1.out.under hlt hu).cell (i := 3) rfl, hu⟩
  obtain ⟨t, ht⟩ : ∃ t, touchN m = t := ⟨_, rfl⟩
  have htl : t ≤ l := by rw [← ht, ← hl]; exact touch_le (by omega)
  have jt : (t : Int) ≤ (l : Int) := by omega
  have M1 : Hid (∀ u, Below w1.heap.size w1 u → Calls Try.prog 35 #[.slice x l c, .int .i64 (m : Int)] u fun e u' => ∃ g, e = .returned (.slice (some ⟨g, 0, none⟩) l l) ∧ Bl 5 u' g ((maskN m A).map (Value.int .u8)).toArray ∧ Below u.heap.size u u' ∧ Below w1.heap.size w1 u') := by
    refine hid fun u hu => (masked_any m A u ((h.below B1.out).below hu) (fun q => ?_) hm hl).mono ?_
    · subst q
      rcases h.2.2.2 with e | ⟨_, _, e, _⟩
      · have := HF.out; rw [e] at this; simp only [List.length_nil] at this; omega
      · cases e
    rintro e u' ⟨rfl, k, d⟩
    exact ⟨u.heap.size, by rw [hl], k, d, hu.trans (d.mono hu.size)⟩
  have M2 : Hid (∀ u, Calls Try.prog 36 #[.int .i64 (m : Int)] u fun e u' => e = .returned (.int .i64 (t : Int)) ∧ u = u') := by
    rw [← ht]
    exact hid fun u => touched_at m u (by omega)
  have HN : Hid (∀ (u : World) (g : Nat), Bl 5 u g ((maskN m A).map (Value.int .u8)).toArray → ∀ j v, (((maskN m A).take t).map (Value.int .u8))[j]? = some v → u.cell? ((⟨g, 0, none⟩ : Addr).add j) = some v) := by
    refine hid fun u g k j v hj => ?_
    rw [show (⟨g, 0, none⟩ : Addr).add j = ⟨g, j, none⟩ by simp [Addr.add]; intro q; exact q.symm]
    refine k.cell ?_
    rw [List.map_take] at hj
    have hjl : j < t := by
      rcases Nat.lt_or_ge j t with q | q
      · exact q
      · rw [List.getElem?_eq_none (by simp; omega)] at hj; cases hj
    rw [List.getElem?_take_of_lt hjl] at hj
    simpa using hj
  have HDl : Hid (((maskN m A).take t).length = t) := hid (by rw [List.length_take, maskN_len]; omega)
  have HDs : Hid ((twoN fam ++ [(m : Int), scp]).length + ((maskN m A).take t).length ≤ 200000000000000) := hid (by rw [HDl.out]; simp [twoN]; omega)
  have HT := hid ht
  clear ht
  go_wp2_with fail
  obtain ⟨D, hD⟩ : ∃ D, (maskN m A).take t = D := ⟨_, rfl⟩
  rw [hD] at HN HDl HDs
  obtain ⟨P, hP⟩ : ∃ P, twoN fam ++ [(m : Int), scp] = P := ⟨_, rfl⟩
  rw [hP] at R3 HDs
  have HPD := hid (show encB ⟨fam, (m : Int), scp, A⟩ = P ++ D by rw [← hP, ← hD, ← HT.out]; rfl)
  clear hD hP
  go_region_held3 (fun u => u.cell? ⟨w.heap.size, 1, none⟩ = some (.int .i64 (m : Int)) ∧ u.cell? ⟨w.heap.size, 3, none⟩ = some (.slice x l c) ∧ Below w1.heap.size w1 u) (with_reducible (first | assumption | exact PK.out _ (Below.drew B3.out) | exact PK.out _ HB4 | exact PK.out _ HB5))
    (first
      | (go_at_call 35; refine (M1.out _ ?_).mono ?_; (first | assumption | exact Below.drew B3.out); rintro e w4 ⟨g, rfl, K4, D4, HB4⟩)
      | (go_at_call 36; refine (M2.out _).mono ?_; rintro e w5 ⟨rfl, rfl⟩)
      | (refine step_append_bys rfl (.tmp 23) (.tmp 32) rfl w1.heap.size v3 P rfl (rowb_under (w := w3.drew) R3.out D4) ⟨g, 0, none⟩ t _ D HDl.out rfl (HN.out _ _ K4) HDs.out HB4.size ?_; intro v5 w5 R5 G5; have HB5 := Rowb.below (rowb_under (w := w3.drew) R3.out D4) HB4 HB4.size G5))
  all_goals
    have R6 := hid R5
    have B6 := hid (grown_on B1.out HB5)
    clear R5 G5 HB5 HB4 K4 D4
    go_wp2_with fail
    go_ret2
    refine EncP.of (HB.out) (by rw [HPD.out]; exact R6.out) B1.out.size B6.out rfl HLn.out

end Go.Proofs.Ytpmbbaacpnooeaa

namespace Go.Proofs.Ytpmbbaacpnooeaa
open Go.RowKit Go.Deep

/-- What Decode hands back. -/
def DecP (b : List Int) (w : World) (e : Ending) (w' : World) : Prop :=
  if decE b = 0 then ∃ g c, e = .returned (.tuple #[.agg #[.int .i64 (snOf b).fam, .int .i64 (snOf b).src, .int .i64 (snOf b).scp, .slice (some ⟨g, 0, none⟩) (snOf b).A.length c], .nilIface]) ∧ Bys w' (some ⟨g, 0, none⟩) c (snOf b).A ∧ w.heap.size ≤ g ∧ Below w.heap.size w w'
  else e = .returned (.tuple #[.agg #[.int .i64 0, .int .i64 0, .int .i64 0, .slice none 0 0], errV (decE b)]) ∧ Below w.heap.size w w'

theorem DecP.bad {b : List Int} {w w' : World} {k : Int} {e : Ending} (hk : decE b = k) (h0 : ¬ k = 0) (he : e = .returned (.tuple #[.agg #[.int .i64 0, .int .i64 0, .int .i64 0, .slice none 0 0], errV k])) (hb : Below w.heap.size w w') : DecP b w e w' := by
  unfold DecP
  rw [hk, if_neg h0]
  exact ⟨he, hb⟩

theorem results_dec (tmps : Array Value) (w : World) (g : Nat) (v0 v1 v2 v3 v : Value) (h2 : tmps[2]?.getD undef = .pointer (some ⟨g, 0, none⟩)) (h3 : tmps[3]?.getD undef = v) (h : Bl 47 w g #[v0, v1, v2, v3]) :
    (results Try.f15 tmps).run Try.prog w = .ok (.tuple #[.agg #[v0, v1, v2, v3], v]) w := by
  have c0 := h.cell (i := 0) rfl
  have c1 := h.cell (i := 1) rfl
  have c2 := h.cell (i := 2) rfl
  have c3 := h.cell (i := 3) rfl
  simp at c0 c1 c2 c3
  simp [results, Try.results15, go_sem, h2, h3, c0, c1, c2, c3]

set_option maxHeartbeats 1000000 in
set_option maxRecDepth 100000 in
theorem dec_short {x : Option Addr} {c l : Nat} (b : List Int) (w : World) (hl : b.length = l) (h4 : b.length < 4) :
    Calls Try.prog 15 #[.slice x l c] w (DecP b w) := by
  have HE : Hid (decE b = 2) := hid (by unfold decE; rw [if_pos h4])
  have h5 : (l : Int) < 4 := by omega
  go_enter Try.func15, Try.ntmps15
  go_wp2_with fail
  refine bodyPost_ret (results_dec _ _ w.heap.size _ _ _ _ _ rfl rfl (Bl.new 47 w _)) rfl ?_
  exact DecP.bad HE.out (by decide) rfl ((Below.refl _ w).alloc (Nat.le_refl _) _)

theorem Bl.put4 {t : TypeId} {w : World} {b : Nat} {u0 u1 u2 u3 : Value} (h : Bl t w b #[u0, u1, u2, u3]) (v0 v1 v2 v3 : Value) :
    Bl t ((((w.setCell ⟨b, 0, none⟩ v0).setCell ⟨b, 1, none⟩ v1).setCell ⟨b, 2, none⟩ v2).setCell ⟨b, 3, none⟩ v3) b #[v0, v1, v2, v3] := by
  have h1 : Bl t (w.setCell ⟨b, 0, none⟩ v0) b #[v0, u1, u2, u3] := h.set 0 v0
  have h2 : Bl t ((w.setCell ⟨b, 0, none⟩ v0).setCell ⟨b, 1, none⟩ v1) b #[v0, v1, u2, u3] := h1.set 1 v1
  have h3 : Bl t (((w.setCell ⟨b, 0, none⟩ v0).setCell ⟨b, 1, none⟩ v1).setCell ⟨b, 2, none⟩ v2) b #[v0, v1, v2, u3] := h2.set 2 v2
  exact h3.set 3 v3

theorem below_put4 {B b : Nat} {w w' : World} (h : Below B w w') (hb : B ≤ b) (v0 v1 v2 v3 : Value) :
    Below B w ((((w'.setCell ⟨b, 0, none⟩ v0).setCell ⟨b, 1, none⟩ v1).setCell ⟨b, 2, none⟩ v2).setCell ⟨b, 3, none⟩ v3) :=
  (((h.setCell (p := ⟨b, 0, none⟩) hb _).setCell (p := ⟨b, 1, none⟩) hb _).setCell (p := ⟨b, 2, none⟩) hb _).setCell (p := ⟨b, 3, none⟩) hb _

set_option maxHeartbeats 4000000 in
set_option maxRecDepth 100000 in
theorem dec_none {bk off c l : Nat} (b : List Int) (w : World) (h : Bys w (some ⟨bk, off, none⟩) c b) (hl : b.length = l) (h4 : 4 ≤ b.length) (HWd0 : wideN (snOf b).fam = 0) :
    Calls Try.prog 15 #[.slice (some ⟨bk, off, none⟩) l c] w (DecP b w) := by
  have hlen : b.length ≤ 200000000000000 := h.2.1
  have hbs := h.2.2.1
  have hlc : b.length ≤ c := h.1
  have B0 := (Below.refl w.heap.size w).alloc (Nat.le_refl _) (.cells #[.int .i64 0, .int .i64 0, .int .i64 0, .slice none 0 0] 47)
  have Z0 := Bl.new 47 w #[.int .i64 0, .int .i64 0, .int .i64 0, .slice none 0 0]
  obtain ⟨w1, hw1⟩ : ∃ w1, w1 = w.alloc (.cells #[.int .i64 0, .int .i64 0, .int .i64 0, .slice none 0 0] 47) := ⟨_, rfl⟩
  have hsz1 : w1.heap.size = w.heap.size + 1 := by rw [hw1]; simp
  rw [← hw1] at B0 Z0
  have h1 := h.below B0
  obtain ⟨_, _, _, hd⟩ := h1
  rcases hd with hd | ⟨bk', off', e', hbk, hq⟩
  · rw [hd] at h4; simp at h4
  cases e'
  have HP : Hid (∀ u, Below w1.heap.size w1 u → Calls Try.prog 37 #[.slice (some ⟨bk, off, none⟩) 2 c] u fun e u' => e = .returned (.int .i64 (snOf b).fam) ∧ u = u') := by
    refine hid fun u hu => ?_
    have hk : ((b.take 2)).length = 2 := by rw [List.length_take]; omega
    refine number_at _ (b.take 2) u ?_ hk (by omega) rfl
    refine ⟨by omega, by omega, fun y hy => hbs y (List.mem_of_mem_take hy), Or.inr ⟨bk, off, rfl, Nat.lt_of_lt_of_le hbk hu.size, fun i hi => ?_⟩⟩
    rw [hu.cell (p := ⟨bk, off + i, none⟩) hbk, hq i (by omega), sub_take 2 i b (by omega)]
  have hc2 := hq 2 (by omega)
  have hc3 := hq 3 (by omega)
  have e2 : b.getD 2 0 = (snOf b).src := rfl
  have e3 : b.getD 3 0 = (snOf b).scp := rfl
  rw [e2] at hc2
  rw [e3] at hc3
  have r2 : 0 ≤ (snOf b).src ∧ (snOf b).src ≤ 255 := getD_byte hbs 2
  have r3 : 0 ≤ (snOf b).scp ∧ (snOf b).scp ≤ 255 := getD_byte hbs 3
  obtain ⟨r20, r21⟩ := r2
  obtain ⟨r30, r31⟩ := r3
  have HB0 := hid B0
  have HZ0 := hid Z0
  have HQ := hid hq
  have HW1 := hid hw1
  have j2 : (2 : Int) ≤ (c : Int) := by omega
  have j3 : (2 : Int) < (l : Int) := by omega
  have j4 : (3 : Int) < (l : Int) := by omega
  have j5 : ¬ (l : Int) < 4 := by omega
  have PK : Hid (∀ u, Below w1.heap.size w1 u → u.cell? ⟨bk, off + 2, none⟩ = some (.int .u8 (snOf b).src) ∧ u.cell? ⟨bk, off + 3, none⟩ = some (.int .u8 (snOf b).scp) ∧ Below w1.heap.size w1 u) :=
    hid fun u hu => ⟨by rw [hu.cell (p := ⟨bk, off + 2, none⟩) hbk]; exact hc2, by rw [hu.cell (p := ⟨bk, off + 3, none⟩) hbk]; exact hc3, hu⟩
  obtain ⟨fam, hfam⟩ : ∃ fam, (snOf b).fam = fam := ⟨_, rfl⟩
  obtain ⟨src, hsrc⟩ : ∃ src, (snOf b).src = src := ⟨_, rfl⟩
  obtain ⟨scp, hscp⟩ : ∃ scp, (snOf b).scp = scp := ⟨_, rfl⟩
  rw [hfam] at HP
  rw [hsrc, hscp] at PK
  rw [hsrc] at r20 r21
  rw [hscp] at r30 r31
  have wr2 := wrap_i64 src r20 (by omega)
  have wr3 := wrap_i64 scp r30 (by omega)
  have HF := hid hfam
  have HS := hid hsrc
  have HC := hid hscp
  clear hc2 hc3 e2 e3 hq B0 Z0 hfam hsrc hscp hw1
  go_enter Try.func15, Try.ntmps15
  go_wp2_with fail
  rw [← HW1.out]
  go_region_held3 (fun u => u.cell? ⟨bk, off + 2, none⟩ = some (.int .u8 src) ∧ u.cell? ⟨bk, off + 3, none⟩ = some (.int .u8 scp) ∧ Below w1.heap.size w1 u) (with_reducible (first | assumption | exact PK.out _ (Below.drew (Below.refl _ _)) | exact PK.out _ ((Below.refl _ _).alloc (Nat.le_refl _) _).drew))
    (first
      | (go_at_call 37; refine (HP.out _ ?_).mono ?_; (first | assumption | exact Below.drew (Below.refl _ _) | exact ((Below.refl _ _).alloc (Nat.le_refl _) _).drew); rintro e w' ⟨rfl, rfl⟩))
  all_goals
    have KX : Bl 47 (w1.alloc (.cells #[.int .i64 fam, .int .i64 src, .int .i64 scp, .slice none 0 0] 47)).drew (w.heap.size + 1) #[.int .i64 fam, .int .i64 src, .int .i64 scp, .slice none 0 0] := by rw [← hsz1]; exact (Bl.new 47 w1 _).drew
    have BW : Below w1.heap.size w1 (w1.alloc (.cells #[.int .i64 fam, .int .i64 src, .int .i64 scp, .slice none 0 0] 47)).drew := ((Below.refl _ w1).alloc (Nat.le_refl _) _).drew
    have KZ := HZ0.out.below BW
    have B3 := hid (grown_on HB0.out BW)
    have V3 := hid BW
    generalize (w1.alloc (.cells #[.int .i64 fam, .int .i64 src, .int .i64 scp, .slice none 0 0] 47)).drew = W3 at *
    have x0 := KX.cell (i := 0) rfl
    have x1 := KX.cell (i := 1) rfl
    have x2 := KX.cell (i := 2) rfl
    have x3 := KX.cell (i := 3) rfl
    have z0 := KZ.cell (i := 0) rfl
    have z1 := KZ.cell (i := 1) rfl
    have z2 := KZ.cell (i := 2) rfl
    have z3 := KZ.cell (i := 3) rfl
    have f0 := KZ.frozen 0
    have f1 := KZ.frozen 1
    have f2 := KZ.frozen 2
    have f3 := KZ.frozen 3
    have QX := hid KX
    have QZ := hid KZ
    clear KX KZ BW
    go_wp2_with fail
    refine (sizeOf_at fam W3).mono ?_
    rintro e w' ⟨rfl, rfl⟩
    have HWd : Hid (wideN fam = 0) := hid (by rw [← HF.out]; exact HWd0)
    have HE : Hid (decE b = 6) := hid (by unfold decE; rw [if_neg (by omega), if_pos (Or.inl HWd0)])
    clear HWd0
    rw [HWd.out]
    go_wp2_with fail
    refine bodyPost_ret (results_dec _ _ w.heap.size _ _ _ _ _ rfl rfl (QZ.out.put4 _ _ _ _)) rfl ?_
    exact DecP.bad HE.out (by decide) rfl (below_put4 B3.out (Nat.le_refl _) _ _ _ _)

set_option maxHeartbeats 4000000 in
set_option maxRecDepth 100000 in
theorem dec_unfit {bk off c l : Nat} (b : List Int) (w : World) (h : Bys w (some ⟨bk, off, none⟩) c b) (hl : b.length = l) (h4 : 4 ≤ b.length) (HWn0 : ¬ wideN (snOf b).fam = 0) (hnf : ¬ fitN (snOf b) (wideN (snOf b).fam)) :
    Calls Try.prog 15 #[.slice (some ⟨bk, off, none⟩) l c] w (DecP b w) := by
  have hlen : b.length ≤ 200000000000000 := h.2.1
  have hbs := h.2.2.1
  have hlc : b.length ≤ c := h.1
  have B0 := (Below.refl w.heap.size w).alloc (Nat.le_refl _) (.cells #[.int .i64 0, .int .i64 0, .int .i64 0, .slice none 0 0] 47)
  have Z0 := Bl.new 47 w #[.int .i64 0, .int .i64 0, .int .i64 0, .slice none 0 0]
  obtain ⟨w1, hw1⟩ : ∃ w1, w1 = w.alloc (.cells #[.int .i64 0, .int .i64 0, .int .i64 0, .slice none 0 0] 47) := ⟨_, rfl⟩
  have hsz1 : w1.heap.size = w.heap.size + 1 := by rw [hw1]; simp
  rw [← hw1] at B0 Z0
  have h1 := h.below B0
  obtain ⟨_, _, _, hd⟩ := h1
  rcases hd with hd | ⟨bk', off', e', hbk, hq⟩
  · rw [hd] at h4; simp at h4
  cases e'
  have HP : Hid (∀ u, Below w1.heap.size w1 u → Calls Try.prog 37 #[.slice (some ⟨bk, off, none⟩) 2 c] u fun e u' => e = .returned (.int .i64 (snOf b).fam) ∧ u = u') := by
    refine hid fun u hu => ?_
    have hk : ((b.take 2)).length = 2 := by rw [List.length_take]; omega
    refine number_at _ (b.take 2) u ?_ hk (by omega) rfl
    refine ⟨by omega, by omega, fun y hy => hbs y (List.mem_of_mem_take hy), Or.inr ⟨bk, off, rfl, Nat.lt_of_lt_of_le hbk hu.size, fun i hi => ?_⟩⟩
    rw [hu.cell (p := ⟨bk, off + i, none⟩) hbk, hq i (by omega), sub_take 2 i b (by omega)]
  have hc2 := hq 2 (by omega)
  have hc3 := hq 3 (by omega)
  have e2 : b.getD 2 0 = (snOf b).src := rfl
  have e3 : b.getD 3 0 = (snOf b).scp := rfl
  rw [e2] at hc2
  rw [e3] at hc3
  have r2 : 0 ≤ (snOf b).src ∧ (snOf b).src ≤ 255 := getD_byte hbs 2
  have r3 : 0 ≤ (snOf b).scp ∧ (snOf b).scp ≤ 255 := getD_byte hbs 3
  obtain ⟨r20, r21⟩ := r2
  obtain ⟨r30, r31⟩ := r3
  have HB0 := hid B0
  have HZ0 := hid Z0
  have HQ := hid hq
  have HW1 := hid hw1
  have j2 : (2 : Int) ≤ (c : Int) := by omega
  have j3 : (2 : Int) < (l : Int) := by omega
  have j4 : (3 : Int) < (l : Int) := by omega
  have j5 : ¬ (l : Int) < 4 := by omega
  have PK : Hid (∀ u, Below w1.heap.size w1 u → u.cell? ⟨bk, off + 2, none⟩ = some (.int .u8 (snOf b).src) ∧ u.cell? ⟨bk, off + 3, none⟩ = some (.int .u8 (snOf b).scp) ∧ Below w1.heap.size w1 u) :=
    hid fun u hu => ⟨by rw [hu.cell (p := ⟨bk, off + 2, none⟩) hbk]; exact hc2, by rw [hu.cell (p := ⟨bk, off + 3, none⟩) hbk]; exact hc3, hu⟩
  obtain ⟨fam, hfam⟩ : ∃ fam, (snOf b).fam = fam := ⟨_, rfl⟩
  obtain ⟨src, hsrc⟩ : ∃ src, (snOf b).src = src := ⟨_, rfl⟩
  obtain ⟨scp, hscp⟩ : ∃ scp, (snOf b).scp = scp := ⟨_, rfl⟩
  rw [hfam] at HP
  rw [hsrc, hscp] at PK
  rw [hsrc] at r20 r21
  rw [hscp] at r30 r31
  have wr2 := wrap_i64 src r20 (by omega)
  have wr3 := wrap_i64 scp r30 (by omega)
  have HF := hid hfam
  have HS := hid hsrc
  have HC := hid hscp
  clear hc2 hc3 e2 e3 hq B0 Z0 hfam hsrc hscp hw1
  go_enter Try.func15, Try.ntmps15
  go_wp2_with fail
  rw [← HW1.out]
  go_region_held3 (fun u => u.cell? ⟨bk, off + 2, none⟩ = some (.int .u8 src) ∧ u.cell? ⟨bk, off + 3, none⟩ = some (.int .u8 scp) ∧ Below w1.heap.size w1 u) (with_reducible (first | assumption | exact PK.out _ (Below.drew (Below.refl _ _)) | exact PK.out _ ((Below.refl _ _).alloc (Nat.le_refl _) _).drew))
    (first
      | (go_at_call 37; refine (HP.out _ ?_).mono ?_; (first | assumption | exact Below.drew (Below.refl _ _) | exact ((Below.refl _ _).alloc (Nat.le_refl _) _).drew); rintro e w' ⟨rfl, rfl⟩))
  all_goals
    have KX : Bl 47 (w1.alloc (.cells #[.int .i64 fam, .int .i64 src, .int .i64 scp, .slice none 0 0] 47)).drew (w.heap.size + 1) #[.int .i64 fam, .int .i64 src, .int .i64 scp, .slice none 0 0] := by rw [← hsz1]; exact (Bl.new 47 w1 _).drew
    have BW : Below w1.heap.size w1 (w1.alloc (.cells #[.int .i64 fam, .int .i64 src, .int .i64 scp, .slice none 0 0] 47)).drew := ((Below.refl _ w1).alloc (Nat.le_refl _) _).drew
    have KZ := HZ0.out.below BW
    have B3 := hid (grown_on HB0.out BW)
    have V3 := hid BW
    generalize (w1.alloc (.cells #[.int .i64 fam, .int .i64 src, .int .i64 scp, .slice none 0 0] 47)).drew = W3 at *
    have x0 := KX.cell (i := 0) rfl
    have x1 := KX.cell (i := 1) rfl
    have x2 := KX.cell (i := 2) rfl
    have x3 := KX.cell (i := 3) rfl
    have z0 := KZ.cell (i := 0) rfl
    have z1 := KZ.cell (i := 1) rfl
    have z2 := KZ.cell (i := 2) rfl
    have z3 := KZ.cell (i := 3) rfl
    have f0 := KZ.frozen 0
    have f1 := KZ.frozen 1
    have f2 := KZ.frozen 2
    have f3 := KZ.frozen 3
    have QX := hid KX
    have QZ := hid KZ
    clear KX KZ BW
    go_wp2_with fail
    refine (sizeOf_at fam W3).mono ?_
    rintro e w' ⟨rfl, rfl⟩
    have HWn : Hid (¬ wideN fam = 0) := hid (by rw [← HF.out]; exact HWn0)
    have HE : Hid (decE b = 6) := hid (by unfold decE; rw [if_neg (by omega), if_pos (Or.inr hnf)])
    have hws := wide_small fam
    have HFT : Hid (decide (fitN ⟨fam, src, scp, []⟩ (wideN fam)) = false) := hid (decide_eq_false (by rw [← HF.out]; intro q; exact hnf (by have := HS.out; have := HC.out; unfold fitN at q ⊢; simp only at q; rw [HS.out, HC.out]; exact q)))
    clear hnf HWn0
    have hn0 : (((wideN fam : Nat) : Int) == 0) = false := by have := HWn.out; simp; omega
    obtain ⟨sz, hsz⟩ : ∃ sz, wideN fam = sz := ⟨_, rfl⟩
    rw [hsz] at hn0 HFT hws ⊢
    have HSZ := hid hsz
    clear hsz
    go_wp2_with fail
    refine (sfit_at false ⟨fam, src, scp, []⟩ sz W3 (by omega) HFT.out).mono ?_
    rintro e W4 ⟨rfl, d4⟩
    have B4 := hid (grown_on B3.out d4)
    have KX := QX.out.below d4
    have KZ := QZ.out.below d4
    clear x0 x1 x2 x3 z0 z1 z2 z3 f0 f1 f2 f3
    have x0 := KX.cell (i := 0) rfl
    have x1 := KX.cell (i := 1) rfl
    have x2 := KX.cell (i := 2) rfl
    have x3 := KX.cell (i := 3) rfl
    have z0 := KZ.cell (i := 0) rfl
    have z1 := KZ.cell (i := 1) rfl
    have z2 := KZ.cell (i := 2) rfl
    have z3 := KZ.cell (i := 3) rfl
    have f0 := KZ.frozen 0
    have f1 := KZ.frozen 1
    have f2 := KZ.frozen 2
    have f3 := KZ.frozen 3
    have g3 := KX.frozen 3
    have QX4 := hid KX
    have QZ4 := hid KZ
    clear KX KZ d4
    go_wp2_with fail
    refine bodyPost_ret (results_dec _ _ w.heap.size _ _ _ _ _ rfl rfl (QZ4.out.put4 _ _ _ _)) rfl ?_
    exact DecP.bad HE.out (by decide) rfl (below_put4 B4.out (Nat.le_refl _) _ _ _ _)

end Go.Proofs.Ytpmbbaacpnooeaa

namespace Go.Proofs.Ytpmbbaacpnooeaa
open Go.RowKit Go.Deep

set_option maxHeartbeats 4000000 in
set_option maxRecDepth 100000 in
theorem dec_len_a {bk off c l : Nat} (b : List Int) (w : World) (h : Bys w (some ⟨bk, off, none⟩) c b) (hl : b.length = l) (h4 : 4 ≤ b.length) (HWn0 : ¬ wideN (snOf b).fam = 0) (hft : fitN (snOf b) (wideN (snOf b).fam)) (hln : ¬ b.length - 4 = touchN (snOf b).src.toNat) (hc4 : ¬ c = 4) :
    Calls Try.prog 15 #[.slice (some ⟨bk, off, none⟩) l c] w (DecP b w) := by
  have hlen : b.length ≤ 200000000000000 := h.2.1
  have hbs := h.2.2.1
  have hlc : b.length ≤ c := h.1
  have B0 := (Below.refl w.heap.size w).alloc (Nat.le_refl _) (.cells #[.int .i64 0, .int .i64 0, .int .i64 0, .slice none 0 0] 47)
  have Z0 := Bl.new 47 w #[.int .i64 0, .int .i64 0, .int .i64 0, .slice none 0 0]
  obtain ⟨w1, hw1⟩ : ∃ w1, w1 = w.alloc (.cells #[.int .i64 0, .int .i64 0, .int .i64 0, .slice none 0 0] 47) := ⟨_, rfl⟩
  have hsz1 : w1.heap.size = w.heap.size + 1 := by rw [hw1]; simp
  rw [← hw1] at B0 Z0
  have h1 := h.below B0
  obtain ⟨_, _, _, hd⟩ := h1
  rcases hd with hd | ⟨bk', off', e', hbk, hq⟩
  · rw [hd] at h4; simp at h4
  cases e'
  have HP : Hid (∀ u, Below w1.heap.size w1 u → Calls Try.prog 37 #[.slice (some ⟨bk, off, none⟩) 2 c] u fun e u' => e = .returned (.int .i64 (snOf b).fam) ∧ u = u') := by
    refine hid fun u hu => ?_
    have hk : ((b.take 2)).length = 2 := by rw [List.length_take]; omega
    refine number_at _ (b.take 2) u ?_ hk (by omega) rfl
    refine ⟨by omega, by omega, fun y hy => hbs y (List.mem_of_mem_take hy), Or.inr ⟨bk, off, rfl, Nat.lt_of_lt_of_le hbk hu.size, fun i hi => ?_⟩⟩
    rw [hu.cell (p := ⟨bk, off + i, none⟩) hbk, hq i (by omega), sub_take 2 i b (by omega)]
  have hc2 := hq 2 (by omega)
  have hc3 := hq 3 (by omega)
  have e2 : b.getD 2 0 = (snOf b).src := rfl
  have e3 : b.getD 3 0 = (snOf b).scp := rfl
  rw [e2] at hc2
  rw [e3] at hc3
  have r2 : 0 ≤ (snOf b).src ∧ (snOf b).src ≤ 255 := getD_byte hbs 2
  have r3 : 0 ≤ (snOf b).scp ∧ (snOf b).scp ≤ 255 := getD_byte hbs 3
  obtain ⟨r20, r21⟩ := r2
  obtain ⟨r30, r31⟩ := r3
  have HB0 := hid B0
  have HZ0 := hid Z0
  have HQ := hid hq
  have HW1 := hid hw1
  have j2 : (2 : Int) ≤ (c : Int) := by omega
  have j3 : (2 : Int) < (l : Int) := by omega
  have j4 : (3 : Int) < (l : Int) := by omega
  have j5 : ¬ (l : Int) < 4 := by omega
  have PK : Hid (∀ u, Below w1.heap.size w1 u → u.cell? ⟨bk, off + 2, none⟩ = some (.int .u8 (snOf b).src) ∧ u.cell? ⟨bk, off + 3, none⟩ = some (.int .u8 (snOf b).scp) ∧ Below w1.heap.size w1 u) :=
    hid fun u hu => ⟨by rw [hu.cell (p := ⟨bk, off + 2, none⟩) hbk]; exact hc2, by rw [hu.cell (p := ⟨bk, off + 3, none⟩) hbk]; exact hc3, hu⟩
  obtain ⟨fam, hfam⟩ : ∃ fam, (snOf b).fam = fam := ⟨_, rfl⟩
  obtain ⟨src, hsrc⟩ : ∃ src, (snOf b).src = src := ⟨_, rfl⟩
  obtain ⟨scp, hscp⟩ : ∃ scp, (snOf b).scp = scp := ⟨_, rfl⟩
  rw [hfam] at HP
  rw [hsrc, hscp] at PK
  rw [hsrc] at r20 r21
  rw [hscp] at r30 r31
  have wr2 := wrap_i64 src r20 (by omega)
  have wr3 := wrap_i64 scp r30 (by omega)
  have HF := hid hfam
  have HS := hid hsrc
  have HC := hid hscp
  clear hc2 hc3 e2 e3 hq B0 Z0 hfam hsrc hscp hw1
  go_enter Try.func15, Try.ntmps15
  go_wp2_with fail
  rw [← HW1.out]
  go_region_held3 (fun u => u.cell? ⟨bk, off + 2, none⟩ = some (.int .u8 src) ∧ u.cell? ⟨bk, off + 3, none⟩ = some (.int .u8 scp) ∧ Below w1.heap.size w1 u) (with_reducible (first | assumption | exact PK.out _ (Below.drew (Below.refl _ _)) | exact PK.out _ ((Below.refl _ _).alloc (Nat.le_refl _) _).drew))
    (first
      | (go_at_call 37; refine (HP.out _ ?_).mono ?_; (first | assumption | exact Below.drew (Below.refl _ _) | exact ((Below.refl _ _).alloc (Nat.le_refl _) _).drew); rintro e w' ⟨rfl, rfl⟩))
  all_goals
    have KX : Bl 47 (w1.alloc (.cells #[.int .i64 fam, .int .i64 src, .int .i64 scp, .slice none 0 0] 47)).drew (w.heap.size + 1) #[.int .i64 fam, .int .i64 src, .int .i64 scp, .slice none 0 0] := by rw [← hsz1]; exact (Bl.new 47 w1 _).drew
    have BW : Below w1.heap.size w1 (w1.alloc (.cells #[.int .i64 fam, .int .i64 src, .int .i64 scp, .slice none 0 0] 47)).drew := ((Below.refl _ w1).alloc (Nat.le_refl _) _).drew
    have KZ := HZ0.out.below BW
    have B3 := hid (grown_on HB0.out BW)
    have V3 := hid BW
    generalize (w1.alloc (.cells #[.int .i64 fam, .int .i64 src, .int .i64 scp, .slice none 0 0] 47)).drew = W3 at *
    have x0 := KX.cell (i := 0) rfl
    have x1 := KX.cell (i := 1) rfl
    have x2 := KX.cell (i := 2) rfl
    have x3 := KX.cell (i := 3) rfl
    have z0 := KZ.cell (i := 0) rfl
    have z1 := KZ.cell (i := 1) rfl
    have z2 := KZ.cell (i := 2) rfl
    have z3 := KZ.cell (i := 3) rfl
    have f0 := KZ.frozen 0
    have f1 := KZ.frozen 1
    have f2 := KZ.frozen 2
    have f3 := KZ.frozen 3
    have QX := hid KX
    have QZ := hid KZ
    clear KX KZ BW
    go_wp2_with fail
    refine (sizeOf_at fam W3).mono ?_
    rintro e w' ⟨rfl, rfl⟩
    have HE : Hid (decE b = 1) := hid (by unfold decE; rw [if_neg (by omega), if_neg (by intro q; rcases q with q | q; exact HWn0 q; exact q hft), if_pos hln])
    have HWn : Hid (¬ wideN fam = 0) := hid (by rw [← HF.out]; exact HWn0)
    have hws := wide_small fam
    have HFT : Hid (decide (fitN ⟨fam, src, scp, []⟩ (wideN fam)) = true) := hid (decide_eq_true (by rw [← HF.out]; have q := hft; unfold fitN at q ⊢; rw [HS.out, HC.out] at q; exact q))
    clear hft HWn0
    have hn0 : (((wideN fam : Nat) : Int) == 0) = false := by have := HWn.out; simp; omega
    obtain ⟨sz, hsz⟩ : ∃ sz, wideN fam = sz := ⟨_, rfl⟩
    rw [hsz] at hn0 HFT hws ⊢
    have HSZ := hid hsz
    clear hsz
    go_wp2_with fail
    refine (sfit_at true ⟨fam, src, scp, []⟩ sz W3 (by omega) HFT.out).mono ?_
    rintro e W4 ⟨rfl, d4⟩
    have B4 := hid (grown_on B3.out d4)
    have KX := QX.out.below d4
    have KZ := QZ.out.below d4
    clear x0 x1 x2 x3 z0 z1 z2 z3 f0 f1 f2 f3
    have x0 := KX.cell (i := 0) rfl
    have x1 := KX.cell (i := 1) rfl
    have x2 := KX.cell (i := 2) rfl
    have x3 := KX.cell (i := 3) rfl
    have z0 := KZ.cell (i := 0) rfl
    have z1 := KZ.cell (i := 1) rfl
    have z2 := KZ.cell (i := 2) rfl
    have z3 := KZ.cell (i := 3) rfl
    have f0 := KZ.frozen 0
    have f1 := KZ.frozen 1
    have f2 := KZ.frozen 2
    have f3 := KZ.frozen 3
    have g3 := KX.frozen 3
    have QX4 := hid KX
    have QZ4 := hid KZ
    clear KX KZ d4
    obtain ⟨m, rfl⟩ : ∃ m : Nat, src = (m : Int) := ⟨src.toNat, by omega⟩
    have HTM : Hid (touchN (snOf b).src.toNat = touchN m) := hid (by rw [HS.out, Int.toNat_natCast])
    have hne : (((l - 4 : Nat) : Int) != ((touchN m : Nat) : Int)) = true := by rw [bne_iff_ne]; have := HTM.out; omega
    go_wp2_with fail
    refine (touched_at m W4 (by omega)).mono ?_
    rintro e w' ⟨rfl, rfl⟩
    obtain ⟨t, ht⟩ : ∃ t, touchN m = t := ⟨_, rfl⟩
    rw [ht] at hne ⊢
    have HT := hid ht
    clear ht
    go_wp2_with fail
    refine bodyPost_ret (results_dec _ _ w.heap.size _ _ _ _ _ rfl rfl (QZ4.out.put4 _ _ _ _)) rfl ?_
    exact DecP.bad HE.out (by decide) rfl (below_put4 B4.out (Nat.le_refl _) _ _ _ _)

set_option maxHeartbeats 4000000 in
set_option maxRecDepth 100000 in
theorem dec_len_b {bk off c l : Nat} (b : List Int) (w : World) (h : Bys w (some ⟨bk, off, none⟩) c b) (hl : b.length = l) (h4 : 4 ≤ b.length) (HWn0 : ¬ wideN (snOf b).fam = 0) (hft : fitN (snOf b) (wideN (snOf b).fam)) (hln : ¬ b.length - 4 = touchN (snOf b).src.toNat) (hc4' : Hid (c = 4)) :
    Calls Try.prog 15 #[.slice (some ⟨bk, off, none⟩) l c] w (DecP b w) := by
  have hlen : b.length ≤ 200000000000000 := h.2.1
  have hbs := h.2.2.1
  have hlc : b.length ≤ c := h.1
  have B0 := (Below.refl w.heap.size w).alloc (Nat.le_refl _) (.cells #[.int .i64 0, .int .i64 0, .int .i64 0, .slice none 0 0] 47)
  have Z0 := Bl.new 47 w #[.int .i64 0, .int .i64 0, .int .i64 0, .slice none 0 0]
  obtain ⟨w1, hw1⟩ : ∃ w1, w1 = w.alloc (.cells #[.int .i64 0, .int .i64 0, .int .i64 0, .slice none 0 0] 47) := ⟨_, rfl⟩
  have hsz1 : w1.heap.size = w.heap.size + 1 := by rw [hw1]; simp
  rw [← hw1] at B0 Z0
  have h1 := h.below B0
  obtain ⟨_, _, _, hd⟩ := h1
  rcases hd with hd | ⟨bk', off', e', hbk, hq⟩
  · rw [hd] at h4; simp at h4
  cases e'
  have HP : Hid (∀ u, Below w1.heap.size w1 u → Calls Try.prog 37 #[.slice (some ⟨bk, off, none⟩) 2 c] u fun e u' => e = .returned (.int .i64 (snOf b).fam) ∧ u = u') := by
    refine hid fun u hu => ?_
    have hk : ((b.take 2)).length = 2 := by rw [List.length_take]; omega
    refine number_at _ (b.take 2) u ?_ hk (by omega) rfl
    refine ⟨by omega, by omega, fun y hy => hbs y (List.mem_of_mem_take hy), Or.inr ⟨bk, off, rfl, Nat.lt_of_lt_of_le hbk hu.size, fun i hi => ?_⟩⟩
    rw [hu.cell (p := ⟨bk, off + i, none⟩) hbk, hq i (by omega), sub_take 2 i b (by omega)]
  have hc2 := hq 2 (by omega)
  have hc3 := hq 3 (by omega)
  have e2 : b.getD 2 0 = (snOf b).src := rfl
  have e3 : b.getD 3 0 = (snOf b).scp := rfl
  rw [e2] at hc2
  rw [e3] at hc3
  have r2 : 0 ≤ (snOf b).src ∧ (snOf b).src ≤ 255 := getD_byte hbs 2
  have r3 : 0 ≤ (snOf b).scp ∧ (snOf b).scp ≤ 255 := getD_byte hbs 3
  obtain ⟨r20, r21⟩ := r2
  obtain ⟨r30, r31⟩ := r3
  have HB0 := hid B0
  have HZ0 := hid Z0
  have HQ := hid hq
  have HW1 := hid hw1
  have j2 : (2 : Int) ≤ (c : Int) := by omega
  have j3 : (2 : Int) < (l : Int) := by omega
  have j4 : (3 : Int) < (l : Int) := by omega
  have j5 : ¬ (l : Int) < 4 := by omega
  have PK : Hid (∀ u, Below w1.heap.size w1 u → u.cell? ⟨bk, off + 2, none⟩ = some (.int .u8 (snOf b).src) ∧ u.cell? ⟨bk, off + 3, none⟩ = some (.int .u8 (snOf b).scp) ∧ Below w1.heap.size w1 u) :=
    hid fun u hu => ⟨by rw [hu.cell (p := ⟨bk, off + 2, none⟩) hbk]; exact hc2, by rw [hu.cell (p := ⟨bk, off + 3, none⟩) hbk]; exact hc3, hu⟩
  obtain ⟨fam, hfam⟩ : ∃ fam, (snOf b).fam = fam := ⟨_, rfl⟩
  obtain ⟨src, hsrc⟩ : ∃ src, (snOf b).src = src := ⟨_, rfl⟩
  obtain ⟨scp, hscp⟩ : ∃ scp, (snOf b).scp = scp := ⟨_, rfl⟩
  rw [hfam] at HP
  rw [hsrc, hscp] at PK
  rw [hsrc] at r20 r21
  rw [hscp] at r30 r31
  have wr2 := wrap_i64 src r20 (by omega)
  have wr3 := wrap_i64 scp r30 (by omega)
  have HF := hid hfam
  have HS := hid hsrc
  have HC := hid hscp
  clear hc2 hc3 e2 e3 hq B0 Z0 hfam hsrc hscp hw1
  go_enter Try.func15, Try.ntmps15
  go_wp2_with fail
  rw [← HW1.out]
  go_region_held3 (fun u => u.cell? ⟨bk, off + 2, none⟩ = some (.int .u8 src) ∧ u.cell? ⟨bk, off + 3, none⟩ = some (.int .u8 scp) ∧ Below w1.heap.size w1 u) (with_reducible (first | assumption | exact PK.out _ (Below.drew (Below.refl _ _)) | exact PK.out _ ((Below.refl _ _).alloc (Nat.le_refl _) _).drew))
    (first
      | (go_at_call 37; refine (HP.out _ ?_).mono ?_; (first | assumption | exact Below.drew (Below.refl _ _) | exact ((Below.refl _ _).alloc (Nat.le_refl _) _).drew); rintro e w' ⟨rfl, rfl⟩))
  all_goals
    have KX : Bl 47 (w1.alloc (.cells #[.int .i64 fam, .int .i64 src, .int .i64 scp, .slice none 0 0] 47)).drew (w.heap.size + 1) #[.int .i64 fam, .int .i64 src, .int .i64 scp, .slice none 0 0] := by rw [← hsz1]; exact (Bl.new 47 w1 _).drew
    have BW : Below w1.heap.size w1 (w1.alloc (.cells #[.int .i64 fam, .int .i64 src, .int .i64 scp, .slice none 0 0] 47)).drew := ((Below.refl _ w1).alloc (Nat.le_refl _) _).drew
    have KZ := HZ0.out.below BW
    have B3 := hid (grown_on HB0.out BW)
    have V3 := hid BW
    generalize (w1.alloc (.cells #[.int .i64 fam, .int .i64 src, .int .i64 scp, .slice none 0 0] 47)).drew = W3 at *
    have x0 := KX.cell (i := 0) rfl
    have x1 := KX.cell (i := 1) rfl
    have x2 := KX.cell (i := 2) rfl
    have x3 := KX.cell (i := 3) rfl
    have z0 := KZ.cell (i := 0) rfl
    have z1 := KZ.cell (i := 1) rfl
    have z2 := KZ.cell (i := 2) rfl
    have z3 := KZ.cell (i := 3) rfl
    have f0 := KZ.frozen 0
    have f1 := KZ.frozen 1
    have f2 := KZ.frozen 2
    have f3 := KZ.frozen 3
    have QX := hid KX
    have QZ := hid KZ
    clear KX KZ BW
    go_wp2_with fail
    refine (sizeOf_at fam W3).mono ?_
    rintro e w' ⟨rfl, rfl⟩
    have HE : Hid (decE b = 1) := hid (by unfold decE; rw [if_neg (by omega), if_neg (by intro q; rcases q with q | q; exact HWn0 q; exact q hft), if_pos hln])
    have HWn : Hid (¬ wideN fam = 0) := hid (by rw [← HF.out]; exact HWn0)
    have hws := wide_small fam
    have HFT : Hid (decide (fitN ⟨fam, src, scp, []⟩ (wideN fam)) = true) := hid (decide_eq_true (by rw [← HF.out]; have q := hft; unfold fitN at q ⊢; rw [HS.out, HC.out] at q; exact q))
    clear hft HWn0
    have hn0 : (((wideN fam : Nat) : Int) == 0) = false := by have := HWn.out; simp; omega
    obtain ⟨sz, hsz⟩ : ∃ sz, wideN fam = sz := ⟨_, rfl⟩
    rw [hsz] at hn0 HFT hws ⊢
    have HSZ := hid hsz
    clear hsz
    go_wp2_with fail
    refine (sfit_at true ⟨fam, src, scp, []⟩ sz W3 (by omega) HFT.out).mono ?_
    rintro e W4 ⟨rfl, d4⟩
    have B4 := hid (grown_on B3.out d4)
    have KX := QX.out.below d4
    have KZ := QZ.out.below d4
    clear x0 x1 x2 x3 z0 z1 z2 z3 f0 f1 f2 f3
    have x0 := KX.cell (i := 0) rfl
    have x1 := KX.cell (i := 1) rfl
    have x2 := KX.cell (i := 2) rfl
    have x3 := KX.cell (i := 3) rfl
    have z0 := KZ.cell (i := 0) rfl
    have z1 := KZ.cell (i := 1) rfl
    have z2 := KZ.cell (i := 2) rfl
    have z3 := KZ.cell (i := 3) rfl
    have f0 := KZ.frozen 0
    have f1 := KZ.frozen 1
    have f2 := KZ.frozen 2
    have f3 := KZ.frozen 3
    have g3 := KX.frozen 3
    have QX4 := hid KX
    have QZ4 := hid KZ
    clear KX KZ d4
    have hc4 := hc4'.out
    clear hc4'
    have hl4 : l = 4 := by omega
    subst hl4 hc4
    obtain ⟨m, rfl⟩ : ∃ m : Nat, src = (m : Int) := ⟨src.toNat, by omega⟩
    have HTM : Hid (touchN (snOf b).src.toNat = touchN m) := hid (by rw [HS.out, Int.toNat_natCast])
    have hne : ((0 : Int) != ((touchN m : Nat) : Int)) = true := by rw [bne_iff_ne]; have := HTM.out; omega
    go_wp2_with fail
    refine (touched_at m W4 (by omega)).mono ?_
    rintro e w' ⟨rfl, rfl⟩
    obtain ⟨t, ht⟩ : ∃ t, touchN m = t := ⟨_, rfl⟩
    rw [ht] at hne ⊢
    have HT := hid ht
    clear ht
    go_wp2_with fail
    refine bodyPost_ret (results_dec _ _ w.heap.size _ _ _ _ _ rfl rfl (QZ4.out.put4 _ _ _ _)) rfl ?_
    exact DecP.bad HE.out (by decide) rfl (below_put4 B4.out (Nat.le_refl _) _ _ _ _)

end Go.Proofs.Ytpmbbaacpnooeaa

namespace Go.Proofs.Ytpmbbaacpnooeaa
open Go.RowKit Go.Deep

theorem sn_wide {b : List Int} (h : b.length - 4 ≤ wideN (snOf b).fam) : (snOf b).A.length = wideN (snOf b).fam := by
  show ((b.drop 4).take _ ++ List.replicate _ 0).length = _
  have e : (snOf b).fam = numN (b.take 2) := rfl
  rw [e] at h ⊢
  simp only [List.length_append, List.length_take, List.length_drop, List.length_replicate]
  omega

theorem bl_bys {w : World} {g c : Nat} {A : List Int} (k : Bl 5 w g (A.map (Value.int .u8)).toArray) (hb : ∀ x ∈ A, 0 ≤ x ∧ x ≤ 255) (hc : A.length ≤ c) (hl : A.length ≤ 200000000000000) : Bys w (some ⟨g, 0, none⟩) c A := by
  refine ⟨hc, hl, hb, Or.inr ⟨g, 0, rfl, k.lt, fun i hi => ?_⟩⟩
  rw [Nat.zero_add]
  refine k.cell ?_
  simp [List.getD_eq_getElem?_getD, List.getElem?_eq_getElem hi]

theorem Bys.put4 {w : World} {g c b : Nat} {A : List Int} (h : Bys w (some ⟨g, 0, none⟩) c A) (hg : ¬ g = b) (v0 v1 v2 v3 : Value) : Bys ((((w.setCell ⟨b, 0, none⟩ v0).setCell ⟨b, 1, none⟩ v1).setCell ⟨b, 2, none⟩ v2).setCell ⟨b, 3, none⟩ v3) (some ⟨g, 0, none⟩) c A := by
  obtain ⟨h1, h2, h3, h4⟩ := h
  refine ⟨h1, h2, h3, ?_⟩
  rcases h4 with h4 | ⟨g', o', e, hb, hq⟩
  · exact Or.inl h4
  · cases e
    refine Or.inr ⟨g, 0, rfl, by simpa using hb, fun i hi => ?_⟩
    have s0 : ∀ (u : World) (k : Nat) (v : Value), (u.setCell ⟨b, k, none⟩ v).cell? ⟨g, 0 + i, none⟩ = u.cell? ⟨g, 0 + i, none⟩ := fun u k v => by simp only [World.cell?, Below.heap_setCell u ⟨b, k, none⟩ v g hg]
    rw [s0, s0, s0, s0]
    exact hq i hi

theorem DecP.good {b A : List Int} {fam src scp : Int} {w w' : World} {g sz : Nat} {e : Ending} (h0 : decE b = 0) (hf : (snOf b).fam = fam) (hs : (snOf b).src = src) (hc : (snOf b).scp = scp) (hA : (snOf b).A = A) (hl : A.length = sz)
    (hk : Bys w' (some ⟨g, 0, none⟩) sz A) (hg : w.heap.size ≤ g) (hb : Below w.heap.size w w') (he : e = .returned (.tuple #[.agg #[.int .i64 fam, .int .i64 src, .int .i64 scp, .slice (some ⟨g, 0, none⟩) sz sz], .nilIface]) := by rfl) : DecP b w e w' := by
  unfold DecP
  rw [if_pos h0, hf, hs, hc, hA, hl]
  exact ⟨g, sz, he, hk, hg, hb⟩

set_option maxHeartbeats 4000000 in
set_option maxRecDepth 100000 in
theorem dec_last_a {bk off c l : Nat} (b : List Int) (w : World) (h : Bys w (some ⟨bk, off, none⟩) c b) (hl : b.length = l) (h4 : 4 ≤ b.length) (HWn0 : ¬ wideN (snOf b).fam = 0) (hft : fitN (snOf b) (wideN (snOf b).fam)) (hln : b.length - 4 = touchN (snOf b).src.toNat) (hc4 : ¬ c = 4) :
    Calls Try.prog 15 #[.slice (some ⟨bk, off, none⟩) l c] w (DecP b w) := by
  have hlen : b.length ≤ 200000000000000 := h.2.1
  have hbs := h.2.2.1
  have hlc : b.length ≤ c := h.1
  have B0 := (Below.refl w.heap.size w).alloc (Nat.le_refl _) (.cells #[.int .i64 0, .int .i64 0, .int .i64 0, .slice none 0 0] 47)
  have Z0 := Bl.new 47 w #[.int .i64 0, .int .i64 0, .int .i64 0, .slice none 0 0]
  obtain ⟨w1, hw1⟩ : ∃ w1, w1 = w.alloc (.cells #[.int .i64 0, .int .i64 0, .int .i64 0, .slice none 0 0] 47) := ⟨_, rfl⟩
  have hsz1 : w1.heap.size = w.heap.size + 1 := by rw [hw1]; simp
  rw [← hw1] at B0 Z0
  have h1 := h.below B0
  obtain ⟨_, _, _, hd⟩ := h1
  rcases hd with hd | ⟨bk', off', e', hbk, hq⟩
  · rw [hd] at h4; simp at h4
  cases e'
  have HP : Hid (∀ u, Below w1.heap.size w1 u → Calls Try.prog 37 #[.slice (some ⟨bk, off, none⟩) 2 c] u fun e u' => e = .returned (.int .i64 (snOf b).fam) ∧ u = u') := by
    refine hid fun u hu => ?_
    have hk : ((b.take 2)).length = 2 := by rw [List.length_take]; omega
    refine number_at _ (b.take 2) u ?_ hk (by omega) rfl
    refine ⟨by omega, by omega, fun y hy => hbs y (List.mem_of_mem_take hy), Or.inr ⟨bk, off, rfl, Nat.lt_of_lt_of_le hbk hu.size, fun i hi => ?_⟩⟩
    rw [hu.cell (p := ⟨bk, off + i, none⟩) hbk, hq i (by omega), sub_take 2 i b (by omega)]
  have hc2 := hq 2 (by omega)
  have hc3 := hq 3 (by omega)
  have e2 : b.getD 2 0 = (snOf b).src := rfl
  have e3 : b.getD 3 0 = (snOf b).scp := rfl
  rw [e2] at hc2
  rw [e3] at hc3
  have r2 : 0 ≤ (snOf b).src ∧ (snOf b).src ≤ 255 := getD_byte hbs 2
  have r3 : 0 ≤ (snOf b).scp ∧ (snOf b).scp ≤ 255 := getD_byte hbs 3
  obtain ⟨r20, r21⟩ := r2
  obtain ⟨r30, r31⟩ := r3
  have HB0 := hid B0
  have HZ0 := hid Z0
  have HQ := hid hq
  have HW1 := hid hw1
  have j2 : (2 : Int) ≤ (c : Int) := by omega
  have j3 : (2 : Int) < (l : Int) := by omega
  have j4 : (3 : Int) < (l : Int) := by omega
  have j5 : ¬ (l : Int) < 4 := by omega
  have PK : Hid (∀ u, Below w1.heap.size w1 u → u.cell? ⟨bk, off + 2, none⟩ = some (.int .u8 (snOf b).src) ∧ u.cell? ⟨bk, off + 3, none⟩ = some (.int .u8 (snOf b).scp) ∧ Below w1.heap.size w1 u) :=
    hid fun u hu => ⟨by rw [hu.cell (p := ⟨bk, off + 2, none⟩) hbk]; exact hc2, by rw [hu.cell (p := ⟨bk, off + 3, none⟩) hbk]; exact hc3, hu⟩
  obtain ⟨fam, hfam⟩ : ∃ fam, (snOf b).fam = fam := ⟨_, rfl⟩
  obtain ⟨src, hsrc⟩ : ∃ src, (snOf b).src = src := ⟨_, rfl⟩
  obtain ⟨scp, hscp⟩ : ∃ scp, (snOf b).scp = scp := ⟨_, rfl⟩
  rw [hfam] at HP
  rw [hsrc, hscp] at PK
  rw [hsrc] at r20 r21
  rw [hscp] at r30 r31
  have wr2 := wrap_i64 src r20 (by omega)
  have wr3 := wrap_i64 scp r30 (by omega)
  have HF := hid hfam
  have HS := hid hsrc
  have HC := hid hscp
  clear hc2 hc3 e2 e3 hq B0 Z0 hfam hsrc hscp hw1
  go_enter Try.func15, Try.ntmps15
  go_wp2_with fail
  rw [← HW1.out]
  go_region_held3 (fun u => u.cell? ⟨bk, off + 2, none⟩ = some (.int .u8 src) ∧ u.cell? ⟨bk, off + 3, none⟩ = some (.int .u8 scp) ∧ Below w1.heap.size w1 u) (with_reducible (first | assumption | exact PK.out _ (Below.drew (Below.refl _ _)) | exact PK.out _ ((Below.refl _ _).alloc (Nat.le_refl _) _).drew))
    (first
      | (go_at_call 37; refine (HP.out _ ?_).mono ?_; (first | assumption | exact Below.drew (Below.refl _ _) | exact ((Below.refl _ _).alloc (Nat.le_refl _) _).drew); rintro e w' ⟨rfl, rfl⟩))
  all_goals
    have KX : Bl 47 (w1.alloc (.cells #[.int .i64 fam, .int .i64 src, .int .i64 scp, .slice none 0 0] 47)).drew (w.heap.size + 1) #[.int .i64 fam, .int .i64 src, .int .i64 scp, .slice none 0 0] := by rw [← hsz1]; exact (Bl.new 47 w1 _).drew
    have BW : Below w1.heap.size w1 (w1.alloc (.cells #[.int .i64 fam, .int .i64 src, .int .i64 scp, .slice none 0 0] 47)).drew := ((Below.refl _ w1).alloc (Nat.le_refl _) _).drew
    have KZ := HZ0.out.below BW
    have B3 := hid (grown_on HB0.out BW)
    have V3 := hid BW
    generalize (w1.alloc (.cells #[.int .i64 fam, .int .i64 src, .int .i64 scp, .slice none 0 0] 47)).drew = W3 at *
    have x0 := KX.cell (i := 0) rfl
    have x1 := KX.cell (i := 1) rfl
    have x2 := KX.cell (i := 2) rfl
    have x3 := KX.cell (i := 3) rfl
    have z0 := KZ.cell (i := 0) rfl
    have z1 := KZ.cell (i := 1) rfl
    have z2 := KZ.cell (i := 2) rfl
    have z3 := KZ.cell (i := 3) rfl
    have f0 := KZ.frozen 0
    have f1 := KZ.frozen 1
    have f2 := KZ.frozen 2
    have f3 := KZ.frozen 3
    have QX := hid KX
    have QZ := hid KZ
    clear KX KZ BW
    go_wp2_with fail
    refine (sizeOf_at fam W3).mono ?_
    rintro e w' ⟨rfl, rfl⟩
    have HE : Hid (decE b = if ¬ (snOf b).A = maskN (snOf b).src.toNat (snOf b).A then 1 else 0) := hid (by unfold decE; rw [if_neg (by omega), if_neg (by intro q; rcases q with q | q; exact HWn0 q; exact q hft), if_neg (by simpa using hln)])
    have HWn : Hid (¬ wideN fam = 0) := hid (by rw [← HF.out]; exact HWn0)
    have hws := wide_small fam
    have HFT : Hid (decide (fitN ⟨fam, src, scp, []⟩ (wideN fam)) = true) := hid (decide_eq_true (by rw [← HF.out]; have q := hft; unfold fitN at q ⊢; rw [HS.out, HC.out] at q; exact q))
    clear hft HWn0
    have hn0 : (((wideN fam : Nat) : Int) == 0) = false := by have := HWn.out; simp; omega
    obtain ⟨sz, hsz⟩ : ∃ sz, wideN fam = sz := ⟨_, rfl⟩
    rw [hsz] at hn0 HFT hws ⊢
    have HSZ := hid hsz
    clear hsz
    go_wp2_with fail
    refine (sfit_at true ⟨fam, src, scp, []⟩ sz W3 (by omega) HFT.out).mono ?_
    rintro e W4 ⟨rfl, d4⟩
    have B4 := hid (grown_on B3.out d4)
    have KX := QX.out.below d4
    have KZ := QZ.out.below d4
    clear x0 x1 x2 x3 z0 z1 z2 z3 f0 f1 f2 f3
    have x0 := KX.cell (i := 0) rfl
    have x1 := KX.cell (i := 1) rfl
    have x2 := KX.cell (i := 2) rfl
    have x3 := KX.cell (i := 3) rfl
    have z0 := KZ.cell (i := 0) rfl
    have z1 := KZ.cell (i := 1) rfl
    have z2 := KZ.cell (i := 2) rfl
    have z3 := KZ.cell (i := 3) rfl
    have f0 := KZ.frozen 0
    have f1 := KZ.frozen 1
    have f2 := KZ.frozen 2
    have f3 := KZ.frozen 3
    have g3 := KX.frozen 3
    have QX4 := hid KX
    have QZ4 := hid KZ
    clear KX KZ d4
    obtain ⟨m, rfl⟩ : ∃ m : Nat, src = (m : Int) := ⟨src.toNat, by omega⟩
    have HTM : Hid (touchN (snOf b).src.toNat = touchN m) := hid (by rw [HS.out, Int.toNat_natCast])
    have hne : (((l - 4 : Nat) : Int) != ((touchN m : Nat) : Int)) = false := by rw [bne_eq_false_iff_eq]; have := HTM.out; omega
    go_wp2_with fail
    refine (touched_at m W4 (by omega)).mono ?_
    rintro e w' ⟨rfl, rfl⟩
    obtain ⟨t, ht⟩ : ∃ t, touchN m = t := ⟨_, rfl⟩
    rw [ht] at hne ⊢
    have HT := hid ht
    clear ht
    obtain ⟨i0, hi, hz0, hz1, hz2⟩ := info_of_byte
    go_wp2_with (at_make; refine wpList_make_full _ rfl _ _ 36 rfl W4.heap.size 5 i0 (.int .u8 0) 1 Try.underlying36 hi hz0 hz1 _ _ _ _ sz rfl rfl rfl rfl (by rw [hz2]; omega) (by unfold maxLen; omega) (Nat.le_refl _) ?_)
    intro W5 hown5 hg5
    obtain ⟨L, hC, hL⟩ : ∃ L : List Value, Bl 5 W5 W4.heap.size L.toArray ∧ Hid (L = (List.replicate sz (0 : Int)).map (Value.int .u8)) := by
      rcases hown5.2 with ⟨e, _⟩ | ⟨g, cap, cur, e, _, hg, _, _, hcs, htk⟩
      · cases e
      · cases e
        refine ⟨_, ?_, hid rfl⟩
        rw [List.take_of_length_le (by simpa using Nat.le_of_eq hcs)] at htk
        have htk2 : cur.toList = (madeCells #[Value.int .u8 0] sz).toList := by simpa using htk
        rw [zeros_made] at htk2
        have : cur = ((List.replicate sz (0 : Int)).map (Value.int .u8)).toArray := Array.ext' htk2
        rw [← this]
        exact hg
    have D5 := (Below.refl W4.heap.size W4).grown hg5 (Nat.le_refl _) (fun k hk => by cases hk)
    have B5 := hid (grown_on B4.out D5)
    have KX := QX4.out.below D5
    have KZ := QZ4.out.below D5
    have hlx := KX.lt
    clear x0 x1 x2 x3 z0 z1 z2 z3 f0 f1 f2 f3 g3 hown5 hg5
    have x3 := KX.cell (i := 3) rfl
    have g3 := KX.frozen 3
    have QX5 := hid KX
    have QZ5 := hid KZ
    have KC := hid hC
    have hWX : ¬ W4.heap.size = w.heap.size + 1 := by have := QX4.out.lt; omega
    have hWZ : ¬ w.heap.size = w.heap.size + 1 := by omega
    have hltX0 : w.heap.size + 1 < W4.heap.size := QX4.out.lt
    clear KX KZ hC QX4 QZ4 D5
    have hbkw : bk < w.heap.size := by
      rcases h.2.2.2 with e | ⟨b', o', e, hb', _⟩
      · rw [e] at h4; simp at h4
      · cases e; exact hb'
    have QX6 : Hid (Bl 47 (W5.setCell ⟨w.heap.size + 1, 3, none⟩ (.slice (some ⟨W4.heap.size, 0, none⟩) sz sz)) (w.heap.size + 1) #[.int .i64 fam, .int .i64 (m : Int), .int .i64 scp, .slice (some ⟨W4.heap.size, 0, none⟩) sz sz]) := hid (QX5.out.set 3 _)
    have QZ6 := hid (QZ5.out.far (p := ⟨w.heap.size + 1, 3, none⟩) hWZ (.slice (some ⟨W4.heap.size, 0, none⟩) sz sz))
    have KC6 := hid (KC.out.far (p := ⟨w.heap.size + 1, 3, none⟩) hWX (.slice (some ⟨W4.heap.size, 0, none⟩) sz sz))
    have B6 := hid (B5.out.setCell (p := ⟨w.heap.size + 1, 3, none⟩) (by simp) (.slice (some ⟨W4.heap.size, 0, none⟩) sz sz))
    obtain ⟨W6, hW6⟩ : ∃ W6, W6 = W5.setCell ⟨w.heap.size + 1, 3, none⟩ (.slice (some ⟨W4.heap.size, 0, none⟩) sz sz) := ⟨_, rfl⟩
    rw [← hW6] at QX6 QZ6 KC6 B6
    have HW6 := hid hW6
    obtain ⟨X, hX⟩ : ∃ X, (b.drop 4).map (Value.int .u8) = X := ⟨_, rfl⟩
    have hXl : X.length = l - 4 := by rw [← hX, List.length_map, List.length_drop]; omega
    have hle : l - 4 ≤ sz := by
      have h1 := HT.out
      have h2 := HTM.out
      have h3 : touchN m ≤ sz := touch_le (by have := (of_decide_eq_true HFT.out).1; simp only at this; omega)
      omega
    have HLl : Hid (L.length = sz) := hid (by rw [hL.out]; simp)
    have HXm : Hid (X.length = Nat.min (l - 4) sz) := hid (by rw [hXl]; exact (Nat.min_eq_left hle).symm)
    have HXf : Hid (0 + X.length ≤ L.length) := hid (by rw [HLl.out, hXl]; omega)
    have hsrc : Hid (0 < X.length → (some (⟨W4.heap.size, 0, none⟩ : Addr)) = some ⟨W4.heap.size, 0, none⟩ ∧ ∃ ad, (some (⟨bk, off + 4, none⟩ : Addr)) = some ad ∧ ∀ j v, X[j]? = some v → W6.cell? (ad.add j) = some v) := by
      refine hid ?_
      intro _
      refine ⟨rfl, _, rfl, fun j v hj => ?_⟩
      have hjl : j < l - 4 := by
        rcases Nat.lt_or_ge j (l - 4) with q | q
        · exact q
        · rw [List.getElem?_eq_none (by omega)] at hj; cases hj
      rw [show (⟨bk, off + 4, none⟩ : Addr).add j = ⟨bk, off + (4 + j), none⟩ by simp [Addr.add, Nat.add_assoc], B6.out.cell (p := ⟨bk, off + (4 + j), none⟩) hbkw]
      rcases h.2.2.2 with e | ⟨b', o', e, hb', hq'⟩
      · rw [e] at h4; simp at h4
      · cases e
        rw [hq' (4 + j) (by omega), ← hj, ← hX, List.getElem?_map, List.getElem?_drop, List.getD_eq_getElem?_getD, List.getElem?_eq_getElem (by omega)]
        rfl
    have hX1 : Hid (∀ v ∈ X, v.oneCell' = true) := by
      refine hid ?_
      rw [← hX]
      intro v hv
      obtain ⟨y, _, rfl⟩ := List.mem_map.1 hv
      rfl
    have HA : Hid (splice L 0 X = (snOf b).A.map (Value.int .u8)) := by
      refine hid ?_
      have e1 : (snOf b).A = (b.drop 4).take (wideN (snOf b).fam) ++ List.replicate (wideN (snOf b).fam - (b.length - 4)) 0 := rfl
      rw [e1, HF.out, HSZ.out, List.take_of_length_le (by rw [List.length_drop]; omega), hL.out, ← hX]
      unfold splice
      simp only [List.take_zero, List.nil_append, Nat.zero_add, List.map_append, List.map_replicate, List.length_map, List.length_drop, List.drop_replicate]
    have HX := hid hX
    have HSL : Hid ((snOf b).A.length = sz) := hid (by rw [← HSZ.out, ← HF.out]; exact sn_wide (by rw [HF.out, HSZ.out]; omega))
    have hszb : (Try.prog.info? 5).map (·.size) = some 1 := by rw [hi]; simp [hz1]
    have HRF : Hid (Below W4.heap.size W6 W6) := hid (Below.refl _ _)
    have hWW : W4.heap.size ≤ W4.heap.size := Nat.le_refl _
    clear hX hXl hi hz0 hz1 hz2 KC QX5 QZ5 B5 hL hW6
    have y3 := QX6.out.cell (i := 3) rfl
    go_upto_region 11 with fail
    rw [← HW6.out]
    clear x3 g3
    go_wp2_with (refine wpList_copy_splice rfl (.tmp 51) (.tmp 52) 36 36 rfl 5 Try.underlying36 hszb _ _ _ _ _ _ rfl rfl W4.heap.size 0 L 5 KC6.out X HXm.out hsrc.out HXf.out hX1.out W4.heap.size W6 HRF.out hWW ?_)
    intro W7 HG7 hB7
    have KA : Hid (Bl 5 W7 W4.heap.size ((snOf b).A.map (Value.int .u8)).toArray) := hid (by rw [← HA.out]; exact HG7.out)
    have hltX : w.heap.size + 1 < W4.heap.size := hltX0
    have QX7 := hid (QX6.out.under hltX hB7)
    have QZ7 := hid (QZ6.out.under (by omega) hB7)
    have B7 : Hid (Below w.heap.size w W7) := hid (B6.out.trans (hB7.mono (by omega)))
    clear HG7 hB7 KC6 HXm hsrc HXf hX1 HA HRF y3 QX6 QZ6 B6 HX HW6
    obtain ⟨A, hA⟩ : ∃ A, (snOf b).A = A := ⟨_, rfl⟩
    have HAl : Hid (A.length = sz) := hid (by rw [← hA]; exact HSL.out)
    have HAb : Hid (∀ x ∈ A, 0 ≤ x ∧ x ≤ 255) := hid (by rw [← hA]; exact sn_bytes hbs)
    rw [hA] at KA
    have HAA := hid hA
    have hml : Hid (m ≤ 8 * A.length) := hid (by rw [HAl.out]; have := (of_decide_eq_true HFT.out).1; simp only at this; omega)
    obtain ⟨r, hr⟩ : ∃ r, decide (A = maskN m A) = r := ⟨_, rfl⟩
    have HR := hid hr
    have hAs : Hid (∀ u, Below W7.heap.size W7 u → Bys u (some ⟨W4.heap.size, 0, none⟩) sz A) := hid fun u hu => bl_bys (KA.out.below hu) HAb.out (by rw [HAl.out]; exact Nat.le_refl _) (by rw [HAl.out]; omega)
    have M1 : Hid (∀ u, Below W7.heap.size W7 u → Calls Try.prog 35 #[.slice (some ⟨W4.heap.size, 0, none⟩) sz sz, .int .i64 (m : Int)] u fun e u' => ∃ g, e = .returned (.slice (some ⟨g, 0, none⟩) sz sz) ∧ Bl 5 u' g ((maskN m A).map (Value.int .u8)).toArray ∧ Below W7.heap.size W7 u') := by
      refine hid fun u hu => (masked_any m A u (hAs.out u hu) (fun q => by cases q) hml.out HAl.out).mono ?_
      rintro e u' ⟨rfl, k, d⟩
      exact ⟨u.heap.size, by rw [HAl.out], k, hu.trans (d.mono hu.size)⟩
    have M2 : Hid (∀ (u : World) (g : Nat), Below W7.heap.size W7 u → Bl 5 u g ((maskN m A).map (Value.int .u8)).toArray → Calls Try.prog 40 #[.slice (some ⟨W4.heap.size, 0, none⟩) sz sz, .slice (some ⟨g, 0, none⟩) sz sz] u fun e u' => e = .returned (.bool r) ∧ u = u') := by
      refine hid fun u g hu k => ?_
      refine bequal_at r A (maskN m A) u HAb.out (maskN_bytes m HAb.out) (fun i hi => ?_) (fun i hi => ?_) HAl.out (by rw [maskN_len, HAl.out]) HR.out
      · rw [Nat.zero_add]; refine (KA.out.below hu).cell ?_; simp [List.getD_eq_getElem?_getD, List.getElem?_eq_getElem hi]
      · rw [Nat.zero_add]; refine k.cell ?_; simp [List.getD_eq_getElem?_getD, List.getElem?_eq_getElem hi]
    have PK2 : Hid (∀ u, Below W7.heap.size W7 u → u.cell? ⟨w.heap.size + 1, 1, none⟩ = some (.int .i64 (m : Int)) ∧ u.cell? ⟨w.heap.size + 1, 3, none⟩ = some (.slice (some ⟨W4.heap.size, 0, none⟩) sz sz) ∧ Below W7.heap.size W7 u) :=
      hid fun u hu => ⟨(QX7.out.below hu).cell (i := 1) rfl, (QX7.out.below hu).cell (i := 3) rfl, hu⟩
    clear hr hA PK HP HSL
    go_upto_region 12 with fail
    go_region_held3 (fun u => u.cell? ⟨w.heap.size + 1, 1, none⟩ = some (.int .i64 (m : Int)) ∧ u.cell? ⟨w.heap.size + 1, 3, none⟩ = some (.slice (some ⟨W4.heap.size, 0, none⟩) sz sz) ∧ Below W7.heap.size W7 u) (with_reducible (first | assumption | exact PK2.out _ (Below.drew (Below.refl _ _)) | exact PK2.out _ HB8))
      (first
        | (go_at_call 35; refine (M1.out _ ?_).mono ?_; (first | assumption | exact Below.drew (Below.refl _ _)); rintro e W8 ⟨g8, rfl, K8, HB8⟩)
        | (go_at_call 40; refine (M2.out _ _ HB8 K8).mono ?_; rintro e W9 ⟨rfl, rfl⟩))
    all_goals
      have QX8 := QX7.out.below HB8
      have QZ8 := QZ7.out.below HB8
      have B8 := hid (grown_on B7.out HB8)
      have KA8 := hid (hAs.out _ HB8)
      have y0 := QX8.cell (i := 0) rfl
      have y1 := QX8.cell (i := 1) rfl
      have y2 := QX8.cell (i := 2) rfl
      have y3 := QX8.cell (i := 3) rfl
      have z0 := QZ8.cell (i := 0) rfl
      have z1 := QZ8.cell (i := 1) rfl
      have z2 := QZ8.cell (i := 2) rfl
      have z3 := QZ8.cell (i := 3) rfl
      have f0 := QZ8.frozen 0
      have f1 := QZ8.frozen 1
      have f2 := QZ8.frozen 2
      have f3 := QZ8.frozen 3
      have HZ8 := hid QZ8
      clear QX8 QZ8 QX7 QZ7 K8 HB8 PK2 M1 M2 hAs
      cases r
      · go_wp2_with fail
        refine bodyPost_ret (results_dec _ _ w.heap.size _ _ _ _ _ rfl rfl (HZ8.out.put4 _ _ _ _)) rfl ?_
        refine DecP.bad (k := 1) ?_ (by decide) rfl (below_put4 B8.out (Nat.le_refl _) _ _ _ _)
        rw [HE.out, HAA.out, HS.out, Int.toNat_natCast, if_pos (of_decide_eq_false HR.out)]
      · go_wp2_with fail
        refine bodyPost_ret (results_dec _ _ w.heap.size _ _ _ _ _ rfl rfl (HZ8.out.put4 _ _ _ _)) rfl ?_
        have hE0 : decE b = 0 := by rw [HE.out, HAA.out, HS.out, Int.toNat_natCast, if_neg (by simpa using of_decide_eq_true HR.out)]
        refine DecP.good hE0 HF.out HS.out HC.out HAA.out HAl.out (KA8.out.put4 (by omega) _ _ _ _) (by omega) (below_put4 B8.out (Nat.le_refl _) _ _ _ _)

set_option maxHeartbeats 4000000 in
set_option maxRecDepth 100000 in
theorem dec_last_b {bk off c l : Nat} (b : List Int) (w : World) (h : Bys w (some ⟨bk, off, none⟩) c b) (hl : b.length = l) (h4 : 4 ≤ b.length) (HWn0 : ¬ wideN (snOf b).fam = 0) (hft : fitN (snOf b) (wideN (snOf b).fam)) (hln : b.length - 4 = touchN (snOf b).src.toNat) (hc4' : Hid (c = 4)) :
    Calls Try.prog 15 #[.slice (some ⟨bk, off, none⟩) l c] w (DecP b w) := by
  have hlen : b.length ≤ 200000000000000 := h.2.1
  have hbs := h.2.2.1
  have hlc : b.length ≤ c := h.1
  have B0 := (Below.refl w.heap.size w).alloc (Nat.le_refl _) (.cells #[.int .i64 0, .int .i64 0, .int .i64 0, .slice none 0 0] 47)
  have Z0 := Bl.new 47 w #[.int .i64 0, .int .i64 0, .int .i64 0, .slice none 0 0]
  obtain ⟨w1, hw1⟩ : ∃ w1, w1 = w.alloc (.cells #[.int .i64 0, .int .i64 0, .int .i64 0, .slice none 0 0] 47) := ⟨_, rfl⟩
  have hsz1 : w1.heap.size = w.heap.size + 1 := by rw [hw1]; simp
  rw [← hw1] at B0 Z0
  have h1 := h.below B0
  obtain ⟨_, _, _, hd⟩ := h1
  rcases hd with hd | ⟨bk', off', e', hbk, hq⟩
  · rw [hd] at h4; simp at h4
  cases e'
  have HP : Hid (∀ u, Below w1.heap.size w1 u → Calls Try.prog 37 #[.slice (some ⟨bk, off, none⟩) 2 c] u fun e u' => e = .returned (.int .i64 (snOf b).fam) ∧ u = u') := by
    refine hid fun u hu => ?_
    have hk : ((b.take 2)).length = 2 := by rw [List.length_take]; omega
    refine number_at _ (b.take 2) u ?_ hk (by omega) rfl
    refine ⟨by omega, by omega, fun y hy => hbs y (List.mem_of_mem_take hy), Or.inr ⟨bk, off, rfl, Nat.lt_of_lt_of_le hbk hu.size, fun i hi => ?_⟩⟩
    rw [hu.cell (p := ⟨bk, off + i, none⟩) hbk, hq i (by omega), sub_take 2 i b (by omega)]
  have hc2 := hq 2 (by omega)
  have hc3 := hq 3 (by omega)
  have e2 : b.getD 2 0 = (snOf b).src := rfl
  have e3 : b.getD 3 0 = (snOf b).scp := rfl
  rw [e2] at hc2
  rw [e3] at hc3
  have r2 : 0 ≤ (snOf b).src ∧ (snOf b).src ≤ 255 := getD_byte hbs 2
  have r3 : 0 ≤ (snOf b).scp ∧ (snOf b).scp ≤ 255 := getD_byte hbs 3
  obtain ⟨r20, r21⟩ := r2
  obtain ⟨r30, r31⟩ := r3
  have HB0 := hid B0
  have HZ0 := hid Z0
  have HQ := hid hq
  have HW1 := hid hw1
  have j2 : (2 : Int) ≤ (c : Int) := by omega
  have j3 : (2 : Int) < (l : Int) := by omega
  have j4 : (3 : Int) < (l : Int) := by omega
  have j5 : ¬ (l : Int) < 4 := by omega
  have PK : Hid (∀ u, Below w1.heap.size w1 u → u.cell? ⟨bk, off + 2, none⟩ = some (.int .u8 (snOf b).src) ∧ u.cell? ⟨bk, off + 3, none⟩ = some (.int .u8 (snOf b).scp) ∧ Below w1.heap.size w1 u) :=
    hid fun u hu => ⟨by rw [hu.cell (p := ⟨bk, off + 2, none⟩) hbk]; exact hc2, by rw [hu.cell (p := ⟨bk, off + 3, none⟩) hbk]; exact hc3, hu⟩
  obtain ⟨fam, hfam⟩ : ∃ fam, (snOf b).fam = fam := ⟨_, rfl⟩
  obtain ⟨src, hsrc⟩ : ∃ src, (snOf b).src = src := ⟨_, rfl⟩
  obtain ⟨scp, hscp⟩ : ∃ scp, (snOf b).scp = scp := ⟨_, rfl⟩
  rw [hfam] at HP
  rw [hsrc, hscp] at PK
  rw [hsrc] at r20 r21
  rw [hscp] at r30 r31
  have wr2 := wrap_i64 src r20 (by omega)
  have wr3 := wrap_i64 scp r30 (by omega)
  have HF := hid hfam
  have HS := hid hsrc
  have HC := hid hscp
  clear hc2 hc3 e2 e3 hq B0 Z0 hfam hsrc hscp hw1
  go_enter Try.func15, Try.ntmps15
  go_wp2_with fail
  rw [← HW1.out]
  go_region_held3 (fun u => u.cell? ⟨bk, off + 2, none⟩ = some (.int .u8 src) ∧ u.cell? ⟨bk, off + 3, none⟩ = some (.int .u8 scp) ∧ Below w1.heap.size w1 u) (with_reducible (first | assumption | exact PK.out _ (Below.drew (Below.refl _ _)) | exact PK.out _ ((Below.refl _ _).alloc (Nat.le_refl _) _).drew))
    (first
      | (go_at_call 37; refine (HP.out _ ?_).mono ?_; (first | assumption | exact Below.drew (Below.refl _ _) | exact ((Below.refl _ _).alloc (Nat.le_refl _) _).drew); rintro e w' ⟨rfl, rfl⟩))
  all_goals
    have KX : Bl 47 (w1.alloc (.cells #[.int .i64 fam, .int .i64 src, .int .i64 scp, .slice none 0 0] 47)).drew (w.heap.size + 1) #[.int .i64 fam, .int .i64 src, .int .i64 scp, .slice none 0 0] := by rw [← hsz1]; exact (Bl.new 47 w1 _).drew
    have BW : Below w1.heap.size w1 (w1.alloc (.cells #[.int .i64 fam, .int .i64 src, .int .i64 scp, .slice none 0 0] 47)).drew := ((Below.refl _ w1).alloc (Nat.le_refl _) _).drew
    have KZ := HZ0.out.below BW
    have B3 := hid (grown_on HB0.out BW)
    have V3 := hid BW
    generalize (w1.alloc (.cells #[.int .i64 fam, .int .i64 src, .int .i64 scp, .slice none 0 0] 47)).drew = W3 at *
    have x0 := KX.cell (i := 0) rfl
    have x1 := KX.cell (i := 1) rfl
    have x2 := KX.cell (i := 2) rfl
    have x3 := KX.cell (i := 3) rfl
    have z0 := KZ.cell (i := 0) rfl
    have z1 := KZ.cell (i := 1) rfl
    have z2 := KZ.cell (i := 2) rfl
    have z3 := KZ.cell (i := 3) rfl
    have f0 := KZ.frozen 0
    have f1 := KZ.frozen 1
    have f2 := KZ.frozen 2
    have f3 := KZ.frozen 3
    have QX := hid KX
    have QZ := hid KZ
    clear KX KZ BW
    go_wp2_with fail
    refine (sizeOf_at fam W3).mono ?_
    rintro e w' ⟨rfl, rfl⟩
    have HE : Hid (decE b = if ¬ (snOf b).A = maskN (snOf b).src.toNat (snOf b).A then 1 else 0) := hid (by unfold decE; rw [if_neg (by omega), if_neg (by intro q; rcases q with q | q; exact HWn0 q; exact q hft), if_neg (by simpa using hln)])
    have HWn : Hid (¬ wideN fam = 0) := hid (by rw [← HF.out]; exact HWn0)
    have hws := wide_small fam
    have HFT : Hid (decide (fitN ⟨fam, src, scp, []⟩ (wideN fam)) = true) := hid (decide_eq_true (by rw [← HF.out]; have q := hft; unfold fitN at q ⊢; rw [HS.out, HC.out] at q; exact q))
    clear hft HWn0
    have hn0 : (((wideN fam : Nat) : Int) == 0) = false := by have := HWn.out; simp; omega
    obtain ⟨sz, hsz⟩ : ∃ sz, wideN fam = sz := ⟨_, rfl⟩
    rw [hsz] at hn0 HFT hws ⊢
    have HSZ := hid hsz
    clear hsz
    go_wp2_with fail
    refine (sfit_at true ⟨fam, src, scp, []⟩ sz W3 (by omega) HFT.out).mono ?_
    rintro e W4 ⟨rfl, d4⟩
    have B4 := hid (grown_on B3.out d4)
    have KX := QX.out.below d4
    have KZ := QZ.out.below d4
    clear x0 x1 x2 x3 z0 z1 z2 z3 f0 f1 f2 f3
    have x0 := KX.cell (i := 0) rfl
    have x1 := KX.cell (i := 1) rfl
    have x2 := KX.cell (i := 2) rfl
    have x3 := KX.cell (i := 3) rfl
    have z0 := KZ.cell (i := 0) rfl
    have z1 := KZ.cell (i := 1) rfl
    have z2 := KZ.cell (i := 2) rfl
    have z3 := KZ.cell (i := 3) rfl
    have f0 := KZ.frozen 0
    have f1 := KZ.frozen 1
    have f2 := KZ.frozen 2
    have f3 := KZ.frozen 3
    have g3 := KX.frozen 3
    have QX4 := hid KX
    have QZ4 := hid KZ
    clear KX KZ d4
    have hc4 := hc4'.out
    clear hc4'
    have hl4 : l = 4 := by omega
    subst hl4 hc4
    obtain ⟨m, rfl⟩ : ∃ m : Nat, src = (m : Int) := ⟨src.toNat, by omega⟩
    have HTM : Hid (touchN (snOf b).src.toNat = touchN m) := hid (by rw [HS.out, Int.toNat_natCast])
    have hne : ((0 : Int) != ((touchN m : Nat) : Int)) = false := by rw [bne_eq_false_iff_eq]; have := HTM.out; omega
    go_wp2_with fail
    refine (touched_at m W4 (by omega)).mono ?_
    rintro e w' ⟨rfl, rfl⟩
    obtain ⟨t, ht⟩ : ∃ t, touchN m = t := ⟨_, rfl⟩
    rw [ht] at hne ⊢
    have HT := hid ht
    clear ht
    obtain ⟨i0, hi, hz0, hz1, hz2⟩ := info_of_byte
    go_wp2_with (at_make; refine wpList_make_full _ rfl _ _ 36 rfl W4.heap.size 5 i0 (.int .u8 0) 1 Try.underlying36 hi hz0 hz1 _ _ _ _ sz rfl rfl rfl rfl (by rw [hz2]; omega) (by unfold maxLen; omega) (Nat.le_refl _) ?_)
    intro W5 hown5 hg5
    obtain ⟨L, hC, hL⟩ : ∃ L : List Value, Bl 5 W5 W4.heap.size L.toArray ∧ Hid (L = (List.replicate sz (0 : Int)).map (Value.int .u8)) := by
      rcases hown5.2 with ⟨e, _⟩ | ⟨g, cap, cur, e, _, hg, _, _, hcs, htk⟩
      · cases e
      · cases e
        refine ⟨_, ?_, hid rfl⟩
        rw [List.take_of_length_le (by simpa using Nat.le_of_eq hcs)] at htk
        have htk2 : cur.toList = (madeCells #[Value.int .u8 0] sz).toList := by simpa using htk
        rw [zeros_made] at htk2
        have : cur = ((List.replicate sz (0 : Int)).map (Value.int .u8)).toArray := Array.ext' htk2
        rw [← this]
        exact hg
    have D5 := (Below.refl W4.heap.size W4).grown hg5 (Nat.le_refl _) (fun k hk => by cases hk)
    have B5 := hid (grown_on B4.out D5)
    have KX := QX4.out.below D5
    have KZ := QZ4.out.below D5
    have hlx := KX.lt
    clear x0 x1 x2 x3 z0 z1 z2 z3 f0 f1 f2 f3 g3 hown5 hg5
    have x3 := KX.cell (i := 3) rfl
    have g3 := KX.frozen 3
    have QX5 := hid KX
    have QZ5 := hid KZ
    have KC := hid hC
    have hWX : ¬ W4.heap.size = w.heap.size + 1 := by have := QX4.out.lt; omega
    have hWZ : ¬ w.heap.size = w.heap.size + 1 := by omega
    have hltX0 : w.heap.size + 1 < W4.heap.size := QX4.out.lt
    clear KX KZ hC QX4 QZ4 D5
    have hbkw : bk < w.heap.size := by
      rcases h.2.2.2 with e | ⟨b', o', e, hb', _⟩
      · rw [e] at h4; simp at h4
      · cases e; exact hb'
    have QX6 : Hid (Bl 47 (W5.setCell ⟨w.heap.size + 1, 3, none⟩ (.slice (some ⟨W4.heap.size, 0, none⟩) sz sz)) (w.heap.size + 1) #[.int .i64 fam, .int .i64 (m : Int), .int .i64 scp, .slice (some ⟨W4.heap.size, 0, none⟩) sz sz]) := hid (QX5.out.set 3 _)
    have QZ6 := hid (QZ5.out.far (p := ⟨w.heap.size + 1, 3, none⟩) hWZ (.slice (some ⟨W4.heap.size, 0, none⟩) sz sz))
    have KC6 := hid (KC.out.far (p := ⟨w.heap.size + 1, 3, none⟩) hWX (.slice (some ⟨W4.heap.size, 0, none⟩) sz sz))
    have B6 := hid (B5.out.setCell (p := ⟨w.heap.size + 1, 3, none⟩) (by simp) (.slice (some ⟨W4.heap.size, 0, none⟩) sz sz))
    obtain ⟨W6, hW6⟩ : ∃ W6, W6 = W5.setCell ⟨w.heap.size + 1, 3, none⟩ (.slice (some ⟨W4.heap.size, 0, none⟩) sz sz) := ⟨_, rfl⟩
    rw [← hW6] at QX6 QZ6 KC6 B6
    have HW6 := hid hW6
    obtain ⟨X, hX⟩ : ∃ X, (b.drop 4).map (Value.int .u8) = X := ⟨_, rfl⟩
    have hXl : X.length = 0 := by rw [← hX, List.length_map, List.length_drop]; omega
    have hle : 0 ≤ sz := by
      have h1 := HT.out
      have h2 := HTM.out
      have h3 : touchN m ≤ sz := touch_le (by have := (of_decide_eq_true HFT.out).1; simp only at this; omega)
      omega
    have HLl : Hid (L.length = sz) := hid (by rw [hL.out]; simp)
    have HXm : Hid (X.length = Nat.min (0) sz) := hid (by rw [hXl]; exact (Nat.min_eq_left hle).symm)
    have HXf : Hid (0 + X.length ≤ L.length) := hid (by rw [HLl.out, hXl]; omega)
    have hsrc : Hid (0 < X.length → (some (⟨W4.heap.size, 0, none⟩ : Addr)) = some ⟨W4.heap.size, 0, none⟩ ∧ ∃ ad, (some (⟨bk, off, none⟩ : Addr)) = some ad ∧ ∀ j v, X[j]? = some v → W6.cell? (ad.add j) = some v) := by
      refine hid ?_
      intro q; rw [hXl] at q; omega
    have hX1 : Hid (∀ v ∈ X, v.oneCell' = true) := by
      refine hid ?_
      rw [← hX]
      intro v hv
      obtain ⟨y, _, rfl⟩ := List.mem_map.1 hv
      rfl
    have HA : Hid (splice L 0 X = (snOf b).A.map (Value.int .u8)) := by
      refine hid ?_
      have e1 : (snOf b).A = (b.drop 4).take (wideN (snOf b).fam) ++ List.replicate (wideN (snOf b).fam - (b.length - 4)) 0 := rfl
      rw [e1, HF.out, HSZ.out, List.take_of_length_le (by rw [List.length_drop]; omega), hL.out, ← hX]
      unfold splice
      simp only [List.take_zero, List.nil_append, Nat.zero_add, List.map_append, List.map_replicate, List.length_map, List.length_drop, List.drop_replicate]
    have HX := hid hX
    have HSL : Hid ((snOf b).A.length = sz) := hid (by rw [← HSZ.out, ← HF.out]; exact sn_wide (by rw [HF.out, HSZ.out]; omega))
    have hszb : (Try.prog.info? 5).map (·.size) = some 1 := by rw [hi]; simp [hz1]
    have HRF : Hid (Below W4.heap.size W6 W6) := hid (Below.refl _ _)
    have hWW : W4.heap.size ≤ W4.heap.size := Nat.le_refl _
    clear hX hXl hi hz0 hz1 hz2 KC QX5 QZ5 B5 hL hW6
    have y3 := QX6.out.cell (i := 3) rfl
    go_upto_region 11 with fail
    rw [← HW6.out]
    clear x3 g3
    go_wp2_with (refine wpList_copy_splice rfl (.tmp 51) (.tmp 52) 36 36 rfl 5 Try.underlying36 hszb _ _ _ _ _ _ rfl rfl W4.heap.size 0 L 5 KC6.out X HXm.out hsrc.out HXf.out hX1.out W4.heap.size W6 HRF.out hWW ?_)
    intro W7 HG7 hB7
    have KA : Hid (Bl 5 W7 W4.heap.size ((snOf b).A.map (Value.int .u8)).toArray) := hid (by rw [← HA.out]; exact HG7.out)
    have hltX : w.heap.size + 1 < W4.heap.size := hltX0
    have QX7 := hid (QX6.out.under hltX hB7)
    have QZ7 := hid (QZ6.out.under (by omega) hB7)
    have B7 : Hid (Below w.heap.size w W7) := hid (B6.out.trans (hB7.mono (by omega)))
    clear HG7 hB7 KC6 HXm hsrc HXf hX1 HA HRF y3 QX6 QZ6 B6 HX HW6
    obtain ⟨A, hA⟩ : ∃ A, (snOf b).A = A := ⟨_, rfl⟩
    have HAl : Hid (A.length = sz) := hid (by rw [← hA]; exact HSL.out)
    have HAb : Hid (∀ x ∈ A, 0 ≤ x ∧ x ≤ 255) := hid (by rw [← hA]; exact sn_bytes hbs)
    rw [hA] at KA
    have HAA := hid hA
    have hml : Hid (m ≤ 8 * A.length) := hid (by rw [HAl.out]; have := (of_decide_eq_true HFT.out).1; simp only at this; omega)
    obtain ⟨r, hr⟩ : ∃ r, decide (A = maskN m A) = r := ⟨_, rfl⟩
    have HR := hid hr
    have hAs : Hid (∀ u, Below W7.heap.size W7 u → Bys u (some ⟨W4.heap.size, 0, none⟩) sz A) := hid fun u hu => bl_bys (KA.out.below hu) HAb.out (by rw [HAl.out]; exact Nat.le_refl _) (by rw [HAl.out]; omega)
    have M1 : Hid (∀ u, Below W7.heap.size W7 u → Calls Try.prog 35 #[.slice (some ⟨W4.heap.size, 0, none⟩) sz sz, .int .i64 (m : Int)] u fun e u' => ∃ g, e = .returned (.slice (some ⟨g, 0, none⟩) sz sz) ∧ Bl 5 u' g ((maskN m A).map (Value.int .u8)).toArray ∧ Below W7.heap.size W7 u') := by
      refine hid fun u hu => (masked_any m A u (hAs.out u hu) (fun q => by cases q) hml.out HAl.out).mono ?_
      rintro e u' ⟨rfl, k, d⟩
      exact ⟨u.heap.size, by rw [HAl.out], k, hu.trans (d.mono hu.size)⟩
    have M2 : Hid (∀ (u : World) (g : Nat), Below W7.heap.size W7 u → Bl 5 u g ((maskN m A).map (Value.int .u8)).toArray → Calls Try.prog 40 #[.slice (some ⟨W4.heap.size, 0, none⟩) sz sz, .slice (some ⟨g, 0, none⟩) sz sz] u fun e u' => e = .returned (.bool r) ∧ u = u') := by
      refine hid fun u g hu k => ?_
      refine bequal_at r A (maskN m A) u HAb.out (maskN_bytes m HAb.out) (fun i hi => ?_) (fun i hi => ?_) HAl.out (by rw [maskN_len, HAl.out]) HR.out
      · rw [Nat.zero_add]; refine (KA.out.below hu).cell ?_; simp [List.getD_eq_getElem?_getD, List.getElem?_eq_getElem hi]
      · rw [Nat.zero_add]; refine k.cell ?_; simp [List.getD_eq_getElem?_getD, List.getElem?_eq_getElem hi]
    have PK2 : Hid (∀ u, Below W7.heap.size W7 u → u.cell? ⟨w.heap.size + 1, 1, none⟩ = some (.int .i64 (m : Int)) ∧ u.cell? ⟨w.heap.size + 1, 3, none⟩ = some (.slice (some ⟨W4.heap.size, 0, none⟩) sz sz) ∧ Below W7.heap.size W7 u) :=
      hid fun u hu => ⟨(QX7.out.below hu).cell (i := 1) rfl, (QX7.out.below hu).cell (i := 3) rfl, hu⟩
    clear hr hA PK HP HSL
    go_upto_region 12 with fail
    go_region_held3 (fun u => u.cell? ⟨w.heap.size + 1, 1, none⟩ = some (.int .i64 (m : Int)) ∧ u.cell? ⟨w.heap.size + 1, 3, none⟩ = some (.slice (some ⟨W4.heap.size, 0, none⟩) sz sz) ∧ Below W7.heap.size W7 u) (with_reducible (first | assumption | exact PK2.out _ (Below.drew (Below.refl _ _)) | exact PK2.out _ HB8))
      (first
        | (go_at_call 35; refine (M1.out _ ?_).mono ?_; (first | assumption | exact Below.drew (Below.refl _ _)); rintro e W8 ⟨g8, rfl, K8, HB8⟩)
        | (go_at_call 40; refine (M2.out _ _ HB8 K8).mono ?_; rintro e W9 ⟨rfl, rfl⟩))
    all_goals
      have QX8 := QX7.out.below HB8
      have QZ8 := QZ7.out.below HB8
      have B8 := hid (grown_on B7.out HB8)
      have KA8 := hid (hAs.out _ HB8)
      have y0 := QX8.cell (i := 0) rfl
      have y1 := QX8.cell (i := 1) rfl
      have y2 := QX8.cell (i := 2) rfl
      have y3 := QX8.cell (i := 3) rfl
      have z0 := QZ8.cell (i := 0) rfl
      have z1 := QZ8.cell (i := 1) rfl
      have z2 := QZ8.cell (i := 2) rfl
      have z3 := QZ8.cell (i := 3) rfl
      have f0 := QZ8.frozen 0
      have f1 := QZ8.frozen 1
      have f2 := QZ8.frozen 2
      have f3 := QZ8.frozen 3
      have HZ8 := hid QZ8
      clear QX8 QZ8 QX7 QZ7 K8 HB8 PK2 M1 M2 hAs
      cases r
      · go_wp2_with fail
        refine bodyPost_ret (results_dec _ _ w.heap.size _ _ _ _ _ rfl rfl (HZ8.out.put4 _ _ _ _)) rfl ?_
        refine DecP.bad (k := 1) ?_ (by decide) rfl (below_put4 B8.out (Nat.le_refl _) _ _ _ _)
        rw [HE.out, HAA.out, HS.out, Int.toNat_natCast, if_pos (of_decide_eq_false HR.out)]
      · go_wp2_with fail
        refine bodyPost_ret (results_dec _ _ w.heap.size _ _ _ _ _ rfl rfl (HZ8.out.put4 _ _ _ _)) rfl ?_
        have hE0 : decE b = 0 := by rw [HE.out, HAA.out, HS.out, Int.toNat_natCast, if_neg (by simpa using of_decide_eq_true HR.out)]
        refine DecP.good hE0 HF.out HS.out HC.out HAA.out HAl.out (KA8.out.put4 (by omega) _ _ _ _) (by omega) (below_put4 B8.out (Nat.le_refl _) _ _ _ _)

theorem dec_any {x : Option Addr} {c l : Nat} (b : List Int) (w : World) (h : Bys w x c b) (hl : b.length = l) : Calls Try.prog 15 #[.slice x l c] w (DecP b w) := by
  by_cases h4 : b.length < 4
  · exact dec_short b w hl h4
  · have h4' : 4 ≤ b.length := by omega
    rcases h.2.2.2 with e | ⟨bk, off, rfl, _, _⟩
    · rw [e] at h4'; simp at h4'
    · by_cases c1 : wideN (snOf b).fam = 0
      · exact dec_none b w h hl h4' c1
      · by_cases c2 : fitN (snOf b) (wideN (snOf b).fam)
        · by_cases c3 : b.length - 4 = touchN (snOf b).src.toNat
          · by_cases c4 : c = 4
            · exact dec_last_b b w h hl h4' c1 c2 c3 c4
            · exact dec_last_a b w h hl h4' c1 c2 c3 c4
          · by_cases c4 : c = 4
            · exact dec_len_b b w h hl h4' c1 c2 c3 c4
            · exact dec_len_a b w h hl h4' c1 c2 c3 c4
        · exact dec_unfit b w h hl h4' c1 c2

end Go.Proofs.Ytpmbbaacpnooeaa

namespace Go.Proofs.Ytpmbbaacpnooeaa
open Go.RowKit Go.Deep

theorem sub_opt {B : List Int} (h : B.length ≤ 20) : otE (⟨1232, 0, 0, false, 0, [⟨8, B⟩]⟩ : Ot) = 0 := by
  unfold otE
  rw [if_neg (by unfold OtIn; simp)]
  unfold dataE
  have e : optE [⟨8, B⟩] = 0 := by
    rw [optE_cons, if_neg (by simp), if_neg (by simp only; omega)]
    rfl
  rw [if_neg (by rw [e]; decide), if_neg (by simp only [optSize]; omega)]

theorem sub_rows {w : World} {z : Option Addr} {t : Nat} {B : List Int} (h : Bys w z t B) (hz : z = none → t = 0) : Ops (w.alloc (.cells #[.int .i64 8, .slice z B.length t] 50)) 0 (some ⟨w.heap.size, 0, none⟩) 1 [⟨8, B⟩] := by
  have k := (Below.refl w.heap.size w).alloc (Nat.le_refl _) (.cells #[.int .i64 8, .slice z B.length t] 50)
  have b := Bl.new 50 w #[.int .i64 8, .slice z B.length t]
  refine ⟨Nat.le_refl _, by simp, Or.inr ⟨w.heap.size, 0, rfl, by simp, Nat.zero_le _, fun i hi => ?_⟩⟩
  obtain rfl : i = 0 := by simpa using hi
  exact ⟨z, t, b.cell (i := 0) rfl, b.cell (i := 1) rfl, h.below k, hz, fun a _ => Nat.zero_le _⟩

theorem sub_in {a : List Int} {s : Sn} (h : snE s = 0) (hb : ∀ b ∈ s.A, 0 ≤ b ∧ b ≤ 255) : decide (inN a ⟨s.fam, s.src, s.scp, maskN s.src.toNat s.A⟩) = decide (inN a s) := by
  have h2 := enc_dec (dec_enc h hb).1 (encB_bytes h hb)
  rw [(dec_enc h hb).2] at h2
  have e : inN a ⟨s.fam, s.src, s.scp, maskN s.src.toNat s.A⟩ ↔ inN a s := by
    unfold inN
    simp only
    rw [maskN_len, maskN_maskN, Nat.min_self, h, h2.1]
  by_cases c : inN a s
  · rw [decide_eq_true c, decide_eq_true (e.2 c)]
  · rw [decide_eq_false c, decide_eq_false (fun q => c (e.1 q))]

theorem sub_len {s : Sn} (h : snE s = 0) : (encB s).length ≤ 20 := by
  rw [encB_len h]
  obtain ⟨hfam, _, hf⟩ := snE_zero h
  have := hf.1
  unfold touchN
  omega

set_option maxRecDepth 100000 in
theorem ksent_any (w : World) : Calls Try.prog 13 #[] w fun e w' => e = .returned (.bool true) ∧ Below w.heap.size w w' := by
  go_enter Try.func13, Try.ntmps13
  go_wp2_with fail
  refine (mwrite_empty _).mono ?_
  rintro e w1 ⟨x1, c1, rfl, b1⟩
  have B1 := hid b1
  clear b1
  go_wp2_with fail
  go_ret
  exact ⟨rfl, B1.out⟩

theorem sub_decode {x : Option Addr} {c l : Nat} {b : List Int} {t : Sn} {w : World} (h : Bys w x c b) (hl : b.length = l) (h0 : decE b = 0) (ht : snOf b = t) :
    Calls Try.prog 15 #[.slice x l c] w fun e w' => ∃ g d, e = .returned (.tuple #[.agg #[.int .i64 t.fam, .int .i64 t.src, .int .i64 t.scp, .slice (some ⟨g, 0, none⟩) t.A.length d], .nilIface]) ∧ Bys w' (some ⟨g, 0, none⟩) d t.A ∧ Below w.heap.size w w' := by
  subst ht
  exact (dec_any b w h hl).mono fun e w' hp => by unfold DecP at hp; rw [if_pos h0] at hp; obtain ⟨g, c, h1, h2, _, h3⟩ := hp; exact ⟨g, c, h1, h2, h3⟩

/-- What must be known of the rows. -/
def SubF (r3 r4 rs : List Rn) (o : Ot) : Prop := silR r3 = r4 ∧ telR rs = [otR o] ∧ silR r3 ++ [otR o] = rs ∧ r4.length ≤ r3.length ∧ rs.length = r4.length + 1
theorem subF (r3 : List Rn) (o : Ot) : ∃ r4 rs, SubF r3 r4 rs o := by
  refine ⟨silR r3, silR r3 ++ [otR o], rfl, tel_put _ _, rfl, sil_len _, by simp⟩

/-- A subnet in a block. -/
def SnB (w : World) (b : Nat) (s : Sn) : Prop := ∃ x c, Bl 47 w b #[.int .i64 s.fam, .int .i64 s.src, .int .i64 s.scp, .slice x s.A.length c] ∧ Bys w x c s.A
theorem SnB.below {w w' : World} {b : Nat} {s : Sn} (m : SnB w b s) (k : Below w.heap.size w w') : SnB w' b s := by
  obtain ⟨x, c, kb, h⟩ := m
  exact ⟨x, c, kb.below k, h.below k⟩

set_option maxHeartbeats 8000000 in
set_option maxRecDepth 100000 in
theorem tsub_bad {xq x1 x2 x3 xs xa : Option Addr} {xcq xc1 xc2 xc3 xsc ca la : Nat} (h : Hd) (qs : List Qn) (r1 r2 r3 : List Rn) (s : Sn) (a : List Int) (w : World) (hq : Qs w 0 xq xcq qs) (hr1 : Rs w 0 x1 xc1 r1) (hr2 : Rs w 0 x2 xc2 r2) (hr3 : Rs w 0 x3 xc3 r3) (_l1 : r1.length * 72 ≤ 140737488355328) (_l2 : r2.length * 72 ≤ 140737488355328) (_l3 : (r3.length + 2) * 72 ≤ 140737488355328) (hs : Bys w xs xsc s.A) (ha : Bys w xa ca a) (hla : a.length = la) (hk : ¬ snE s = 0) :
    Calls Try.prog 4 #[.agg #[.int .i64 h.id, .bool h.an, .int .i64 h.op, .bool h.aa, .bool h.tc, .bool h.rd, .bool h.ra, .bool h.z, .bool h.ad, .bool h.cd, .int .i64 h.code, .slice xq qs.length xcq, .slice x1 r1.length xc1, .slice x2 r2.length xc2, .slice x3 r3.length xc3], .agg #[.int .i64 s.fam, .int .i64 s.src, .int .i64 s.scp, .slice xs s.A.length xsc], .slice xa la ca] w fun e w' => e = .returned (.bool true) ∧ Below w.heap.size w w' := by
  have HK := hid hk
  have HE := hid (errV_some hk)
  clear hk
  subst hla
  obtain ⟨k1, k2, k4⟩ := Bl.two 27 47 w #[.int .i64 h.id, .bool h.an, .int .i64 h.op, .bool h.aa, .bool h.tc, .bool h.rd, .bool h.ra, .bool h.z, .bool h.ad, .bool h.cd, .int .i64 h.code, .slice xq qs.length xcq, .slice x1 r1.length xc1, .slice x2 r2.length xc2, .slice x3 r3.length xc3] #[.int .i64 s.fam, .int .i64 s.src, .int .i64 s.scp, .slice xs s.A.length xsc]
  have MM : Hid (MsgB _ w.heap.size h qs r1 r2 r3) := hid ⟨xq, xcq, x1, xc1, x2, xc2, x3, xc3, k1, hq.below k4, hr1.below k4, hr2.below k4, hr3.below k4⟩
  have SS : Hid (SnB _ (w.heap.size + 1) s) := hid ⟨xs, xsc, k2, hs.below k4⟩
  have AA : Hid (Bys _ xa ca a) := hid (ha.below k4)
  have WW : Hid (Below w.heap.size w _) := hid k4
  have hsl : s.A.length ≤ 200000000000000 := hs.2.1
  clear k1 k2 k4 hq hr1 hr2 hr3 hs ha
  go_enter Try.func4, Try.ntmps4
  go_upto_region 1 with fail
  generalize (w.alloc (.cells #[.int .i64 h.id, .bool h.an, .int .i64 h.op, .bool h.aa, .bool h.tc, .bool h.rd, .bool h.ra, .bool h.z, .bool h.ad, .bool h.cd, .int .i64 h.code, .slice xq qs.length xcq, .slice x1 r1.length xc1, .slice x2 r2.length xc2, .slice x3 r3.length xc3] 27)).alloc (.cells #[.int .i64 s.fam, .int .i64 s.src, .int .i64 s.scp, .slice xs s.A.length xsc] 47) = w0 at *
  go_wp2_with fail
  refine (ksent_any w0).mono ?_
  rintro e w1 ⟨rfl, b1⟩
  replace MM := hid ((MM.out).below b1)
  replace SS := hid ((SS.out).below b1)
  replace AA := hid ((AA.out).below b1)
  replace WW := hid (grown_on WW.out b1)
  clear b1
  obtain ⟨us, usc, skb, sby⟩ := SS.out
  have s0 := skb.cell (i := 0) rfl
  have s1 := skb.cell (i := 1) rfl
  have s2 := skb.cell (i := 2) rfl
  have s3 := skb.cell (i := 3) rfl
  clear skb
  go_upto_region 4 with fail
  go_wp2_with fail
  refine (encode_bad s w1 rfl hsl HK.out).mono ?_
  rintro e w2 ⟨rfl, b2⟩
  rw [HE.out]
  replace WW := hid (grown_on WW.out b2)
  clear b2 s0 s1 s2 s3 sby
  go_wp2_with fail
  go_ret
  exact ⟨rfl, WW.out⟩

set_option maxHeartbeats 8000000 in
set_option maxRecDepth 100000 in
theorem tsub_full {xq x1 x2 x3 xs xa : Option Addr} {xcq xc1 xc2 xc3 xsc ca la : Nat} (h : Hd) (qs : List Qn) (r1 r2 r3 : List Rn) (s : Sn) (a : List Int) (w : World) (hq : Qs w 0 xq xcq qs) (hr1 : Rs w 0 x1 xc1 r1) (hr2 : Rs w 0 x2 xc2 r2) (hr3 : Rs w 0 x3 xc3 r3) (l1 : r1.length * 72 ≤ 140737488355328) (l2 : r2.length * 72 ≤ 140737488355328) (l3 : (r3.length + 2) * 72 ≤ 140737488355328) (hs : Bys w xs xsc s.A) (ha : Bys w xa ca a) (hla : a.length = la) (hk : snE s = 0) (hE : ∀ B, encB s = B → ∀ rs, silR r3 ++ [otR (⟨1232, 0, 0, false, 0, [⟨8, B⟩]⟩ : Ot)] = rs → ¬ msgE h qs r1 r2 rs = 0) :
    Calls Try.prog 4 #[.agg #[.int .i64 h.id, .bool h.an, .int .i64 h.op, .bool h.aa, .bool h.tc, .bool h.rd, .bool h.ra, .bool h.z, .bool h.ad, .bool h.cd, .int .i64 h.code, .slice xq qs.length xcq, .slice x1 r1.length xc1, .slice x2 r2.length xc2, .slice x3 r3.length xc3], .agg #[.int .i64 s.fam, .int .i64 s.src, .int .i64 s.scp, .slice xs s.A.length xsc], .slice xa la ca] w fun e w' => e = .returned (.bool true) ∧ Below w.heap.size w w' := by
  obtain ⟨B, hB⟩ : ∃ B, encB s = B := ⟨_, rfl⟩
  have HEB := hid hB
  have hb20 : B.length ≤ 20 := by rw [← hB]; exact sub_len hk
  obtain ⟨r4, rs, s0, t1, e1, n1, n2⟩ := subF r3 (⟨1232, 0, 0, false, 0, [⟨8, B⟩]⟩ : Ot)
  have S0 := hid s0
  have T1 := hid t1
  have HRS := hid e1
  have N1 := hid n1
  have N2 := hid n2
  have L1 := hid l1
  have L2 := hid l2
  have L3 := hid l3
  have HK := hid hk
  have HO := hid (sub_opt hb20)
  have HE := hid (hE B hB rs e1)
  clear s0 t1 e1 n1 n2 l1 l2 l3 hk hB hE
  subst hla
  obtain ⟨k1, k2, k4⟩ := Bl.two 27 47 w #[.int .i64 h.id, .bool h.an, .int .i64 h.op, .bool h.aa, .bool h.tc, .bool h.rd, .bool h.ra, .bool h.z, .bool h.ad, .bool h.cd, .int .i64 h.code, .slice xq qs.length xcq, .slice x1 r1.length xc1, .slice x2 r2.length xc2, .slice x3 r3.length xc3] #[.int .i64 s.fam, .int .i64 s.src, .int .i64 s.scp, .slice xs s.A.length xsc]
  have MM : Hid (MsgB _ w.heap.size h qs r1 r2 r3) := hid ⟨xq, xcq, x1, xc1, x2, xc2, x3, xc3, k1, hq.below k4, hr1.below k4, hr2.below k4, hr3.below k4⟩
  have SS : Hid (SnB _ (w.heap.size + 1) s) := hid ⟨xs, xsc, k2, hs.below k4⟩
  have AA : Hid (Bys _ xa ca a) := hid (ha.below k4)
  have WW : Hid (Below w.heap.size w _) := hid k4
  have hsl : s.A.length ≤ 200000000000000 := hs.2.1
  clear k1 k2 k4 hq hr1 hr2 hr3 hs ha
  go_enter Try.func4, Try.ntmps4
  go_upto_region 1 with fail
  generalize (w.alloc (.cells #[.int .i64 h.id, .bool h.an, .int .i64 h.op, .bool h.aa, .bool h.tc, .bool h.rd, .bool h.ra, .bool h.z, .bool h.ad, .bool h.cd, .int .i64 h.code, .slice xq qs.length xcq, .slice x1 r1.length xc1, .slice x2 r2.length xc2, .slice x3 r3.length xc3] 27)).alloc (.cells #[.int .i64 s.fam, .int .i64 s.src, .int .i64 s.scp, .slice xs s.A.length xsc] 47) = w0 at *
  go_wp2_with fail
  refine (ksent_any w0).mono ?_
  rintro e w1 ⟨rfl, b1⟩
  replace MM := hid ((MM.out).below b1)
  replace SS := hid ((SS.out).below b1)
  replace AA := hid ((AA.out).below b1)
  replace WW := hid (grown_on WW.out b1)
  clear b1
  obtain ⟨us, usc, skb, sby⟩ := SS.out
  have s0 := skb.cell (i := 0) rfl
  have s1 := skb.cell (i := 1) rfl
  have s2 := skb.cell (i := 2) rfl
  have s3 := skb.cell (i := 3) rfl
  clear skb
  go_upto_region 4 with fail
  go_wp2_with fail
  refine (encode_good s w1 sby rfl HK.out).mono ?_
  rintro e w2 ⟨eb, eo, ec, rfl, hby, _, b2⟩
  rw [HEB.out] at hby ⊢
  have BB := hid hby
  replace MM := hid ((MM.out).below b2)
  replace SS := hid ((SS.out).below b2)
  replace AA := hid ((AA.out).below b2)
  replace WW := hid (grown_on WW.out b2)
  clear b2 hby s0 s1 s2 s3 sby
  obtain ⟨yq, ycq, y1, yc1, y2, yc2, y3, yc3, ykb, yh0, yh1, yh2, yh3⟩ := MM.out
  have RM := hid (Bl.range [.int .i64 h.id, .bool h.an, .int .i64 h.op, .bool h.aa, .bool h.tc, .bool h.rd, .bool h.ra, .bool h.z, .bool h.ad, .bool h.cd, .int .i64 h.code, .slice yq qs.length ycq, .slice y1 r1.length yc1, .slice y2 r2.length yc2, .slice y3 r3.length yc3] ykb)
  clear ykb
  go_upto_region 7 with fail
  have OS := hid (sub_rows BB.out (fun q => by cases q))
  have bo := (Below.refl w2.heap.size w2).alloc (Nat.le_refl _) (.cells #[.int .i64 8, .slice (some ⟨eb, eo, none⟩) B.length ec] 50)
  have BO := hid bo
  clear bo
  go_wp2_with (first
    | (refine wpList_load_mid rfl 27 _ rfl w.heap.size 0 rfl [.int .i64 h.id, .bool h.an, .int .i64 h.op, .bool h.aa, .bool h.tc, .bool h.rd, .bool h.ra, .bool h.z, .bool h.ad, .bool h.cd, .int .i64 h.code, .slice yq qs.length ycq, .slice y1 r1.length yc1, .slice y2 r2.length yc2, .slice y3 r3.length yc3] _ RM.out Try.underlying27 rfl size_message ?_)
    | fail)
  refine (set_put h qs r1 r2 r3 rs (⟨1232, 0, 0, false, 0, [⟨8, B⟩]⟩ : Ot) _ (yh0.below BO.out) (yh1.below BO.out) (yh2.below BO.out) (yh3.below BO.out) L1.out L2.out (by have := L3.out; omega) OS.out HO.out HRS.out).mono ?_
  rintro e w3 ⟨tq, tcq, t1, tc1, t2, tc2, t3, tc3, rfl, q0, q1, q2, q3, b3'⟩
  have b3 : Below w2.heap.size w2 w3 := grown_on BO.out b3'
  have XX := hid (MsgB.new (w := w3) h q0 q1 q2 q3)
  have ba := (Below.refl w3.heap.size w3).alloc (Nat.le_refl _) (.cells #[.int .i64 h.id, .bool h.an, .int .i64 h.op, .bool h.aa, .bool h.tc, .bool h.rd, .bool h.ra, .bool h.z, .bool h.ad, .bool h.cd, .int .i64 h.code, .slice tq qs.length tcq, .slice t1 r1.length tc1, .slice t2 r2.length tc2, .slice t3 rs.length tc3] 27)
  replace SS := hid (((SS.out).below b3).below ba)
  replace AA := hid (((AA.out).below b3).below ba)
  replace WW := hid (grown_on (grown_on WW.out b3) ba)
  clear b3 b3' ba BO q0 q1 q2 q3 yh0 yh1 yh2 yh3 RM MM BB OS
  go_upto_region 8 with fail
  generalize w3.alloc (.cells #[.int .i64 h.id, .bool h.an, .int .i64 h.op, .bool h.aa, .bool h.tc, .bool h.rd, .bool h.ra, .bool h.z, .bool h.ad, .bool h.cd, .int .i64 h.code, .slice tq qs.length tcq, .slice t1 r1.length tc1, .slice t2 r2.length tc2, .slice t3 rs.length tc3] 27) = w4 at *
  generalize w3.heap.size = bx at *
  obtain ⟨yq, ycq, y1, yc1, y2, yc2, y3, yc3, ykb, yh0, yh1, yh2, yh3⟩ := XX.out
  have RX := hid (Bl.range [.int .i64 h.id, .bool h.an, .int .i64 h.op, .bool h.aa, .bool h.tc, .bool h.rd, .bool h.ra, .bool h.z, .bool h.ad, .bool h.cd, .int .i64 h.code, .slice yq qs.length ycq, .slice y1 r1.length yc1, .slice y2 r2.length yc2, .slice y3 rs.length yc3] ykb)
  clear ykb
  go_upto_region 10 with fail
  go_wp2_with (first
    | (refine wpList_load_mid rfl 27 _ rfl bx 0 rfl [.int .i64 h.id, .bool h.an, .int .i64 h.op, .bool h.aa, .bool h.tc, .bool h.rd, .bool h.ra, .bool h.z, .bool h.ad, .bool h.cd, .int .i64 h.code, .slice yq qs.length ycq, .slice y1 r1.length yc1, .slice y2 r2.length yc2, .slice y3 rs.length yc3] _ RX.out Try.underlying27 rfl size_message ?_)
    | fail)
  refine (mwrite_no h qs r1 r2 rs w4 yh0 yh1 yh2 yh3 HE.out).mono ?_
  rintro e w5 ⟨rfl, b4⟩
  replace WW := hid (grown_on WW.out b4)
  clear b4 yh0 yh1 yh2 yh3 RX
  go_wp2_with fail
  go_ret
  exact ⟨rfl, WW.out⟩

set_option maxHeartbeats 8000000 in
set_option maxRecDepth 100000 in
theorem tsub_good {xq x1 x2 x3 xs xa : Option Addr} {xcq xc1 xc2 xc3 xsc ca la : Nat} (h : Hd) (qs : List Qn) (r1 r2 r3 : List Rn) (s : Sn) (a : List Int) (w : World) (hq : Qs w 0 xq xcq qs) (hr1 : Rs w 0 x1 xc1 r1) (hr2 : Rs w 0 x2 xc2 r2) (hr3 : Rs w 0 x3 xc3 r3) (l1 : r1.length * 72 ≤ 140737488355328) (l2 : r2.length * 72 ≤ 140737488355328) (l3 : (r3.length + 2) * 72 ≤ 140737488355328) (hs : Bys w xs xsc s.A) (ha : Bys w xa ca a) (hla : a.length = la) (hk : snE s = 0) (hE : ∀ B, encB s = B → ∀ rs, silR r3 ++ [otR (⟨1232, 0, 0, false, 0, [⟨8, B⟩]⟩ : Ot)] = rs → msgE h qs r1 r2 rs = 0) :
    Calls Try.prog 4 #[.agg #[.int .i64 h.id, .bool h.an, .int .i64 h.op, .bool h.aa, .bool h.tc, .bool h.rd, .bool h.ra, .bool h.z, .bool h.ad, .bool h.cd, .int .i64 h.code, .slice xq qs.length xcq, .slice x1 r1.length xc1, .slice x2 r2.length xc2, .slice x3 r3.length xc3], .agg #[.int .i64 s.fam, .int .i64 s.src, .int .i64 s.scp, .slice xs s.A.length xsc], .slice xa la ca] w fun e w' => e = .returned (.bool true) ∧ Below w.heap.size w w' := by
  obtain ⟨B, hB⟩ : ∃ B, encB s = B := ⟨_, rfl⟩
  have HEB := hid hB
  have hb20 : B.length ≤ 20 := by rw [← hB]; exact sub_len hk
  obtain ⟨r4, rs, s0, t1, e1, n1, n2⟩ := subF r3 (⟨1232, 0, 0, false, 0, [⟨8, B⟩]⟩ : Ot)
  have S0 := hid s0
  have T1 := hid t1
  have HRS := hid e1
  have N1 := hid n1
  have N2 := hid n2
  have L1 := hid l1
  have L2 := hid l2
  have L3 := hid l3
  have HK := hid hk
  have HO := hid (sub_opt hb20)
  have HE := hid (hE B hB rs e1)
  clear s0 t1 e1 n1 n2 l1 l2 l3 hk hB hE
  subst hla
  have sbb : Hid (∀ b ∈ s.A, 0 ≤ b ∧ b ≤ 255) := hid hs.2.2.1
  obtain ⟨k1, k2, k4⟩ := Bl.two 27 47 w #[.int .i64 h.id, .bool h.an, .int .i64 h.op, .bool h.aa, .bool h.tc, .bool h.rd, .bool h.ra, .bool h.z, .bool h.ad, .bool h.cd, .int .i64 h.code, .slice xq qs.length xcq, .slice x1 r1.length xc1, .slice x2 r2.length xc2, .slice x3 r3.length xc3] #[.int .i64 s.fam, .int .i64 s.src, .int .i64 s.scp, .slice xs s.A.length xsc]
  have MM : Hid (MsgB _ w.heap.size h qs r1 r2 r3) := hid ⟨xq, xcq, x1, xc1, x2, xc2, x3, xc3, k1, hq.below k4, hr1.below k4, hr2.below k4, hr3.below k4⟩
  have SS : Hid (SnB _ (w.heap.size + 1) s) := hid ⟨xs, xsc, k2, hs.below k4⟩
  have AA : Hid (Bys _ xa ca a) := hid (ha.below k4)
  have WW : Hid (Below w.heap.size w _) := hid k4
  have hsl : s.A.length ≤ 200000000000000 := hs.2.1
  clear k1 k2 k4 hq hr1 hr2 hr3 hs ha
  go_enter Try.func4, Try.ntmps4
  go_upto_region 1 with fail
  generalize (w.alloc (.cells #[.int .i64 h.id, .bool h.an, .int .i64 h.op, .bool h.aa, .bool h.tc, .bool h.rd, .bool h.ra, .bool h.z, .bool h.ad, .bool h.cd, .int .i64 h.code, .slice xq qs.length xcq, .slice x1 r1.length xc1, .slice x2 r2.length xc2, .slice x3 r3.length xc3] 27)).alloc (.cells #[.int .i64 s.fam, .int .i64 s.src, .int .i64 s.scp, .slice xs s.A.length xsc] 47) = w0 at *
  go_wp2_with fail
  refine (ksent_any w0).mono ?_
  rintro e w1 ⟨rfl, b1⟩
  replace MM := hid ((MM.out).below b1)
  replace SS := hid ((SS.out).below b1)
  replace AA := hid ((AA.out).below b1)
  replace WW := hid (grown_on WW.out b1)
  clear b1
  obtain ⟨us, usc, skb, sby⟩ := SS.out
  have s0 := skb.cell (i := 0) rfl
  have s1 := skb.cell (i := 1) rfl
  have s2 := skb.cell (i := 2) rfl
  have s3 := skb.cell (i := 3) rfl
  clear skb
  go_upto_region 4 with fail
  go_wp2_with fail
  refine (encode_good s w1 sby rfl HK.out).mono ?_
  rintro e w2 ⟨eb, eo, ec, rfl, hby, _, b2⟩
  rw [HEB.out] at hby ⊢
  have BB := hid hby
  replace MM := hid ((MM.out).below b2)
  replace SS := hid ((SS.out).below b2)
  replace AA := hid ((AA.out).below b2)
  replace WW := hid (grown_on WW.out b2)
  clear b2 hby s0 s1 s2 s3 sby
  obtain ⟨yq, ycq, y1, yc1, y2, yc2, y3, yc3, ykb, yh0, yh1, yh2, yh3⟩ := MM.out
  have RM := hid (Bl.range [.int .i64 h.id, .bool h.an, .int .i64 h.op, .bool h.aa, .bool h.tc, .bool h.rd, .bool h.ra, .bool h.z, .bool h.ad, .bool h.cd, .int .i64 h.code, .slice yq qs.length ycq, .slice y1 r1.length yc1, .slice y2 r2.length yc2, .slice y3 r3.length yc3] ykb)
  clear ykb
  go_upto_region 7 with fail
  have OS := hid (sub_rows BB.out (fun q => by cases q))
  have bo := (Below.refl w2.heap.size w2).alloc (Nat.le_refl _) (.cells #[.int .i64 8, .slice (some ⟨eb, eo, none⟩) B.length ec] 50)
  have BO := hid bo
  clear bo
  go_wp2_with (first
    | (refine wpList_load_mid rfl 27 _ rfl w.heap.size 0 rfl [.int .i64 h.id, .bool h.an, .int .i64 h.op, .bool h.aa, .bool h.tc, .bool h.rd, .bool h.ra, .bool h.z, .bool h.ad, .bool h.cd, .int .i64 h.code, .slice yq qs.length ycq, .slice y1 r1.length yc1, .slice y2 r2.length yc2, .slice y3 r3.length yc3] _ RM.out Try.underlying27 rfl size_message ?_)
    | fail)
  refine (set_put h qs r1 r2 r3 rs (⟨1232, 0, 0, false, 0, [⟨8, B⟩]⟩ : Ot) _ (yh0.below BO.out) (yh1.below BO.out) (yh2.below BO.out) (yh3.below BO.out) L1.out L2.out (by have := L3.out; omega) OS.out HO.out HRS.out).mono ?_
  rintro e w3 ⟨tq, tcq, t1, tc1, t2, tc2, t3, tc3, rfl, q0, q1, q2, q3, b3'⟩
  have b3 : Below w2.heap.size w2 w3 := grown_on BO.out b3'
  have XX := hid (MsgB.new (w := w3) h q0 q1 q2 q3)
  have ba := (Below.refl w3.heap.size w3).alloc (Nat.le_refl _) (.cells #[.int .i64 h.id, .bool h.an, .int .i64 h.op, .bool h.aa, .bool h.tc, .bool h.rd, .bool h.ra, .bool h.z, .bool h.ad, .bool h.cd, .int .i64 h.code, .slice tq qs.length tcq, .slice t1 r1.length tc1, .slice t2 r2.length tc2, .slice t3 rs.length tc3] 27)
  replace SS := hid (((SS.out).below b3).below ba)
  replace AA := hid (((AA.out).below b3).below ba)
  replace WW := hid (grown_on (grown_on WW.out b3) ba)
  clear b3 b3' ba BO q0 q1 q2 q3 yh0 yh1 yh2 yh3 RM MM BB OS
  go_upto_region 8 with fail
  generalize w3.alloc (.cells #[.int .i64 h.id, .bool h.an, .int .i64 h.op, .bool h.aa, .bool h.tc, .bool h.rd, .bool h.ra, .bool h.z, .bool h.ad, .bool h.cd, .int .i64 h.code, .slice tq qs.length tcq, .slice t1 r1.length tc1, .slice t2 r2.length tc2, .slice t3 rs.length tc3] 27) = w4 at *
  generalize w3.heap.size = bx at *
  obtain ⟨yq, ycq, y1, yc1, y2, yc2, y3, yc3, ykb, yh0, yh1, yh2, yh3⟩ := XX.out
  have RX := hid (Bl.range [.int .i64 h.id, .bool h.an, .int .i64 h.op, .bool h.aa, .bool h.tc, .bool h.rd, .bool h.ra, .bool h.z, .bool h.ad, .bool h.cd, .int .i64 h.code, .slice yq qs.length ycq, .slice y1 r1.length yc1, .slice y2 r2.length yc2, .slice y3 rs.length yc3] ykb)
  clear ykb
  go_upto_region 10 with fail
  go_wp2_with (first
    | (refine wpList_load_mid rfl 27 _ rfl bx 0 rfl [.int .i64 h.id, .bool h.an, .int .i64 h.op, .bool h.aa, .bool h.tc, .bool h.rd, .bool h.ra, .bool h.z, .bool h.ad, .bool h.cd, .int .i64 h.code, .slice yq qs.length ycq, .slice y1 r1.length yc1, .slice y2 r2.length yc2, .slice y3 rs.length yc3] _ RX.out Try.underlying27 rfl size_message ?_)
    | fail)
  have BK := hid (msg_back HE.out (rs_data yh1 yh2 yh3))
  have hFl0 : (endS h qs r1 r2 rs).1.length ≤ 65535 := (msgE_zero HE.out).2.2.2.2
  refine (mwrite_ok h qs r1 r2 rs w4 yh0 yh1 yh2 yh3 HE.out).mono ?_
  rintro e w5 ⟨x5, c5, rfl, hrow, b4⟩
  obtain ⟨F, hF⟩ : ∃ F, (endS h qs r1 r2 rs).1 = F := ⟨_, rfl⟩
  rw [hF] at BK hrow hFl0 ⊢
  obtain ⟨xx, cc, e2, hby⟩ := rowb_bys hrow (by omega) BK.out.2.2
  simp only [Value.slice.injEq, true_and] at e2
  obtain ⟨rfl, rfl⟩ := e2
  have BYS := hid hby
  replace SS := hid ((SS.out).below b4)
  replace AA := hid ((AA.out).below b4)
  replace WW := hid (grown_on WW.out b4)
  clear b4 hrow hby hF yh0 yh1 yh2 yh3 RX XX
  go_upto_region 13 with fail
  go_wp2_with fail
  refine (mread_good F _ BYS.out rfl BK.out.1).mono ?_
  rintro e w6 ⟨vq, vcq, v1, vc1, v2, vc2, v3, vc3, rfl, t0, t1, t2, t3, b5⟩
  rw [BK.out.2.1]
  have YY := hid (MsgB.new (w := w6) h (t0.base (Nat.zero_le _)) (t1.base (Nat.zero_le _)) (t2.base (Nat.zero_le _)) (t3.base (Nat.zero_le _)))
  have ba := (Below.refl w6.heap.size w6).alloc (Nat.le_refl _) (.cells #[.int .i64 h.id, .bool h.an, .int .i64 h.op, .bool h.aa, .bool h.tc, .bool h.rd, .bool h.ra, .bool h.z, .bool h.ad, .bool h.cd, .int .i64 h.code, .slice vq qs.length vcq, .slice v1 r1.length vc1, .slice v2 r2.length vc2, .slice v3 rs.length vc3] 27)
  replace SS := hid (((SS.out).below b5).below ba)
  replace AA := hid (((AA.out).below b5).below ba)
  replace WW := hid (grown_on (grown_on WW.out b5) ba)
  clear b5 ba t0 t1 t2 t3 BYS BK
  go_upto_region 14 with fail
  generalize w6.alloc (.cells #[.int .i64 h.id, .bool h.an, .int .i64 h.op, .bool h.aa, .bool h.tc, .bool h.rd, .bool h.ra, .bool h.z, .bool h.ad, .bool h.cd, .int .i64 h.code, .slice vq qs.length vcq, .slice v1 r1.length vc1, .slice v2 r2.length vc2, .slice v3 rs.length vc3] 27) = w7 at *
  generalize w6.heap.size = bY at *
  obtain ⟨yq, ycq, y1, yc1, y2, yc2, y3, yc3, ykb, yh0, yh1, yh2, yh3⟩ := YY.out
  have RY := hid (Bl.range [.int .i64 h.id, .bool h.an, .int .i64 h.op, .bool h.aa, .bool h.tc, .bool h.rd, .bool h.ra, .bool h.z, .bool h.ad, .bool h.cd, .int .i64 h.code, .slice yq qs.length ycq, .slice y1 r1.length yc1, .slice y2 r2.length yc2, .slice y3 rs.length yc3] ykb)
  clear ykb
  go_wp2_with (first
    | (refine wpList_load_mid rfl 27 _ rfl bY 0 rfl [.int .i64 h.id, .bool h.an, .int .i64 h.op, .bool h.aa, .bool h.tc, .bool h.rd, .bool h.ra, .bool h.z, .bool h.ad, .bool h.cd, .int .i64 h.code, .slice yq qs.length ycq, .slice y1 r1.length yc1, .slice y2 r2.length yc2, .slice y3 rs.length yc3] _ RY.out Try.underlying27 rfl size_message ?_)
    | fail)
  refine (find_put h rs (⟨1232, 0, 0, false, 0, [⟨8, B⟩]⟩ : Ot) w7 yh3 rfl T1.out HO.out (by have := L3.out; have := N1.out; have := N2.out; omega)).mono ?_
  rintro e w8 ⟨fo, foc, rfl, q0, b7⟩
  have FF := hid (OptB.new (w := w8) (⟨1232, 0, 0, false, 0, [⟨8, B⟩]⟩ : Ot) q0)
  have ba := (Below.refl w8.heap.size w8).alloc (Nat.le_refl _) (.cells #[.int .i64 1232, .int .i64 0, .int .i64 0, .bool false, .int .i64 0, .slice fo 1 foc] 30)
  replace SS := hid (((SS.out).below b7).below ba)
  replace AA := hid (((AA.out).below b7).below ba)
  replace WW := hid (grown_on (grown_on WW.out b7) ba)
  clear b7 ba q0 yh0 yh1 yh2 yh3 RY YY
  go_upto_region 15 with fail
  generalize w8.alloc (.cells #[.int .i64 1232, .int .i64 0, .int .i64 0, .bool false, .int .i64 0, .slice fo 1 foc] 30) = w9 at *
  generalize w8.heap.size = bf at *
  obtain ⟨vo, voc, vokb, voho⟩ := FF.out
  obtain ⟨ob, oo, oz, ot, rfl, _, d0, d1, obs, _⟩ := voho.at (i := 0) (by simp)
  have f5 : w9.cell? ⟨bf, 5, none⟩ = some (.slice (some ⟨ob, oo, none⟩) 1 voc) := vokb.cell (i := 5) rfl
  have d0' : w9.cell? ⟨ob, oo, none⟩ = some (.int .i64 8) := by simpa using d0
  have d1' : w9.cell? ⟨ob, oo + 1, none⟩ = some (.slice oz B.length ot) := by simpa using d1
  have OBS : Hid (Bys w9 oz ot B) := hid obs
  clear vokb voho d0 d1 obs FF
  go_upto_region 17 with fail
  have HBB := hid (encB_bytes HK.out sbb.out)
  have HDE := hid (dec_enc HK.out sbb.out)
  rw [HEB.out] at HDE
  go_wp2_with fail
  refine (sub_decode OBS.out rfl HDE.out.1 HDE.out.2).mono ?_
  rintro e w10 ⟨g, gd, rfl, gby, b8⟩
  have ba := (Below.refl w10.heap.size w10).alloc (Nat.le_refl _) (.cells #[.int .i64 s.fam, .int .i64 s.src, .int .i64 s.scp, .slice (some ⟨g, 0, none⟩) (maskN s.src.toNat s.A).length gd] 47)
  have TT : Hid (SnB _ w10.heap.size ⟨s.fam, s.src, s.scp, maskN s.src.toNat s.A⟩) := hid ⟨some ⟨g, 0, none⟩, gd, Bl.new 47 w10 #[.int .i64 s.fam, .int .i64 s.src, .int .i64 s.scp, .slice (some ⟨g, 0, none⟩) (maskN s.src.toNat s.A).length gd], gby.below ba⟩
  replace SS := hid (((SS.out).below b8).below ba)
  replace AA := hid (((AA.out).below b8).below ba)
  replace WW := hid (grown_on (grown_on WW.out b8) ba)
  clear b8 ba gby OBS f5 d0' d1'
  have SI : Hid (decide (inN a ⟨s.fam, s.src, s.scp, maskN s.src.toNat s.A⟩) = decide (inN a s)) := hid (sub_in HK.out sbb.out)
  go_upto_region 18 with fail
  generalize hM : maskN s.src.toNat s.A = MA at *
  generalize w10.alloc (.cells #[.int .i64 s.fam, .int .i64 s.src, .int .i64 s.scp, .slice (some ⟨g, 0, none⟩) MA.length gd] 47) = w11 at *
  generalize w10.heap.size = bt at *
  obtain ⟨us, usc, skb, sby⟩ := SS.out
  obtain ⟨ut, utc, tkb, tby⟩ := TT.out
  have m0 : ∀ s' : Olds w11, s'.val.cell? ⟨w.heap.size + 1, 0, none⟩ = some (.int .i64 s.fam) := fun s' => (skb.below s'.keeps).cell (i := 0) rfl
  have m1 : ∀ s' : Olds w11, s'.val.cell? ⟨w.heap.size + 1, 1, none⟩ = some (.int .i64 s.src) := fun s' => (skb.below s'.keeps).cell (i := 1) rfl
  have m2 : ∀ s' : Olds w11, s'.val.cell? ⟨w.heap.size + 1, 2, none⟩ = some (.int .i64 s.scp) := fun s' => (skb.below s'.keeps).cell (i := 2) rfl
  have m3 : ∀ s' : Olds w11, s'.val.cell? ⟨w.heap.size + 1, 3, none⟩ = some (.slice us s.A.length usc) := fun s' => (skb.below s'.keeps).cell (i := 3) rfl
  have n0 : ∀ s' : Olds w11, s'.val.cell? ⟨bt, 0, none⟩ = some (.int .i64 s.fam) := fun s' => (tkb.below s'.keeps).cell (i := 0) rfl
  have n1 : ∀ s' : Olds w11, s'.val.cell? ⟨bt, 1, none⟩ = some (.int .i64 s.src) := fun s' => (tkb.below s'.keeps).cell (i := 1) rfl
  have n2 : ∀ s' : Olds w11, s'.val.cell? ⟨bt, 2, none⟩ = some (.int .i64 s.scp) := fun s' => (tkb.below s'.keeps).cell (i := 2) rfl
  have n3 : ∀ s' : Olds w11, s'.val.cell? ⟨bt, 3, none⟩ = some (.slice ut MA.length utc) := fun s' => (tkb.below s'.keeps).cell (i := 3) rfl
  have hNe : Nonempty (Olds w11) := ⟨⟨w11, Below.refl _ _⟩⟩
  obtain ⟨RR, hRR⟩ : ∃ RR, decide (inN a s) = RR := ⟨_, rfl⟩
  rw [hRR] at SI
  have CX := hid (fun (u : World) (hu : Below w11.heap.size w11 u) => in_at RR a ⟨s.fam, s.src, s.scp, MA⟩ u (AA.out.below hu) (tby.below hu) rfl rfl SI.out)
  have CM := hid (fun (u : World) (hu : Below w11.heap.size w11 u) => in_at RR a s u (AA.out.below hu) (sby.below hu) rfl rfl hRR)
  clear skb tkb sby tby hRR hM SI
  refine wp_region_fork [0, 1, 2, 3, 4, 5, 6, 7, 8, 9, 10, 11, 12, 13, 14, 15, 16, 17, 18, 20, 21] (.one 19 (.one 22 (.one 23 (.one 24 (.one 25 .nil))))) (fun u => ∃ s' : Olds w11, u = s'.val) (by kernel_rfl) (by kernel_rfl) (by kernel_rfl) ⟨⟨w11.drew, (Below.refl _ _).drew⟩, rfl⟩ ?_
  change wpQuiet _ _ _ _ [_, _, _, _, _, _, _, _, _, _, _, _, _, _, _, _, _, _, _, _, _] _
  repeat (go_big_quiet_step (fail))
  refine wpQuiet_nil ?_
  clear hNe m0 m1 m2 m3 n0 n1 n2 n3
  have HB := (Below.refl w11.heap.size w11).drew
  change stepL _ _ _ _ _ _ _ _ _
  refine stepL_at (by rfl) fun K Q' hK => ?_
  go_simp
  refine (CX.out _ HB).mono ?_
  rintro e w12 ⟨rfl, bu⟩
  replace HB := HB.trans (bu.mono HB.size)
  refine hK _ _ (fun _ => ⟨⟨_, HB⟩, rfl⟩) ?_
  clear hK bu
  change stepL _ _ _ _ _ _ _ _ _
  refine stepL_at (by rfl) fun K Q' hK => ?_
  go_simp
  refine (CM.out _ HB).mono ?_
  rintro e w13 ⟨rfl, bu⟩
  replace HB := HB.trans (bu.mono HB.size)
  refine hK _ _ (fun _ => ⟨⟨_, HB⟩, rfl⟩) ?_
  clear hK bu CX CM
  change stepL _ _ _ _ _ _ _ _ _
  refine stepL_at (by rfl) fun K Q' hK => ?_
  go_simp
  refine hK _ _ (fun _ => ⟨⟨_, HB⟩, rfl⟩) ?_
  clear hK
  change stepL _ _ _ _ _ _ _ _ _
  refine stepL_at (by rfl) fun K Q' hK => ?_
  go_simp
  refine hK _ _ (fun _ => ⟨⟨_, HB⟩, rfl⟩) ?_
  clear hK
  change stepL _ _ _ _ _ _ _ _ _
  refine stepL_at (by rfl) fun K Q' hK => ?_
  go_simp
  refine hK _ _ (fun _ => ⟨⟨_, HB⟩, rfl⟩) ?_
  clear hK
  refine treeL_nil ?_
  replace WW := hid (grown_on WW.out HB)
  clear HB
  go_wp2_with fail
  go_ret
  exact ⟨rfl, WW.out⟩

theorem tsub_walk {xq x1 x2 x3 xs xa : Option Addr} {xcq xc1 xc2 xc3 xsc ca la : Nat} (h : Hd) (qs : List Qn) (r1 r2 r3 : List Rn) (s : Sn) (a : List Int) (w : World) (hq : Qs w 0 xq xcq qs) (hr1 : Rs w 0 x1 xc1 r1) (hr2 : Rs w 0 x2 xc2 r2) (hr3 : Rs w 0 x3 xc3 r3) (l1 : r1.length * 72 ≤ 140737488355328) (l2 : r2.length * 72 ≤ 140737488355328) (l3 : (r3.length + 2) * 72 ≤ 140737488355328) (hs : Bys w xs xsc s.A) (ha : Bys w xa ca a) (hla : a.length = la) :
    Calls Try.prog 4 #[.agg #[.int .i64 h.id, .bool h.an, .int .i64 h.op, .bool h.aa, .bool h.tc, .bool h.rd, .bool h.ra, .bool h.z, .bool h.ad, .bool h.cd, .int .i64 h.code, .slice xq qs.length xcq, .slice x1 r1.length xc1, .slice x2 r2.length xc2, .slice x3 r3.length xc3], .agg #[.int .i64 s.fam, .int .i64 s.src, .int .i64 s.scp, .slice xs s.A.length xsc], .slice xa la ca] w fun e w' => e = .returned (.bool true) ∧ Below w.heap.size w w' := by
  by_cases hk : snE s = 0
  · by_cases hE : msgE h qs r1 r2 (silR r3 ++ [otR ⟨1232, 0, 0, false, 0, [⟨8, encB s⟩]⟩]) = 0
    · exact tsub_good h qs r1 r2 r3 s a w hq hr1 hr2 hr3 l1 l2 l3 hs ha hla hk (fun B e1 rs e2 => by subst e1; subst e2; exact hE)
    · exact tsub_full h qs r1 r2 r3 s a w hq hr1 hr2 hr3 l1 l2 l3 hs ha hla hk (fun B e1 rs e2 => by subst e1; subst e2; exact hE)
  · exact tsub_bad h qs r1 r2 r3 s a w hq hr1 hr2 hr3 l1 l2 l3 hs ha hla hk

end Go.Proofs.Ytpmbbaacpnooeaa
