/-
  Plain: the first bits of an address, a subnet's bytes, who is in a subnet.
-/
import Derived.Test.YtnbabdfcamdapaaRr
namespace Go.Proofs.Ytnbabdfcamdapaa
open Go.RowKit Go.Deep

/-- The first bits of a byte. -/
def topB (k : Nat) (x : Int) : Int := x / 2 ^ (8 - k) * 2 ^ (8 - k)

/-- The first bits of an address. -/
def maskN : Nat → List Int → List Int
  | _, [] => []
  | n, x :: xs => topB (min 8 n) x :: maskN (n - 8) xs

theorem maskN_len (n : Nat) (xs : List Int) : (maskN n xs).length = xs.length := by
  induction xs generalizing n with
  | nil => rfl
  | cons x xs ih => simp [maskN, ih]

theorem topB_zero (k : Nat) : topB k 0 = 0 := by simp [topB]

theorem topB_eight (x : Int) : topB 8 x = x := by simp [topB]

theorem topB_none (x : Int) (h0 : 0 ≤ x) (h1 : x ≤ 255) : topB 0 x = 0 := by
  have : x / 2 ^ (8 - 0) = 0 := Int.ediv_eq_zero_of_lt h0 (by omega)
  unfold topB
  rw [this, Int.zero_mul]

theorem topB_byte (k : Nat) (x : Int) (h0 : 0 ≤ x) (h1 : x ≤ 255) : 0 ≤ topB k x ∧ topB k x ≤ 255 := by
  have hp : (0 : Int) < 2 ^ (8 - k) := Int.pow_pos (by omega)
  have h2 := Int.ediv_mul_le x (Int.ne_of_gt hp)
  refine ⟨Int.mul_nonneg (Int.ediv_nonneg h0 (Int.le_of_lt hp)) (Int.le_of_lt hp), ?_⟩
  unfold topB
  omega

theorem topB_topB (a b : Nat) (x : Int) : topB a (topB b x) = topB (min a b) x := by
  have ha : (0 : Int) < 2 ^ (8 - a) := Int.pow_pos (by omega)
  have hb : (0 : Int) < 2 ^ (8 - b) := Int.pow_pos (by omega)
  unfold topB
  rcases Nat.le_total a b with h | h
  · rw [Nat.min_eq_left h]
    have e : (2 : Int) ^ (8 - a) = 2 ^ (8 - b) * 2 ^ ((8 - a) - (8 - b)) := by rw [← Int.pow_add]; congr 1; omega
    rw [e, ← Int.ediv_ediv_of_nonneg (Int.le_of_lt hb), ← Int.ediv_ediv_of_nonneg (Int.le_of_lt hb), Int.mul_ediv_cancel _ (Int.ne_of_gt hb)]
  · rw [Nat.min_eq_right h]
    have e : (2 : Int) ^ (8 - b) = 2 ^ (8 - a) * 2 ^ ((8 - b) - (8 - a)) := by rw [← Int.pow_add]; congr 1; omega
    have e2 : x / 2 ^ (8 - b) * 2 ^ (8 - b) = (x / 2 ^ (8 - b) * 2 ^ ((8 - b) - (8 - a))) * 2 ^ (8 - a) := by
      conv => lhs; arg 2; rw [e]
      rw [Int.mul_assoc, Int.mul_comm (2 ^ ((8 - b) - (8 - a)))]
    rw [e2, Int.mul_ediv_cancel _ (Int.ne_of_gt ha)]

theorem maskN_getD (n : Nat) (xs : List Int) (i : Nat) : (maskN n xs).getD i 0 = topB (min 8 (n - 8 * i)) (xs.getD i 0) := by
  induction xs generalizing n i with
  | nil => simp [maskN, topB_zero]
  | cons x xs ih =>
    cases i with
    | zero => simp [maskN]
    | succ i =>
      simp only [maskN, List.getD_cons_succ, ih]
      congr 2
      omega

theorem maskN_bytes (n : Nat) {xs : List Int} (h : ∀ b ∈ xs, 0 ≤ b ∧ b ≤ 255) : ∀ b ∈ maskN n xs, 0 ≤ b ∧ b ≤ 255 := by
  induction xs generalizing n with
  | nil => intro b hb; simp [maskN] at hb
  | cons x xs ih =>
    intro b hb
    simp only [maskN, List.mem_cons] at hb
    rcases hb with rfl | hb
    · exact topB_byte _ _ (h x (by simp)).1 (h x (by simp)).2
    · exact ih _ (fun y hy => h y (by simp [hy])) b hb

theorem maskN_maskN (m n : Nat) (xs : List Int) : maskN m (maskN n xs) = maskN (min m n) xs := by
  induction xs generalizing m n with
  | nil => simp [maskN]
  | cons x xs ih =>
    simp only [maskN, topB_topB, ih]
    congr 2 <;> omega

/-- How many bytes have one of the first bits. -/
def touchN (n : Nat) : Nat := (n + 7) / 8

theorem list_getD {a b : List Int} (hl : a.length = b.length) (h : ∀ i, i < a.length → a.getD i 0 = b.getD i 0) : a = b := by
  refine List.ext_getElem hl fun i h1 h2 => ?_
  have := h i h1
  rwa [List.getD_eq_getElem?_getD, List.getD_eq_getElem?_getD, List.getElem?_eq_getElem h1, List.getElem?_eq_getElem h2] at this

theorem maskN_past {n i : Nat} {xs : List Int} (h : ∀ b ∈ xs, 0 ≤ b ∧ b ≤ 255) (hi : touchN n ≤ i) : (maskN n xs).getD i 0 = 0 := by
  unfold touchN at hi
  have hb : 0 ≤ xs.getD i 0 ∧ xs.getD i 0 ≤ 255 := by
    rw [List.getD_eq_getElem?_getD]
    cases e : xs[i]? with
    | none => simp
    | some s => exact h s (List.mem_of_getElem? e)
  rw [maskN_getD, show min 8 (n - 8 * i) = 0 by omega]
  exact topB_none _ hb.1 hb.2

/-- An address of which just the bytes ahead stand. -/
def frontN (k : Nat) (xs : List Int) : List Int := xs.take k ++ List.replicate (xs.length - k) 0

theorem frontN_len (k : Nat) (xs : List Int) : (frontN k xs).length = xs.length := by
  simp [frontN]; omega

theorem sub_take (k i : Nat) (xs : List Int) (h : i < k) : (xs.take k).getD i 0 = xs.getD i 0 := by
  rw [List.getD_eq_getElem?_getD, List.getD_eq_getElem?_getD, List.getElem?_take_of_lt h]

theorem frontN_getD (k i : Nat) (xs : List Int) : (frontN k xs).getD i 0 = if i < k then xs.getD i 0 else 0 := by
  unfold frontN
  rw [List.getD_eq_getElem?_getD, List.getElem?_append]
  by_cases c : i < (xs.take k).length
  · rw [if_pos c, if_pos (by simp at c; omega), List.getElem?_take_of_lt (by simp at c; omega), List.getD_eq_getElem?_getD]
  · rw [if_neg c]
    by_cases c2 : i < k
    · rw [if_pos c2]
      have h1 : xs.length ≤ i := by simp at c; omega
      rw [List.getD_eq_getElem?_getD, List.getElem?_eq_none h1]
      have h2 : xs.length - k = 0 := by omega
      rw [h2]
      simp
    · rw [if_neg c2]
      rw [List.getElem?_replicate]
      split <;> rfl

theorem mask_even {n : Nat} {xs : List Int} (h : ∀ b ∈ xs, 0 ≤ b ∧ b ≤ 255) (h8 : n % 8 = 0) : frontN (touchN n) xs = maskN n xs := by
  refine list_getD (by rw [frontN_len, maskN_len]) fun i _ => ?_
  by_cases c : touchN n ≤ i
  · rw [maskN_past h c, frontN_getD, if_neg (by omega)]
  · rw [frontN_getD, if_pos (by omega), maskN_getD, show min 8 (n - 8 * i) = 8 by unfold touchN at c; omega, topB_eight]

theorem mask_odd {n : Nat} {xs : List Int} (h : ∀ b ∈ xs, 0 ≤ b ∧ b ≤ 255) (h8 : 0 < n % 8) : (frontN (touchN n) xs).set (n / 8) (topB (n % 8) (xs.getD (n / 8) 0)) = maskN n xs := by
  refine list_getD (by rw [List.length_set, frontN_len, maskN_len]) fun i hi => ?_
  rw [List.length_set, frontN_len] at hi
  rw [List.getD_eq_getElem?_getD, List.getElem?_set]
  by_cases c0 : n / 8 = i
  · rw [if_pos c0, if_pos (by rw [frontN_len]; omega), ← c0, maskN_getD, show min 8 (n - 8 * (n / 8)) = n % 8 by omega]
    rfl
  · rw [if_neg c0, ← List.getD_eq_getElem?_getD]
    by_cases c : touchN n ≤ i
    · rw [maskN_past h c, frontN_getD, if_neg (by omega)]
    · rw [frontN_getD, if_pos (by omega), maskN_getD, show min 8 (n - 8 * i) = 8 by unfold touchN at c; omega, topB_eight]

theorem and_top : ∀ (k : Fin 8) (x : Fin 256), 0 < k.val → bits .and .u8 (x.val : Int) (256 - 2 ^ (8 - k.val)) = topB k.val (x.val : Int) := by decide +kernel

theorem mask_front {n : Nat} {xs : List Int} (h : ∀ b ∈ xs, 0 ≤ b ∧ b ≤ 255) : frontN (touchN n) (maskN n xs) = maskN n xs := by
  refine list_getD (by rw [frontN_len]) fun i _ => ?_
  rw [frontN_getD]
  by_cases c : touchN n ≤ i
  · rw [if_neg (by omega), maskN_past h c]
  · rw [if_pos (by omega)]

/-- How many bytes an address of a family has. -/
def wideN (f : Int) : Nat := if f = 1 then 4 else if f = 2 then 16 else 0

/-- A subnet. -/
structure Sn where
  fam : Int
  src : Int
  scp : Int
  A : List Int

/-- Are source and scope bits of so many bytes? -/
def fitN (s : Sn) (size : Nat) : Prop := (0 ≤ s.src ∧ s.src ≤ size * 8) ∧ (0 ≤ s.scp ∧ s.scp ≤ size * 8)

instance (s : Sn) (size : Nat) : Decidable (fitN s size) := by unfold fitN; infer_instance

/-- What is wrong with a subnet. -/
def snE (s : Sn) : Int := if wideN s.fam = 0 then 6 else if ¬ s.A.length = wideN s.fam then 2 else if ¬ fitN s (wideN s.fam) then 6 else 0

/-- A subnet's bytes. -/
def encB (s : Sn) : List Int := twoN s.fam ++ [s.src, s.scp] ++ (maskN s.src.toNat s.A).take (touchN s.src.toNat)

/-- Is an address in a subnet? -/
def inN (a : List Int) (s : Sn) : Prop := snE s = 0 ∧ a.length = s.A.length ∧ maskN s.src.toNat a = maskN s.src.toNat s.A

instance (a : List Int) (s : Sn) : Decidable (inN a s) := by unfold inN; infer_instance

/-- The subnet that bytes seem to be. -/
def snOf (b : List Int) : Sn := ⟨numN (b.take 2), b.getD 2 0, b.getD 3 0, (b.drop 4).take (wideN (numN (b.take 2))) ++ List.replicate (wideN (numN (b.take 2)) - (b.length - 4)) 0⟩

/-- What is wrong with bytes as a subnet. -/
def decE (b : List Int) : Int :=
  if b.length < 4 then 2 else if wideN (snOf b).fam = 0 ∨ ¬ fitN (snOf b) (wideN (snOf b).fam) then 6
  else if ¬ b.length - 4 = touchN (snOf b).src.toNat then 1 else if ¬ (snOf b).A = maskN (snOf b).src.toNat (snOf b).A then 1 else 0

theorem snE_zero {s : Sn} (h : snE s = 0) : (s.fam = 1 ∧ s.A.length = 4 ∨ s.fam = 2 ∧ s.A.length = 16) ∧ wideN s.fam = s.A.length ∧ fitN s s.A.length := by
  unfold snE at h
  by_cases c1 : wideN s.fam = 0
  · rw [if_pos c1] at h; cases h
  · rw [if_neg c1] at h
    by_cases c2 : s.A.length = wideN s.fam
    · rw [if_neg (by simpa using c2)] at h
      by_cases c3 : fitN s (wideN s.fam)
      · refine ⟨?_, c2.symm, by rw [c2]; exact c3⟩
        unfold wideN at c1 c2
        by_cases f1 : s.fam = 1
        · rw [if_pos f1] at c2; exact Or.inl ⟨f1, c2⟩
        · rw [if_neg f1] at c2 c1
          by_cases f2 : s.fam = 2
          · rw [if_pos f2] at c2; exact Or.inr ⟨f2, c2⟩
          · rw [if_neg f2] at c1; exact absurd rfl c1
      · rw [if_pos c3] at h; cases h
    · rw [if_pos c2] at h; cases h

theorem snE_of {s : Sn} {k : Nat} (hk : wideN s.fam = k) (h0 : ¬ k = 0) (hl : s.A.length = k) (hf : fitN s k) : snE s = 0 := by
  unfold snE
  rw [hk, if_neg h0, if_neg (by simpa using hl), if_neg (by simpa using hf)]

theorem touch_le {n k : Nat} (h : n ≤ k * 8) : touchN n ≤ k := by unfold touchN; omega

theorem encB_len {s : Sn} (h : snE s = 0) : (encB s).length = 4 + touchN s.src.toNat := by
  obtain ⟨_, _, hf⟩ := snE_zero h
  have h1 : touchN s.src.toNat ≤ s.A.length := touch_le (by have := hf.1; omega)
  simp only [encB, List.length_append, List.length_take, maskN_len, twoN, List.length_cons, List.length_nil]
  omega

theorem front_mask {n : Nat} {xs : List Int} (h : ∀ b ∈ xs, 0 ≤ b ∧ b ≤ 255) : (maskN n xs).take (touchN n) ++ List.replicate (xs.length - touchN n) 0 = maskN n xs := by
  have := mask_front (n := n) h
  unfold frontN at this
  rwa [maskN_len] at this

theorem dec_enc {s : Sn} (h : snE s = 0) (hb : ∀ b ∈ s.A, 0 ≤ b ∧ b ≤ 255) : decE (encB s) = 0 ∧ snOf (encB s) = ⟨s.fam, s.src, s.scp, maskN s.src.toNat s.A⟩ := by
  obtain ⟨hfam, hw, hf⟩ := snE_zero h
  have ht : touchN s.src.toNat ≤ s.A.length := touch_le (by have := hf.1; omega)
  have hl := encB_len h
  have hn : numN ((encB s).take 2) = s.fam := by
    have : (encB s).take 2 = twoN s.fam := by simp [encB, twoN]
    rw [this]
    rcases hfam with ⟨e, _⟩ | ⟨e, _⟩ <;> (rw [e]; decide)
  have hA : (encB s).drop 4 = (maskN s.src.toNat s.A).take (touchN s.src.toNat) := by simp [encB, twoN]
  have ho : snOf (encB s) = ⟨s.fam, s.src, s.scp, maskN s.src.toNat s.A⟩ := by
    unfold snOf
    rw [hn, hA, hl, hw]
    congr 1
    rw [List.take_take, Nat.min_eq_right ht, show 4 + touchN s.src.toNat - 4 = touchN s.src.toNat by omega]
    exact front_mask hb
  refine ⟨?_, ho⟩
  unfold decE
  rw [ho, if_neg (by omega)]
  simp only
  rw [hw, if_neg, if_neg (by omega), if_neg (by rw [maskN_maskN, Nat.min_self]; simp)]
  intro q
  rcases q with q | q
  · rcases hfam with ⟨_, e⟩ | ⟨_, e⟩ <;> omega
  · exact q hf

theorem dec_zero {b : List Int} (h : decE b = 0) : 4 ≤ b.length ∧ ¬ wideN (snOf b).fam = 0 ∧ fitN (snOf b) (wideN (snOf b).fam) ∧ b.length - 4 = touchN (snOf b).src.toNat ∧ (snOf b).A = maskN (snOf b).src.toNat (snOf b).A := by
  unfold decE at h
  by_cases c1 : b.length < 4
  · rw [if_pos c1] at h; cases h
  · rw [if_neg c1] at h
    by_cases c2 : wideN (snOf b).fam = 0 ∨ ¬ fitN (snOf b) (wideN (snOf b).fam)
    · rw [if_pos c2] at h; cases h
    · rw [if_neg c2] at h
      by_cases c3 : b.length - 4 = touchN (snOf b).src.toNat
      · rw [if_neg (by simpa using c3)] at h
        by_cases c4 : (snOf b).A = maskN (snOf b).src.toNat (snOf b).A
        · refine ⟨by omega, fun q => c2 (Or.inl q), Classical.byContradiction fun q => c2 (Or.inr q), c3, c4⟩
        · rw [if_pos c4] at h; cases h
      · rw [if_pos c3] at h; cases h

theorem two_back {b : List Int} (hl : 2 ≤ b.length) (hb : ∀ x ∈ b, 0 ≤ x ∧ x ≤ 255) : twoN (numN (b.take 2)) = b.take 2 := by
  match b, hl, hb with
  | x :: y :: r, _, hb =>
    have h1 := hb x (by simp)
    have h2 := hb y (by simp)
    have e : numN ((x :: y :: r).take 2) = x * 256 + y := by simp [numN]
    rw [e]
    simp only [twoN, List.take_succ_cons, List.take_zero]
    congr 1
    · omega
    · congr 1; omega

theorem sn_len {b : List Int} (h : decE b = 0) : (snOf b).A.length = wideN (snOf b).fam := by
  obtain ⟨h1, h2, h3, h4, _⟩ := dec_zero h
  have ht : touchN (snOf b).src.toNat ≤ wideN (snOf b).fam := touch_le (by have := h3.1; omega)
  show ((b.drop 4).take _ ++ List.replicate _ 0).length = _
  have e : (snOf b).fam = numN (b.take 2) := rfl
  rw [e] at ht ⊢
  simp only [List.length_append, List.length_take, List.length_drop, List.length_replicate]
  omega

theorem enc_dec {b : List Int} (h : decE b = 0) (hb : ∀ x ∈ b, 0 ≤ x ∧ x ≤ 255) : snE (snOf b) = 0 ∧ encB (snOf b) = b := by
  obtain ⟨h1, h2, h3, h4, h5⟩ := dec_zero h
  have ht : touchN (snOf b).src.toNat ≤ wideN (snOf b).fam := touch_le (by have := h3.1; omega)
  refine ⟨snE_of rfl h2 (sn_len h) h3, ?_⟩
  have hA : (snOf b).A = (b.drop 4).take (wideN (snOf b).fam) ++ List.replicate (wideN (snOf b).fam - (b.length - 4)) 0 := rfl
  have hd : (b.drop 4).take (wideN (snOf b).fam) = b.drop 4 := List.take_of_length_le (by rw [List.length_drop]; omega)
  unfold encB
  rw [← h5]
  rw [hA, hd, ← h4, List.take_append_of_le_length (by rw [List.length_drop]; omega), List.take_of_length_le (by rw [List.length_drop]; omega)]
  have e : (snOf b).fam = numN (b.take 2) := rfl
  rw [e, two_back (by omega) hb]
  have e2 : [(snOf b).src, (snOf b).scp] = (b.drop 2).take 2 := by
    match b, h1 with
    | x :: y :: z :: t :: r, _ => simp [snOf]
  rw [e2]
  have e3 : b.drop 4 = (b.drop 2).drop 2 := by rw [List.drop_drop]
  rw [e3, List.append_assoc, List.take_append_drop, List.take_append_drop]

theorem sn_bytes {b : List Int} (hb : ∀ x ∈ b, 0 ≤ x ∧ x ≤ 255) : ∀ x ∈ (snOf b).A, 0 ≤ x ∧ x ≤ 255 := by
  intro x hx
  have hA : (snOf b).A = (b.drop 4).take (wideN (snOf b).fam) ++ List.replicate (wideN (snOf b).fam - (b.length - 4)) 0 := rfl
  rw [hA, List.mem_append] at hx
  rcases hx with hx | hx
  · exact hb x (List.mem_of_mem_drop (List.mem_of_mem_take hx))
  · rw [List.mem_replicate] at hx; omega

/-- With fewer bits alike. -/
theorem mask_less {m k : Nat} {a b : List Int} (h : maskN m a = maskN m b) (hk : k ≤ m) : maskN k a = maskN k b := by
  have e : k = min k m := by omega
  rw [e, ← maskN_maskN, h, maskN_maskN]

end Go.Proofs.Ytnbabdfcamdapaa
