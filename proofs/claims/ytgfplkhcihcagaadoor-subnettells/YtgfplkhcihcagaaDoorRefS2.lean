/-
  The walks of the document's own answers on subnets: Wide, SubnetFault, pair, Alike, Inside.
-/
import Derived.Test.YtgfplkhcihcagaaDoorRefS
namespace Go.Proofs.YtgfplkhcihcagaaDoor
open Go.RowKit Go.Deep

set_option maxHeartbeats 400000 in
set_option maxRecDepth 100000 in
theorem wide2_at (f : Int) (w : World) :
    Calls Tryd.prog 67 #[.int .i64 f] w fun e w' => e = .returned (.int .i64 ((wideN f : Nat) : Int)) ∧ w = w' := by
  unfold wideN
  by_cases c1 : f = 1
  · subst c1
    go_enter Tryd.func67, Tryd.ntmps67
    go_wp2
    go_ret
    exact ⟨rfl, rfl⟩
  · by_cases c2 : f = 2
    · subst c2
      go_enter Tryd.func67, Tryd.ntmps67
      go_wp2
      go_ret
      exact ⟨rfl, rfl⟩
    · rw [if_neg c1, if_neg c2]
      go_enter Tryd.func67, Tryd.ntmps67
      go_wp2
      go_ret
      exact ⟨rfl, rfl⟩

set_option maxHeartbeats 1000000 in
set_option maxRecDepth 100000 in
theorem sf_none {x : Option Addr} {c l : Nat} (fam src scp : Int) (w : World) (_hl : l ≤ 200000000000000) (h0 : wideN fam = 0) :
    Calls Tryd.prog 26 #[.agg #[.int .i64 fam, .int .i64 src, .int .i64 scp, .slice x l c]] w fun e w' => e = .returned (.int .i64 6) ∧ Below w.heap.size w w' := by
  have hws := wide_small fam
  have B0 := hid ((Below.refl w.heap.size w).alloc (Nat.le_refl _) (.cells #[.int .i64 fam, .int .i64 src, .int .i64 scp, .slice x l c] 61))
  have HS := wide2_at fam
  generalize wideN fam = sz at *
  subst h0
  go_enter Tryd.func26, Tryd.ntmps26
  go_wp2_with fail
  refine (HS _).mono ?_
  rintro e w1 ⟨rfl, rfl⟩
  clear HS
  go_wp2_with fail
  go_ret
  exact ⟨rfl, B0.out⟩

set_option maxHeartbeats 1000000 in
set_option maxRecDepth 100000 in
theorem sf_len {x : Option Addr} {c l : Nat} (fam src scp : Int) (w : World) (_hl : l ≤ 200000000000000) (h0 : ¬ wideN fam = 0) (h1 : ¬ l = wideN fam) :
    Calls Tryd.prog 26 #[.agg #[.int .i64 fam, .int .i64 src, .int .i64 scp, .slice x l c]] w fun e w' => e = .returned (.int .i64 2) ∧ Below w.heap.size w w' := by
  have hws := wide_small fam
  have B0 := hid ((Below.refl w.heap.size w).alloc (Nat.le_refl _) (.cells #[.int .i64 fam, .int .i64 src, .int .i64 scp, .slice x l c] 61))
  have HS := wide2_at fam
  generalize wideN fam = sz at *
  have hn0 : ((sz : Int) == 0) = false := by simp; omega
  have hne : ((l : Int) != (sz : Int)) = true := by rw [bne_iff_ne]; omega
  go_enter Tryd.func26, Tryd.ntmps26
  go_wp2_with fail
  refine (HS _).mono ?_
  rintro e w1 ⟨rfl, rfl⟩
  clear HS
  go_wp2_with fail
  go_ret
  exact ⟨rfl, B0.out⟩

set_option maxHeartbeats 1000000 in
set_option maxRecDepth 100000 in
theorem sf_a {x : Option Addr} {c l : Nat} (fam src scp : Int) (w : World) (_hl : l ≤ 200000000000000) (h0 : ¬ wideN fam = 0) (h1 : l = wideN fam) (h2 : src < 0) :
    Calls Tryd.prog 26 #[.agg #[.int .i64 fam, .int .i64 src, .int .i64 scp, .slice x l c]] w fun e w' => e = .returned (.int .i64 6) ∧ Below w.heap.size w w' := by
  have hws := wide_small fam
  have B0 := hid ((Below.refl w.heap.size w).alloc (Nat.le_refl _) (.cells #[.int .i64 fam, .int .i64 src, .int .i64 scp, .slice x l c] 61))
  have HS := wide2_at fam
  generalize wideN fam = sz at *
  have hn0 : ((sz : Int) == 0) = false := by simp; omega
  have hne : ((l : Int) != (sz : Int)) = false := by rw [bne_eq_false_iff_eq]; omega
  clear h0 h1
  go_enter Tryd.func26, Tryd.ntmps26
  go_wp2_with fail
  refine (HS _).mono ?_
  rintro e w1 ⟨rfl, rfl⟩
  clear HS
  go_wp2_with fail
  go_ret
  exact ⟨rfl, B0.out⟩

set_option maxHeartbeats 1000000 in
set_option maxRecDepth 100000 in
theorem sf_b {x : Option Addr} {c l : Nat} (fam src scp : Int) (w : World) (_hl : l ≤ 200000000000000) (h0 : ¬ wideN fam = 0) (h1 : l = wideN fam) (h2 : ¬ src < 0) (h3 : 8 * ((wideN fam : Nat) : Int) < src) :
    Calls Tryd.prog 26 #[.agg #[.int .i64 fam, .int .i64 src, .int .i64 scp, .slice x l c]] w fun e w' => e = .returned (.int .i64 6) ∧ Below w.heap.size w w' := by
  have hws := wide_small fam
  have B0 := hid ((Below.refl w.heap.size w).alloc (Nat.le_refl _) (.cells #[.int .i64 fam, .int .i64 src, .int .i64 scp, .slice x l c] 61))
  have HS := wide2_at fam
  generalize wideN fam = sz at *
  have hn0 : ((sz : Int) == 0) = false := by simp; omega
  have hne : ((l : Int) != (sz : Int)) = false := by rw [bne_eq_false_iff_eq]; omega
  clear h0 h1
  go_enter Tryd.func26, Tryd.ntmps26
  go_wp2_with fail
  refine (HS _).mono ?_
  rintro e w1 ⟨rfl, rfl⟩
  clear HS
  go_wp2_with fail
  go_ret
  exact ⟨rfl, B0.out⟩

set_option maxHeartbeats 1000000 in
set_option maxRecDepth 100000 in
theorem sf_c {x : Option Addr} {c l : Nat} (fam src scp : Int) (w : World) (_hl : l ≤ 200000000000000) (h0 : ¬ wideN fam = 0) (h1 : l = wideN fam) (h2 : ¬ src < 0) (h3 : ¬ 8 * ((wideN fam : Nat) : Int) < src) (h4 : scp < 0) :
    Calls Tryd.prog 26 #[.agg #[.int .i64 fam, .int .i64 src, .int .i64 scp, .slice x l c]] w fun e w' => e = .returned (.int .i64 6) ∧ Below w.heap.size w w' := by
  have hws := wide_small fam
  have B0 := hid ((Below.refl w.heap.size w).alloc (Nat.le_refl _) (.cells #[.int .i64 fam, .int .i64 src, .int .i64 scp, .slice x l c] 61))
  have HS := wide2_at fam
  generalize wideN fam = sz at *
  have hn0 : ((sz : Int) == 0) = false := by simp; omega
  have hne : ((l : Int) != (sz : Int)) = false := by rw [bne_eq_false_iff_eq]; omega
  clear h0 h1
  go_enter Tryd.func26, Tryd.ntmps26
  go_wp2_with fail
  refine (HS _).mono ?_
  rintro e w1 ⟨rfl, rfl⟩
  clear HS
  go_wp2_with fail
  go_ret
  exact ⟨rfl, B0.out⟩

set_option maxHeartbeats 1000000 in
set_option maxRecDepth 100000 in
theorem sf_d {x : Option Addr} {c l : Nat} (fam src scp : Int) (w : World) (_hl : l ≤ 200000000000000) (h0 : ¬ wideN fam = 0) (h1 : l = wideN fam) (h2 : ¬ src < 0) (h3 : ¬ 8 * ((wideN fam : Nat) : Int) < src) (h4 : ¬ scp < 0) (h5 : 8 * ((wideN fam : Nat) : Int) < scp) :
    Calls Tryd.prog 26 #[.agg #[.int .i64 fam, .int .i64 src, .int .i64 scp, .slice x l c]] w fun e w' => e = .returned (.int .i64 6) ∧ Below w.heap.size w w' := by
  have hws := wide_small fam
  have B0 := hid ((Below.refl w.heap.size w).alloc (Nat.le_refl _) (.cells #[.int .i64 fam, .int .i64 src, .int .i64 scp, .slice x l c] 61))
  have HS := wide2_at fam
  generalize wideN fam = sz at *
  have hn0 : ((sz : Int) == 0) = false := by simp; omega
  have hne : ((l : Int) != (sz : Int)) = false := by rw [bne_eq_false_iff_eq]; omega
  clear h0 h1
  go_enter Tryd.func26, Tryd.ntmps26
  go_wp2_with fail
  refine (HS _).mono ?_
  rintro e w1 ⟨rfl, rfl⟩
  clear HS
  go_wp2_with fail
  go_ret
  exact ⟨rfl, B0.out⟩

set_option maxHeartbeats 1000000 in
set_option maxRecDepth 100000 in
theorem sf_ok {x : Option Addr} {c l : Nat} (fam src scp : Int) (w : World) (_hl : l ≤ 200000000000000) (h0 : ¬ wideN fam = 0) (h1 : l = wideN fam) (h2 : ¬ src < 0) (h3 : ¬ 8 * ((wideN fam : Nat) : Int) < src) (h4 : ¬ scp < 0) (h5 : ¬ 8 * ((wideN fam : Nat) : Int) < scp) :
    Calls Tryd.prog 26 #[.agg #[.int .i64 fam, .int .i64 src, .int .i64 scp, .slice x l c]] w fun e w' => e = .returned (.int .i64 0) ∧ Below w.heap.size w w' := by
  have hws := wide_small fam
  have B0 := hid ((Below.refl w.heap.size w).alloc (Nat.le_refl _) (.cells #[.int .i64 fam, .int .i64 src, .int .i64 scp, .slice x l c] 61))
  have HS := wide2_at fam
  generalize wideN fam = sz at *
  have hn0 : ((sz : Int) == 0) = false := by simp; omega
  have hne : ((l : Int) != (sz : Int)) = false := by rw [bne_eq_false_iff_eq]; omega
  clear h0 h1
  go_enter Tryd.func26, Tryd.ntmps26
  go_wp2_with fail
  refine (HS _).mono ?_
  rintro e w1 ⟨rfl, rfl⟩
  clear HS
  go_wp2_with fail
  go_ret
  exact ⟨rfl, B0.out⟩

theorem sfault_at {x : Option Addr} {c l : Nat} (k : Int) (s : Sn) (w : World) (hl : s.A.length = l) (hl2 : s.A.length ≤ 200000000000000) (hk : snE s = k) :
    Calls Tryd.prog 26 #[.agg #[.int .i64 s.fam, .int .i64 s.src, .int .i64 s.scp, .slice x l c]] w fun e w' => e = .returned (.int .i64 k) ∧ Below w.heap.size w w' := by
  obtain ⟨fam, src, scp, A⟩ := s
  simp only at hl hl2 ⊢
  unfold snE at hk
  simp only at hk
  by_cases c0 : wideN fam = 0
  · rw [if_pos c0] at hk; subst hk; exact sf_none fam src scp w (by omega) c0
  · rw [if_neg c0] at hk
    by_cases c1 : A.length = wideN fam
    · rw [if_neg (by simpa using c1)] at hk
      have c1' : l = wideN fam := by omega
      have hf : fitN ⟨fam, src, scp, A⟩ (wideN fam) ↔ (0 ≤ src ∧ src ≤ (wideN fam : Int) * 8) ∧ (0 ≤ scp ∧ scp ≤ (wideN fam : Int) * 8) := Iff.rfl
      by_cases c2 : src < 0
      · rw [if_pos (by rw [hf]; omega)] at hk; subst hk; exact sf_a fam src scp w (by omega) c0 c1' c2
      · by_cases c3 : 8 * ((wideN fam : Nat) : Int) < src
        · rw [if_pos (by rw [hf]; omega)] at hk; subst hk; exact sf_b fam src scp w (by omega) c0 c1' c2 c3
        · by_cases c4 : scp < 0
          · rw [if_pos (by rw [hf]; omega)] at hk; subst hk; exact sf_c fam src scp w (by omega) c0 c1' c2 c3 c4
          · by_cases c5 : 8 * ((wideN fam : Nat) : Int) < scp
            · rw [if_pos (by rw [hf]; omega)] at hk; subst hk; exact sf_d fam src scp w (by omega) c0 c1' c2 c3 c4 c5
            · rw [if_neg (by rw [hf]; omega)] at hk; subst hk; exact sf_ok fam src scp w (by omega) c0 c1' c2 c3 c4 c5
    · rw [if_pos c1] at hk; subst hk; exact sf_len fam src scp w (by omega) c0 (by omega)

theorem top_of_bits {x y : Int} {c : Nat} (hx : 0 ≤ x ∧ x ≤ 255) (hy : 0 ≤ y ∧ y ≤ 255) (hc : c ≤ 8) (h : ∀ k, k < c → x / 2 ^ (7 - k) % 2 = y / 2 ^ (7 - k) % 2) : topB c x = topB c y := by
  have tx := topB_byte c x hx.1 hx.2
  have ty := topB_byte c y hy.1 hy.2
  have key : ∀ k, k ≤ 8 → topB c x / 2 ^ (8 - k) = topB c y / 2 ^ (8 - k) := by
    intro k
    induction k with
    | zero =>
      intro _
      rw [Int.ediv_eq_zero_of_lt tx.1 (by omega), Int.ediv_eq_zero_of_lt ty.1 (by omega)]
    | succ k ih =>
      intro hk
      have i1 := ih (by omega)
      rw [show 8 - (k + 1) = 7 - k by omega, bit_top x c k hx.1 hx.2 hc (by omega), bit_top y c k hy.1 hy.2 hc (by omega), i1]
      by_cases q : k < c
      · rw [if_pos q, if_pos q, h k q]
      · rw [if_neg q, if_neg q]
  have := key 8 (Nat.le_refl _)
  simpa using this

theorem bits_of_top {x y : Int} {c k : Nat} (hx : 0 ≤ x ∧ x ≤ 255) (hy : 0 ≤ y ∧ y ≤ 255) (hc : c ≤ 8) (h : topB c x = topB c y) (hk : k < c) : x / 2 ^ (7 - k) % 2 = y / 2 ^ (7 - k) % 2 := by
  have h1 := bit_top x c k hx.1 hx.2 hc (by omega)
  have h2 := bit_top y c k hy.1 hy.2 hc (by omega)
  rw [if_pos hk] at h1 h2
  rw [h] at h1
  omega

theorem alike_mask {a b : List Int} {n : Nat} (ha : ∀ x ∈ a, 0 ≤ x ∧ x ≤ 255) (hb : ∀ x ∈ b, 0 ≤ x ∧ x ≤ 255) (hl : a.length = b.length) : (∀ i, i < n → bitN a i = bitN b i) ↔ maskN n a = maskN n b := by
  constructor
  · intro h
    refine list_getD (by rw [maskN_len, maskN_len, hl]) fun j _ => ?_
    rw [maskN_getD, maskN_getD]
    refine top_of_bits (getD_byte ha j) (getD_byte hb j) (by omega) fun k hk => ?_
    have := h (8 * j + k) (by omega)
    unfold bitN at this
    rwa [show (8 * j + k) / 8 = j by omega, show (8 * j + k) % 8 = k by omega] at this
  · intro h i hi
    have h1 : (maskN n a).getD (i / 8) 0 = (maskN n b).getD (i / 8) 0 := by rw [h]
    rw [maskN_getD, maskN_getD] at h1
    exact bits_of_top (getD_byte ha _) (getD_byte hb _) (by omega) h1 (by omega)

set_option maxHeartbeats 1000000 in
set_option maxRecDepth 100000 in
theorem alike_at {xa xb : Option Addr} {ca cb la lb : Nat} (r : Bool) (a b : List Int) (n : Nat) (w : World) (ha : Bys w xa ca a) (hb : Bys w xb cb b) (hla : a.length = la) (hlb : b.length = lb) (hna : n ≤ 8 * a.length) (hnb : n ≤ 8 * b.length) (hr : r = true ↔ ∀ i, i < n → bitN a i = bitN b i) :
    Calls Tryd.prog 72 #[.slice xa la ca, .slice xb lb cb, .int .i64 (n : Int)] w fun e w' => e = .returned (.bool r) ∧ w = w' := by
  have h1 : a.length ≤ 200000000000000 := ha.2.1
  have HR := hid hr
  clear hr
  go_enter Tryd.func72, Tryd.ntmps72
  go_wp2
  go_loop [7] (fun t => ∃ k : Nat, k ≤ n ∧ t = .int .i64 (k : Int) ∧ Hid (∀ i, i < k → bitN a i = bitN b i)) (fun t => n - (intOf t).toNat)
  case atStart => exact ⟨0, Nat.zero_le _, rfl, hid (fun i hi => absurd hi (by omega))⟩
  case round =>
    obtain ⟨k, hk, rfl, HK⟩ := hrel
    by_cases hlt : k < n
    · have A1 := hid (bitOf_at k a w ha hla (by omega) (by omega))
      have A2 := hid (bitOf_at k b w hb hlb (by omega) (by omega))
      have NX : Hid (bitN a k = bitN b k → ∀ i, i < k + 1 → bitN a i = bitN b i) := hid fun q i hi => by
        rcases Nat.lt_or_ge i k with q2 | q2
        · exact HK.out i q2
        · obtain rfl : i = k := by omega
          exact q
      have NO : Hid (¬ bitN a k = bitN b k → false = r) := hid fun q => by
        cases r
        · rfl
        · exact absurd (HR.out.1 rfl k hlt) q
      generalize bitN a k = p at *
      generalize bitN b k = q at *
      by_cases hpq : p = q
      · subst hpq
        go_wp2_with (first | (go_at_call_of 64 ca; refine A1.out.mono ?_; rintro e w' ⟨rfl, rfl⟩) | (go_at_call_of 64 cb; refine A2.out.mono ?_; rintro e w' ⟨rfl, rfl⟩))
        go_round
        case rel => exact ⟨k + 1, by omega, by go_num, hid (NX.out trivial)⟩
        case measure => simp [intOf]; omega
      · have hne : (p != q) = true := by rw [bne_iff_ne]; exact hpq
        go_wp2_with (first | (go_at_call_of 64 ca; refine A1.out.mono ?_; rintro e w' ⟨rfl, rfl⟩) | (go_at_call_of 64 cb; refine A2.out.mono ?_; rintro e w' ⟨rfl, rfl⟩))
        go_ret
        exact ⟨ret_bool (NO.out hpq), rfl⟩
    · have e : true = r := by
        obtain rfl : k = n := by omega
        exact (HR.out.2 HK.out).symm
      have E := hid e
      clear e
      go_wp2
      go_ret
      exact ⟨ret_bool E.out, rfl⟩

set_option maxHeartbeats 1000000 in
set_option maxRecDepth 100000 in
theorem inside_at {xa xs : Option Addr} {ca la cs ls : Nat} (r : Bool) (a : List Int) (s : Sn) (w : World) (ha : Bys w xa ca a) (hs : Bys w xs cs s.A) (hla : a.length = la) (hls : s.A.length = ls) (hr : decide (inN a s) = r) :
    Calls Tryd.prog 30 #[.slice xa la ca, .agg #[.int .i64 s.fam, .int .i64 s.src, .int .i64 s.scp, .slice xs ls cs]] w fun e w' => e = .returned (.bool r) ∧ Below w.heap.size w w' := by
  obtain ⟨fam, src, scp, A⟩ := s
  simp only at hls hs ⊢
  have hal : a.length ≤ 200000000000000 := ha.2.1
  have B0 := hid ((Below.refl w.heap.size w).alloc (Nat.le_refl _) (.cells #[.int .i64 fam, .int .i64 src, .int .i64 scp, .slice xs ls cs] 61))
  have C0 := hid (Bl.new 61 w #[.int .i64 fam, .int .i64 src, .int .i64 scp, .slice xs ls cs])
  have HC := hid (sfault_at (x := xs) (c := cs) (l := ls) _ ⟨fam, src, scp, A⟩ (w.alloc (.cells #[.int .i64 fam, .int .i64 src, .int .i64 scp, .slice xs ls cs] 61)) hls hs.2.1 rfl)
  have HR := hid hr
  by_cases c1 : snE ⟨fam, src, scp, A⟩ = 0
  · rw [c1] at HC
    by_cases c2 : a.length = A.length
    · have heq : ((la : Int) == (ls : Int)) = true := by rw [beq_iff_eq]; omega
      have hf := (snE_zero c1).2.2.1
      simp only at hf
      obtain ⟨m, rfl⟩ : ∃ m : Nat, src = (m : Int) := ⟨src.toNat, by omega⟩
      have HI : Hid (r = true ↔ ∀ i, i < m → bitN a i = bitN A i) := hid (by
        rw [alike_mask ha.2.2.1 hs.2.2.1 c2, ← HR.out, decide_eq_true_iff]
        unfold inN
        simp only [Int.toNat_natCast]
        exact ⟨fun q => q.2.2, fun q => ⟨c1, c2, q⟩⟩)
      have hm1 : Hid (m ≤ 8 * a.length) := hid (by omega)
      have hm2 : Hid (m ≤ 8 * A.length) := hid (by omega)
      clear hr HR c1 c2 hf
      go_enter Tryd.func30, Tryd.ntmps30
      go_wp2_with fail
      refine HC.out.mono ?_
      rintro e w1 ⟨rfl, d1⟩
      have K := C0.out.below d1
      have q1 := K.cell (i := 1) rfl
      have q3 := K.cell (i := 3) rfl
      have B1 := hid (B0.out.trans (d1.mono B0.out.size))
      clear d1 K HC C0
      go_wp2_with fail
      refine (alike_at r a A m w1 (ha.below B1.out) (hs.below B1.out) hla hls hm1.out hm2.out HI.out).mono ?_
      rintro e w2 ⟨rfl, rfl⟩
      go_wp2_with fail
      go_ret
      exact ⟨rfl, B1.out⟩
    · have heq : ((la : Int) == (ls : Int)) = false := by rw [beq_eq_false_iff_ne]; omega
      obtain rfl : r = false := by rw [← HR.out]; exact decide_eq_false (fun h => c2 h.2.1)
      clear hr HR c1 c2
      go_enter Tryd.func30, Tryd.ntmps30
      go_wp2_with fail
      refine HC.out.mono ?_
      rintro e w1 ⟨rfl, d1⟩
      have K := C0.out.below d1
      have q3 := K.cell (i := 3) rfl
      have B1 := hid (B0.out.trans (d1.mono B0.out.size))
      clear d1 K HC C0
      go_wp2_with fail
      go_ret
      exact ⟨rfl, B1.out⟩
  · obtain rfl : r = false := by rw [← HR.out]; exact decide_eq_false (fun h => c1 h.1)
    have hk : ((snE ⟨fam, src, scp, A⟩ == 0)) = false := by rw [beq_eq_false_iff_ne]; exact c1
    clear hr HR c1
    generalize snE ⟨fam, src, scp, A⟩ = k at *
    go_enter Tryd.func30, Tryd.ntmps30
    go_wp2_with fail
    refine HC.out.mono ?_
    rintro e w1 ⟨rfl, d1⟩
    have B1 := hid (B0.out.trans (d1.mono B0.out.size))
    clear d1 HC C0
    go_wp2_with fail
    go_ret
    exact ⟨rfl, B1.out⟩

end Go.Proofs.YtgfplkhcihcagaaDoor
