/-
  The walks of package trie: common, bit.
-/
import Derived.Test.YtoakpkpdipgfoaaTrieA
import Derived.Test.YtoakpkpdipgfoaaForks
import Derived.Deep.Cut
import Derived.Deep.CutRange
import Derived.Deep.RegionHeld3
namespace Go.Proofs.Ytoakpkpdipgfoaa
open Go.RowKit Go.Deep

set_option maxHeartbeats 1000000 in
set_option maxRecDepth 100000 in
theorem common_at (a k : List Int) (n m : Nat) (s : Nat) (w : World) (ba : ∀ x ∈ a, 0 ≤ x ∧ x ≤ 255) (bk : ∀ x ∈ k, 0 ≤ x ∧ x ≤ 255) (hn : n ≤ 128) (hm : m ≤ 128) (hs : comU a k (min n m) = s) :
    Calls Try.prog 17 #[.agg #[.int .u8 (byt a 0), .int .u8 (byt a 1), .int .u8 (byt a 2), .int .u8 (byt a 3), .int .u8 (byt a 4), .int .u8 (byt a 5), .int .u8 (byt a 6), .int .u8 (byt a 7), .int .u8 (byt a 8), .int .u8 (byt a 9), .int .u8 (byt a 10), .int .u8 (byt a 11), .int .u8 (byt a 12), .int .u8 (byt a 13), .int .u8 (byt a 14), .int .u8 (byt a 15), .int .i64 (n : Int)], .agg #[.int .u8 (byt k 0), .int .u8 (byt k 1), .int .u8 (byt k 2), .int .u8 (byt k 3), .int .u8 (byt k 4), .int .u8 (byt k 5), .int .u8 (byt k 6), .int .u8 (byt k 7), .int .u8 (byt k 8), .int .u8 (byt k 9), .int .u8 (byt k 10), .int .u8 (byt k 11), .int .u8 (byt k 12), .int .u8 (byt k 13), .int .u8 (byt k 14), .int .u8 (byt k 15), .int .i64 (m : Int)]] w fun e w' => e = .returned (.int .i64 (s : Int)) ∧ Below w.heap.size w w' := by
  have k1 := (Bl.new 52 w #[.int .u8 (byt a 0), .int .u8 (byt a 1), .int .u8 (byt a 2), .int .u8 (byt a 3), .int .u8 (byt a 4), .int .u8 (byt a 5), .int .u8 (byt a 6), .int .u8 (byt a 7), .int .u8 (byt a 8), .int .u8 (byt a 9), .int .u8 (byt a 10), .int .u8 (byt a 11), .int .u8 (byt a 12), .int .u8 (byt a 13), .int .u8 (byt a 14), .int .u8 (byt a 15), .int .i64 (n : Int)]).below ((Below.refl _ _).alloc (Nat.le_refl _) (.cells #[.int .u8 (byt k 0), .int .u8 (byt k 1), .int .u8 (byt k 2), .int .u8 (byt k 3), .int .u8 (byt k 4), .int .u8 (byt k 5), .int .u8 (byt k 6), .int .u8 (byt k 7), .int .u8 (byt k 8), .int .u8 (byt k 9), .int .u8 (byt k 10), .int .u8 (byt k 11), .int .u8 (byt k 12), .int .u8 (byt k 13), .int .u8 (byt k 14), .int .u8 (byt k 15), .int .i64 (m : Int)] 52))
  have k2 := Bl.new 52 (w.alloc (.cells #[.int .u8 (byt a 0), .int .u8 (byt a 1), .int .u8 (byt a 2), .int .u8 (byt a 3), .int .u8 (byt a 4), .int .u8 (byt a 5), .int .u8 (byt a 6), .int .u8 (byt a 7), .int .u8 (byt a 8), .int .u8 (byt a 9), .int .u8 (byt a 10), .int .u8 (byt a 11), .int .u8 (byt a 12), .int .u8 (byt a 13), .int .u8 (byt a 14), .int .u8 (byt a 15), .int .i64 (n : Int)] 52)) #[.int .u8 (byt k 0), .int .u8 (byt k 1), .int .u8 (byt k 2), .int .u8 (byt k 3), .int .u8 (byt k 4), .int .u8 (byt k 5), .int .u8 (byt k 6), .int .u8 (byt k 7), .int .u8 (byt k 8), .int .u8 (byt k 9), .int .u8 (byt k 10), .int .u8 (byt k 11), .int .u8 (byt k 12), .int .u8 (byt k 13), .int .u8 (byt k 14), .int .u8 (byt k 15), .int .i64 (m : Int)]
  have hz : (w.alloc (.cells #[.int .u8 (byt a 0), .int .u8 (byt a 1), .int .u8 (byt a 2), .int .u8 (byt a 3), .int .u8 (byt a 4), .int .u8 (byt a 5), .int .u8 (byt a 6), .int .u8 (byt a 7), .int .u8 (byt a 8), .int .u8 (byt a 9), .int .u8 (byt a 10), .int .u8 (byt a 11), .int .u8 (byt a 12), .int .u8 (byt a 13), .int .u8 (byt a 14), .int .u8 (byt a 15), .int .i64 (n : Int)] 52)).heap.size = w.heap.size + 1 := by simp
  rw [hz] at k2
  have B0 := hid (((Below.refl w.heap.size w).alloc (Nat.le_refl _) (.cells #[.int .u8 (byt a 0), .int .u8 (byt a 1), .int .u8 (byt a 2), .int .u8 (byt a 3), .int .u8 (byt a 4), .int .u8 (byt a 5), .int .u8 (byt a 6), .int .u8 (byt a 7), .int .u8 (byt a 8), .int .u8 (byt a 9), .int .u8 (byt a 10), .int .u8 (byt a 11), .int .u8 (byt a 12), .int .u8 (byt a 13), .int .u8 (byt a 14), .int .u8 (byt a 15), .int .i64 (n : Int)] 52)).alloc (by simp) (.cells #[.int .u8 (byt k 0), .int .u8 (byt k 1), .int .u8 (byt k 2), .int .u8 (byt k 3), .int .u8 (byt k 4), .int .u8 (byt k 5), .int .u8 (byt k 6), .int .u8 (byt k 7), .int .u8 (byt k 8), .int .u8 (byt k 9), .int .u8 (byt k 10), .int .u8 (byt k 11), .int .u8 (byt k 12), .int .u8 (byt k 13), .int .u8 (byt k 14), .int .u8 (byt k 15), .int .i64 (m : Int)] 52))
  clear hz
  have K1 := hid k1
  have K2 := hid k2
  clear k1 k2
  obtain ⟨p, hp⟩ : ∃ p, min n m = p := ⟨_, rfl⟩
  have hp128 : p ≤ 128 := by omega
  rw [hp] at hs
  have HS := hid hs
  have HBA := hid ba
  have HBK := hid bk
  clear hs ba bk
  go_enter Try.func17, Try.ntmps17
  go_upto_region 1 with fail
  generalize (w.alloc (.cells #[.int .u8 (byt a 0), .int .u8 (byt a 1), .int .u8 (byt a 2), .int .u8 (byt a 3), .int .u8 (byt a 4), .int .u8 (byt a 5), .int .u8 (byt a 6), .int .u8 (byt a 7), .int .u8 (byt a 8), .int .u8 (byt a 9), .int .u8 (byt a 10), .int .u8 (byt a 11), .int .u8 (byt a 12), .int .u8 (byt a 13), .int .u8 (byt a 14), .int .u8 (byt a 15), .int .i64 (n : Int)] 52)).alloc (.cells #[.int .u8 (byt k 0), .int .u8 (byt k 1), .int .u8 (byt k 2), .int .u8 (byt k 3), .int .u8 (byt k 4), .int .u8 (byt k 5), .int .u8 (byt k 6), .int .u8 (byt k 7), .int .u8 (byt k 8), .int .u8 (byt k 9), .int .u8 (byt k 10), .int .u8 (byt k 11), .int .u8 (byt k 12), .int .u8 (byt k 13), .int .u8 (byt k 14), .int .u8 (byt k 15), .int .i64 (m : Int)] 52) = W0 at *
  have y1 : W0.cell? ⟨w.heap.size, 16, none⟩ = some (.int .i64 (n : Int)) := K1.out.cell (i := 16) rfl
  have y2 : W0.cell? ⟨w.heap.size + 1, 16, none⟩ = some (.int .i64 (m : Int)) := K2.out.cell (i := 16) rfl
  have hcase : n ≤ m ∧ n = p ∨ m < n ∧ m = p := by omega
  rcases hcase with ⟨hnm, e⟩ | ⟨hnm, e⟩
  all_goals
    clear hp
    go_upto_region 2 with fail
    rw [e]
    clear y1 y2 hnm hn hm e
    go_wp2
    go_loopw [6] (fun i wr => ∃ j : Nat, 8 * j < p + 8 ∧ i = .int .i64 (j : Int) ∧ Hid (Al a k (8 * j)) ∧ Drawn W0 wr) (fun i _ => p + 8 - 8 * (intOf i).toNat)
    case atStart => exact ⟨0, by omega, rfl, hid (fun i hi => absurd hi (by omega)), Drawn.refl W0⟩
    case round =>
      obtain ⟨j, hj, rfl, HA, hdr⟩ := hrel
      by_cases c1 : 8 * j < p
      · have j16 : j < 16 := by omega
        obtain ⟨x, hx, lx⟩ := byt_nat HBA.out j
        obtain ⟨y, hy, ly⟩ := byt_nat HBK.out j
        have y1 : wr.cell? ⟨w.heap.size, j, none⟩ = some (.int .u8 (x : Int)) := by rw [hdr.cell, ← hx]; exact K1.out.cell (beg_at a n j j16)
        have y2 : wr.cell? ⟨w.heap.size + 1, j, none⟩ = some (.int .u8 (y : Int)) := by rw [hdr.cell, ← hy]; exact K2.out.cell (beg_at k m j j16)
        have hi1 : (j : Int) < 16 := by omega
        have hxo := (xor_byte x y lx ly).1
        have hz := (xor_byte x y lx ly).2
        have HP := hid (part_byte hx hy lx ly)
        have HL := hid (lz_zero _ hz)
        generalize x ^^^ y = z at *
        clear hx hy
        by_cases cz : z = 0
        · subst cz
          have hd8 : lzN ((0 : Nat) : Int) = 8 := rfl
          have NX : Hid (Al a k (8 * (j + 1))) := hid (fun i hi => by
            rcases Nat.lt_or_ge i (8 * j) with q | q
            · exact HA.out i q
            · have := (HP.out 8 hd8).1 (i - 8 * j) (by omega) (by omega)
              rwa [show 8 * j + (i - 8 * j) = i by omega] at this)
          clear HP HL
          go_wp2
          go_quiet (fail)
          go_wp2
          go_roundw
          case rel => exact ⟨j + 1, by omega, by go_num, NX, hdr.more _⟩
          case measure => simp [intOf]; omega
        · obtain ⟨d, hd⟩ : ∃ d, lzN (z : Int) = d := ⟨_, rfl⟩
          have hd7 : d < 8 := by
            have h8 := lz_le (z : Int)
            have : ¬ lzN (z : Int) = 8 := fun q => cz (HL.out.1 q)
            omega
          have HC := hid fun u => lz8_at z u hz
          rw [hd] at HC
          have P1 := (HP.out d hd).1
          have P2 := (HP.out d hd).2 hd7
          have RS : Hid (8 * j + d ≤ p → s = 8 * j + d) := hid fun q => by
            rw [← HS.out]
            refine comU_eq a k p _ q (fun i hi => ?_) (Or.inr P2)
            rcases Nat.lt_or_ge i (8 * j) with q2 | q2
            · exact HA.out i q2
            · have := P1 (i - 8 * j) (by omega) (by omega)
              rwa [show 8 * j + (i - 8 * j) = i by omega] at this
          have RP : Hid (p ≤ 8 * j + d → s = p) := hid fun q => by
            rw [← HS.out]
            refine comU_eq a k p _ (Nat.le_refl _) (fun i hi => ?_) (Or.inl rfl)
            rcases Nat.lt_or_ge i (8 * j) with q2 | q2
            · exact HA.out i q2
            · have := P1 (i - 8 * j) (by omega) (by omega)
              rwa [show 8 * j + (i - 8 * j) = i by omega] at this
          clear HP HL P1 P2 hd
          have cz' : ((z : Int) != 0) = true := by simpa using cz
          by_cases c2 : 8 * j + d ≤ p
          all_goals
            go_wp2
            go_quiet (fail)
            go_wp2_with (go_at_call 21; refine (HC.out _).mono ?_; rintro e w' ⟨rfl, rfl⟩)
            go_ret
            first
              | exact ⟨ret_int (by rw [RS.out (by omega)]; omega), B0.out.trans ((hdr.more _).below _)⟩
              | exact ⟨ret_int (by rw [RP.out (by omega)]), B0.out.trans ((hdr.more _).below _)⟩
      · have c1' : ¬ (j : Int) * 8 < (p : Int) := by omega
        have RP : s = p := by
          rw [← HS.out]
          exact comU_eq a k p _ (Nat.le_refl _) (HA.out.mono (by omega)) (Or.inl rfl)
        subst RP
        go_wp2
        go_ret
        exact ⟨rfl, B0.out.trans (hdr.below _)⟩

theorem and_one8 (x : Int) (h0 : 0 ≤ x) (h1 : x ≤ 255) : bits .and .u8 x 1 = x % 2 :=
  bits_mask .u8 8 (by decide) wraps_u8 1 (by decide) x h0 (by omega)

set_option maxHeartbeats 1000000 in
set_option maxRecDepth 100000 in
theorem bit_at (a : List Int) (n : Int) (i : Nat) (w : World) (ba : ∀ x ∈ a, 0 ≤ x ∧ x ≤ 255) (hi : i < 128) :
    Calls Try.prog 18 #[.agg #[.int .u8 (byt a 0), .int .u8 (byt a 1), .int .u8 (byt a 2), .int .u8 (byt a 3), .int .u8 (byt a 4), .int .u8 (byt a 5), .int .u8 (byt a 6), .int .u8 (byt a 7), .int .u8 (byt a 8), .int .u8 (byt a 9), .int .u8 (byt a 10), .int .u8 (byt a 11), .int .u8 (byt a 12), .int .u8 (byt a 13), .int .u8 (byt a 14), .int .u8 (byt a 15), .int .i64 n], .int .i64 (i : Int)] w fun e w' => e = .returned (.int .i64 (bitN a i)) ∧ Below w.heap.size w w' := by
  have K1 := hid (Bl.new 52 w #[.int .u8 (byt a 0), .int .u8 (byt a 1), .int .u8 (byt a 2), .int .u8 (byt a 3), .int .u8 (byt a 4), .int .u8 (byt a 5), .int .u8 (byt a 6), .int .u8 (byt a 7), .int .u8 (byt a 8), .int .u8 (byt a 9), .int .u8 (byt a 10), .int .u8 (byt a 11), .int .u8 (byt a 12), .int .u8 (byt a 13), .int .u8 (byt a 14), .int .u8 (byt a 15), .int .i64 n])
  have B0 := hid ((Below.refl w.heap.size w).alloc (Nat.le_refl _) (.cells #[.int .u8 (byt a 0), .int .u8 (byt a 1), .int .u8 (byt a 2), .int .u8 (byt a 3), .int .u8 (byt a 4), .int .u8 (byt a 5), .int .u8 (byt a 6), .int .u8 (byt a 7), .int .u8 (byt a 8), .int .u8 (byt a 9), .int .u8 (byt a 10), .int .u8 (byt a 11), .int .u8 (byt a 12), .int .u8 (byt a 13), .int .u8 (byt a 14), .int .u8 (byt a 15), .int .i64 n] 52))
  obtain ⟨q, hq⟩ : ∃ q, i / 8 = q := ⟨_, rfl⟩
  obtain ⟨r, hr⟩ : ∃ r, i % 8 = r := ⟨_, rfl⟩
  have ea : (i : Int) / 8 = (q : Int) := by omega
  have er : (i : Int) % 8 = (r : Int) := by omega
  have hr8 : (r : Int) ≤ 7 := by omega
  have hq16 : (q : Int) < 16 := by omega
  have hqn : q < 16 := by omega
  obtain ⟨x, hx, lx⟩ := byt_nat ba q
  have HB : Hid (bitN a i = (x : Int) / 2 ^ (7 - r) % 2) := hid (by rw [byt_bit, hq, hr, hx])
  rw [HB.out]
  have hX0 : 0 ≤ (x : Int) / 2 ^ (7 - r) ∧ (x : Int) / 2 ^ (7 - r) ≤ 255 := by
    have hp : (0 : Int) < 2 ^ (7 - r) := Int.pow_pos (by omega)
    refine ⟨Int.ediv_nonneg (by omega) (Int.le_of_lt hp), ?_⟩
    have := Int.ediv_le_self (2 ^ (7 - r)) (show (0 : Int) ≤ (x : Int) by omega)
    omega
  obtain ⟨h0, h1⟩ := hX0
  have hand := and_one8 _ h0 h1
  obtain ⟨Z, hZ⟩ : ∃ Z, (x : Int) / 2 ^ (7 - r) % 2 = Z := ⟨_, rfl⟩
  have z0 : 0 ≤ Z := by omega
  have z1 : Z ≤ 1 := by omega
  rw [hZ] at hand ⊢
  clear hZ HB hq hr
  have y : ∀ u, u = w.alloc (.cells #[.int .u8 (byt a 0), .int .u8 (byt a 1), .int .u8 (byt a 2), .int .u8 (byt a 3), .int .u8 (byt a 4), .int .u8 (byt a 5), .int .u8 (byt a 6), .int .u8 (byt a 7), .int .u8 (byt a 8), .int .u8 (byt a 9), .int .u8 (byt a 10), .int .u8 (byt a 11), .int .u8 (byt a 12), .int .u8 (byt a 13), .int .u8 (byt a 14), .int .u8 (byt a 15), .int .i64 n] 52) → u.cell? ⟨w.heap.size, q, none⟩ = some (.int .u8 (x : Int)) := fun u hu => by
    rw [hu, ← hx]; exact K1.out.cell (beg_at a n q hqn)
  have Y := hid y
  clear y hx
  go_enter Try.func18, Try.ntmps18
  go_upto_region 1 with fail
  generalize hW : w.alloc (.cells #[.int .u8 (byt a 0), .int .u8 (byt a 1), .int .u8 (byt a 2), .int .u8 (byt a 3), .int .u8 (byt a 4), .int .u8 (byt a 5), .int .u8 (byt a 6), .int .u8 (byt a 7), .int .u8 (byt a 8), .int .u8 (byt a 9), .int .u8 (byt a 10), .int .u8 (byt a 11), .int .u8 (byt a 12), .int .u8 (byt a 13), .int .u8 (byt a 14), .int .u8 (byt a 15), .int .i64 n] 52) = W0 at *
  have y1 := Y.out W0 rfl
  clear Y
  have HW := hid hW
  clear hW
  go_wp2
  go_ret
  exact ⟨rfl, B0.out⟩

set_option maxHeartbeats 400000 in
set_option maxRecDepth 100000 in
theorem new_at (w : World) : Calls Try.prog 8 #[] w fun e w' => e = .returned (.pointer (some ⟨w.heap.size, 0, none⟩)) ∧ Bl 46 w' w.heap.size #[.pointer none, .int .i64 0] ∧ Below w.heap.size w w' := by
  go_enter Try.func8, Try.ntmps8
  go_wp2
  go_ret
  exact ⟨rfl, Bl.new _ _ _, (Below.refl _ _).alloc (Nat.le_refl _) _⟩

set_option maxHeartbeats 400000 in
set_option maxRecDepth 100000 in
theorem tlen_at (w : World) (tb : Nat) (p : Value) (c : Int) (h : Bl 46 w tb #[p, .int .i64 c]) : Calls Try.prog 12 #[.pointer (some ⟨tb, 0, none⟩)] w fun e w' => e = .returned (.int .i64 c) ∧ w = w' := by
  have y := h.cell (i := 1) rfl
  go_enter Try.func12, Try.ntmps12
  go_wp2
  go_ret
  exact ⟨rfl, rfl⟩

end Go.Proofs.Ytoakpkpdipgfoaa
