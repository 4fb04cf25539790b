/-
  The walks of the document's own answers on subnets: BitOf, Masked, Wide.
-/
import Derived.Test.YtgfplkhcihcagaaDoorSubEnc
namespace Go.Proofs.YtgfplkhcihcagaaDoor
open Go.RowKit Go.Deep

/-- A bit of an address. -/
def bitN (xs : List Int) (i : Nat) : Int := xs.getD (i / 8) 0 / 2 ^ (7 - i % 8) % 2

theorem half_pow (x : Int) (a : Nat) : x / 2 ^ a / 2 = x / 2 ^ (a + 1) := by
  rw [Int.ediv_ediv_of_nonneg (by exact Int.le_of_lt (Int.pow_pos (by omega))), Int.pow_succ]

theorem div_pow_bd (x : Int) (a : Nat) (h0 : 0 ≤ x) (h1 : x ≤ 255) : 0 ≤ x / 2 ^ a ∧ x / 2 ^ a ≤ 255 := by
  have hp : (0 : Int) < 2 ^ a := Int.pow_pos (by omega)
  refine ⟨Int.ediv_nonneg h0 (Int.le_of_lt hp), ?_⟩
  have := Int.ediv_le_self (2 ^ a) h0
  omega

set_option maxHeartbeats 1000000 in
set_option maxRecDepth 100000 in
theorem bitOf_at {x : Option Addr} {c l : Nat} (i : Nat) (xs : List Int) (w : World) (h : Bys w x c xs) (hl : xs.length = l) (hi : i < 8 * xs.length) (hb : i < 4000000000000000) :
    Calls Tryd.prog 64 #[.slice x l c, .int .i64 (i : Int)] w fun e w' => e = .returned (.int .i64 (bitN xs i)) ∧ w = w' := by
  subst hl
  have hlen : xs.length ≤ 200000000000000 := h.2.1
  obtain ⟨_, _, hbs, d⟩ := h
  rcases d with d | ⟨b, off, rfl, _, q⟩
  · rw [d] at hi; simp at hi
  obtain ⟨a, ha⟩ : ∃ a, i / 8 = a := ⟨_, rfl⟩
  obtain ⟨r, hr⟩ : ∃ r, i % 8 = r := ⟨_, rfl⟩
  have ea : (i : Int) / 8 = (a : Int) := by omega
  have er : (i : Int) % 8 = (r : Int) := by omega
  have hr8 : r < 8 := by omega
  have hal : a < xs.length := by omega
  have q0 := q a hal
  obtain ⟨g0, g1⟩ := getD_byte hbs a
  have HR : Hid (bitN xs i = xs.getD a 0 / 2 ^ (7 - r) % 2) := hid (by unfold bitN; rw [ha, hr])
  rw [HR.out]
  clear q HR ha hr
  generalize xs.getD a 0 = X at *
  have hai : (a : Int) < (xs.length : Int) := by omega
  go_enter Tryd.func64, Tryd.ntmps64
  go_wp2
  go_loop [5, 6] (fun t k => ∃ n : Nat, n ≤ 7 ∧ r ≤ n ∧ k = .int .i64 (n : Int) ∧ t = .int .i64 (X / 2 ^ (7 - n))) (fun _ k => (intOf k).toNat)
  case atStart => exact ⟨7, by omega, by omega, rfl, by simp⟩
  case round =>
    obtain ⟨n, hn7, hrn, rfl, rfl⟩ := hrel
    obtain ⟨d0, d1⟩ := div_pow_bd X (7 - n) g0 g1
    have HP := hid (half_pow X (7 - n))
    by_cases hlt : r < n
    · generalize hY : X / 2 ^ (7 - n) = Y at *
      go_wp2
      go_round
      case rel => exact ⟨n - 1, by omega, by omega, by go_num, by rw [HP.out, show 7 - n + 1 = 7 - (n - 1) by omega]⟩
      case measure => simp [intOf]; omega
    · obtain rfl : n = r := by omega
      generalize hY : X / 2 ^ (7 - n) = Y at *
      have HY := hid hY
      clear hY
      go_wp2
      go_ret
      exact ⟨ret_int (by rw [HY.out]), rfl⟩

theorem bit_top0 : ∀ (x : Fin 256) (c : Fin 9) (k : Fin 8), topB c.val (x.val : Int) / 2 ^ (7 - k.val) = 2 * (topB c.val (x.val : Int) / 2 ^ (8 - k.val)) + if k.val < c.val then (x.val : Int) / 2 ^ (7 - k.val) % 2 else 0 := by decide +kernel

theorem bit_top (x : Int) (c k : Nat) (h0 : 0 ≤ x) (h1 : x ≤ 255) (hc : c ≤ 8) (hk : k < 8) : topB c x / 2 ^ (7 - k) = 2 * (topB c x / 2 ^ (8 - k)) + if k < c then x / 2 ^ (7 - k) % 2 else 0 := by
  have := bit_top0 ⟨x.toNat, by omega⟩ ⟨c, by omega⟩ ⟨k, hk⟩
  simp only at this
  rwa [show ((x.toNat : Nat) : Int) = x by omega] at this

/-- What Masked hands back. -/
def MaskR (n : Nat) (xs : List Int) (w : World) (e : Ending) (w' : World) : Prop :=
  ∃ v, e = .returned v ∧ Rowb w' w.heap.size v (maskN n xs) ∧ Below w.heap.size w w'

theorem mask_next {n i : Nat} {xs : List Int} (hi : i < xs.length) : (maskN n xs).take (i + 1) = (maskN n xs).take i ++ [topB (min 8 (n - 8 * i)) (xs.getD i 0)] := by
  rw [← maskN_getD]
  exact take_snoc (by rw [maskN_len]; exact hi)

set_option maxHeartbeats 2000000 in
set_option maxRecDepth 100000 in
theorem rmasked_any {x : Option Addr} {c l : Nat} (n : Nat) (xs : List Int) (w : World) (h : Bys w x c xs) (hl : xs.length = l) (hn : n ≤ 8 * xs.length) (hl2 : xs.length ≤ 140737488351232) :
    Calls Tryd.prog 24 #[.slice x l c, .int .i64 (n : Int)] w (MaskR n xs w) := by
  subst hl
  have hbs := h.2.2.1
  obtain ⟨i0, hi, hz0, hz1, hz2⟩ := info_of_byte
  go_enter Tryd.func24, Tryd.ntmps24
  go_wp2
  go_loopw [5, 6] (fun o t wr => ∃ i : Nat, i ≤ xs.length ∧ t = .int .i64 (i : Int) ∧ Rowb wr w.heap.size o ((maskN n xs).take i) ∧ Below w.heap.size w wr) (fun _ t _ => xs.length - (intOf t).toNat)
  case atStart => exact ⟨0, Nat.zero_le _, rfl, World.ownsRow_nil _ _ _ _, Below.refl _ _⟩
  case round =>
    obtain ⟨i, hil, rfl, hrow, hbel⟩ := hrel
    have HR := hid hrow
    have HB := hid hbel
    clear hrow hbel
    by_cases hlt : i < xs.length
    · have hgx := h.below HB.out
      obtain ⟨g0, g1⟩ := getD_byte hbs i
      have HX := hid hgx
      have HN := hid (mask_next (n := n) hlt)
      obtain ⟨cc, hcc⟩ : ∃ cc, min 8 (n - 8 * i) = cc := ⟨_, rfl⟩
      have hc8 : cc ≤ 8 := by omega
      have HC := hid hcc
      rw [hcc] at HN
      clear hgx
      have HBT : Hid (∀ k, k < 8 → topB cc (xs.getD i 0) / 2 ^ (7 - k) = 2 * (topB cc (xs.getD i 0) / 2 ^ (8 - k)) + if k < cc then xs.getD i 0 / 2 ^ (7 - k) % 2 else 0) := hid fun k hk => bit_top _ cc k g0 g1 hc8 hk
      have HBit : Hid (∀ k, k < 8 → bitN xs (8 * i + k) = xs.getD i 0 / 2 ^ (7 - k) % 2) := hid fun k hk => by unfold bitN; rw [show (8 * i + k) / 8 = i by omega, show (8 * i + k) % 8 = k by omega]
      have HTb := hid (topB_byte cc _ g0 g1)
      generalize xs.getD i 0 = X at *
      go_wp2
      go_loop [7, 8] (fun t k => ∃ m : Nat, m ≤ 8 ∧ k = .int .i64 (m : Int) ∧ t = .int .i64 (topB cc X / 2 ^ (8 - m))) (fun _ k => 8 - (intOf k).toNat)
      case atStart => exact ⟨0, by omega, rfl, by have := HTb.out; rw [Int.ediv_eq_zero_of_lt this.1 (by omega)]⟩
      case round =>
        obtain ⟨m, hm8, rfl, rfl⟩ := hrel
        obtain ⟨t0, t1⟩ := div_pow_bd (topB cc X) (8 - m) HTb.out.1 HTb.out.2
        by_cases hm : m < 8
        · have HY := hid (HBT.out m hm)
          have HZ := hid (HBit.out m hm)
          have C1 : Hid (8 * i + m < n → Calls Tryd.prog 64 #[.slice x xs.length c, .int .i64 (8 * (i : Int) + (m : Int))] wr fun e w' => e = .returned (.int .i64 (X / 2 ^ (7 - m) % 2)) ∧ wr = w') := hid fun q => by
            have hc := bitOf_at (8 * i + m) xs wr HX.out rfl (by omega) (by omega)
            rw [HZ.out] at hc
            rwa [show ((8 * i + m : Nat) : Int) = 8 * (i : Int) + (m : Int) by omega] at hc
          have b0 : 0 ≤ X / 2 ^ (7 - m) % 2 := Int.emod_nonneg _ (by decide)
          have b1 : X / 2 ^ (7 - m) % 2 < 2 := Int.emod_lt_of_pos _ (by decide)
          have hmc : Hid (m < cc ↔ 8 * i + m < n) := hid (by rw [← HC.out]; omega)
          generalize hT : topB cc X / 2 ^ (8 - m) = T at *
          generalize X / 2 ^ (7 - m) % 2 = bt at *
          have HT := hid hT
          clear hT hcc
          by_cases hin : 8 * i + m < n
          · have C2 := hid (C1.out hin)
            have hY : Hid (topB cc X / 2 ^ (7 - m) = 2 * T + bt) := hid (by rw [HY.out, if_pos (hmc.out.2 hin)])
            have hin2 : 8 * (i : Int) + (m : Int) < (n : Int) := by omega
            clear C1 HY hmc HBT HBit HZ
            go_wp2_with (go_at_call 64; refine C2.out.mono ?_; rintro e w' ⟨rfl, rfl⟩)
            go_round
            case rel => exact ⟨m + 1, by omega, by go_num, by rw [show 8 - (m + 1) = 7 - m by omega, hY.out]⟩
            case measure => simp [intOf]; omega
          · have hY : Hid (topB cc X / 2 ^ (7 - m) = 2 * T) := hid (by rw [HY.out, if_neg (fun q => hin (hmc.out.1 q))]; omega)
            have hin2 : ¬ 8 * (i : Int) + (m : Int) < (n : Int) := by omega
            clear C1 HY hmc HBT HBit HZ
            go_wp2
            go_round
            case rel => exact ⟨m + 1, by omega, by go_num, by rw [show 8 - (m + 1) = 7 - m by omega, hY.out]⟩
            case measure => simp [intOf]; omega
        · obtain rfl : m = 8 := by omega
          have e8 : topB cc X / 2 ^ (8 - 8) = topB cc X := by simp
          rw [e8]
          obtain ⟨tb0, tb1⟩ := HTb.out
          have HL : Hid (((maskN n xs).take i).length = i) := hid (by rw [List.length_take, maskN_len]; omega)
          have hown : wr.ownsRow w.heap.size 5 1 u5 i (((maskN n xs).take i).map (Value.int .u8)) := by have := HR.out; unfold Rowb at this; rwa [HL.out] at this
          have hle := HB.out.size
          clear e8 HBT HBit t0 t1 hcc
          generalize hTT : topB cc X = TT at *
          have HTT := hid hTT
          clear hTT
          go_wp2_with (at_builtin; refine wpList_append_own_wide _ rfl _ _ 22 rfl w.heap.size 5 i0 (.int .u8 0) 1 1 Tryd.underlying22 hi hz0 hz1 hz2 rfl (by decide) _ _ _ rfl (hown.alloc _) ⟨wr.heap.size, 0, none⟩ 1 1 [.int .u8 TT] rfl rfl (cells_new wr [.int .u8 TT] 5) (one_cells [TT]) (by unfold maxLen; omega) (by omega) (by simp; omega) ?_)
          intro v1 w1 hown1 hgrow1 _
          have R1 : Hid (Rowb w1 w.heap.size v1 ((maskN n xs).take (i + 1))) := hid (by rw [HN.out]; exact Rowb.of hown1 (by simp [HL.out]) (by simp))
          have B1 : Hid (Below w.heap.size w w1) := hid (grown_below (hown.alloc _) (HB.out.alloc hle _) (by simp; omega) hgrow1)
          clear hown hown1 hgrow1 HN HR HB
          go_wp2_with fail
          exact ⟨⟨i + 1, by omega, by go_num, R1.out, B1.out⟩, by simp [intOf]; omega⟩
    · have e : (maskN n xs).take i = maskN n xs := List.take_of_length_le (by rw [maskN_len]; omega)
      rw [e] at HR
      go_wp2
      go_ret
      exact ⟨_, rfl, HR.out, HB.out⟩

end Go.Proofs.YtgfplkhcihcagaaDoor
