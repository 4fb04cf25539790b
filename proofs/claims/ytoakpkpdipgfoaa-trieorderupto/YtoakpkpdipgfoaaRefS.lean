/-
  The walks of the document's own answers on subnets: BitOf, Masked, Wide.
-/
import Derived.Test.YtoakpkpdipgfoaaSubEnc
import Derived.Test.YtoakpkpdipgfoaaBit
namespace Go.Proofs.Ytoakpkpdipgfoaa
open Go.RowKit Go.Deep

theorem half_pow (x : Int) (a : Nat) : x / 2 ^ a / 2 = x / 2 ^ (a + 1) := by
  rw [Int.ediv_ediv_of_nonneg (by exact Int.le_of_lt (Int.pow_pos (by omega))), Int.pow_succ]

theorem div_pow_bd (x : Int) (a : Nat) (h0 : 0 ≤ x) (h1 : x ≤ 255) : 0 ≤ x / 2 ^ a ∧ x / 2 ^ a ≤ 255 := by
  have hp : (0 : Int) < 2 ^ a := Int.pow_pos (by omega)
  refine ⟨Int.ediv_nonneg h0 (Int.le_of_lt hp), ?_⟩
  have := Int.ediv_le_self (2 ^ a) h0
  omega

set_option maxHeartbeats 1000000 in
set_option maxRecDepth 100000 in
theorem bitOf_at {x : Option Addr} {c l : Nat} (i : Nat) (xs : List Int) (w : World) (h : Bys w x c xs) (hl : xs.length = l) (hi : i < 8 * xs.length) (hb : i < 4000000000000000) :
    Calls Try.prog 19 #[.slice x l c, .int .i64 (i : Int)] w fun e w' => e = .returned (.int .i64 (bitN xs i)) ∧ w = w' := by
  subst hl
  have hlen : xs.length ≤ 200000000000000 := h.2.1
  obtain ⟨_, _, hbs, d⟩ := h
  rcases d with d | ⟨b, off, rfl, _, q⟩
  · rw [d] at hi; simp at hi
  obtain ⟨a, ha⟩ : ∃ a, i / 8 = a := ⟨_, rfl⟩
  obtain ⟨r, hr⟩ : ∃ r, i % 8 = r := ⟨_, rfl⟩
  have ea : (i : Int) / 8 = (a : Int) := by omega
  have er : (i : Int) % 8 = (r : Int) := by omega
  have hr8 : r < 8 := by omega
  have hal : a < xs.length := by omega
  have q0 := q a hal
  obtain ⟨g0, g1⟩ := getD_byte hbs a
  have HR : Hid (bitN xs i = xs.getD a 0 / 2 ^ (7 - r) % 2) := hid (by unfold bitN; rw [ha, hr])
  rw [HR.out]
  clear q HR ha hr
  generalize xs.getD a 0 = X at *
  have hai : (a : Int) < (xs.length : Int) := by omega
  go_enter Try.func19, Try.ntmps19
  go_wp2
  go_loop [5, 6] (fun t k => ∃ n : Nat, n ≤ 7 ∧ r ≤ n ∧ k = .int .i64 (n : Int) ∧ t = .int .i64 (X / 2 ^ (7 - n))) (fun _ k => (intOf k).toNat)
  case atStart => exact ⟨7, by omega, by omega, rfl, by simp⟩
  case round =>
    obtain ⟨n, hn7, hrn, rfl, rfl⟩ := hrel
    obtain ⟨d0, d1⟩ := div_pow_bd X (7 - n) g0 g1
    have HP := hid (half_pow X (7 - n))
    by_cases hlt : r < n
    · generalize hY : X / 2 ^ (7 - n) = Y at *
      go_wp2
      go_round
      case rel => exact ⟨n - 1, by omega, by omega, by go_num, by rw [HP.out, show 7 - n + 1 = 7 - (n - 1) by omega]⟩
      case measure => simp [intOf]; omega
    · obtain rfl : n = r := by omega
      generalize hY : X / 2 ^ (7 - n) = Y at *
      have HY := hid hY
      clear hY
      go_wp2
      go_ret
      exact ⟨ret_int (by rw [HY.out]), rfl⟩

theorem bit_top0 : ∀ (x : Fin 256) (c : Fin 9) (k : Fin 8), topB c.val (x.val : Int) / 2 ^ (7 - k.val) = 2 * (topB c.val (x.val : Int) / 2 ^ (8 - k.val)) + if k.val < c.val then (x.val : Int) / 2 ^ (7 - k.val) % 2 else 0 := by decide +kernel

theorem bit_top (x : Int) (c k : Nat) (h0 : 0 ≤ x) (h1 : x ≤ 255) (hc : c ≤ 8) (hk : k < 8) : topB c x / 2 ^ (7 - k) = 2 * (topB c x / 2 ^ (8 - k)) + if k < c then x / 2 ^ (7 - k) % 2 else 0 := by
  have := bit_top0 ⟨x.toNat, by omega⟩ ⟨c, by omega⟩ ⟨k, hk⟩
  simp only at this
  rwa [show ((x.toNat : Nat) : Int) = x by omega] at this

/-- What Masked hands back. -/
def MaskR (n : Nat) (xs : List Int) (w : World) (e : Ending) (w' : World) : Prop :=
  ∃ v, e = .returned v ∧ Rowb w' w.heap.size v (maskN n xs) ∧ Below w.heap.size w w'

theorem mask_next {n i : Nat} {xs : List Int} (hi : i < xs.length) : (maskN n xs).take (i + 1) = (maskN n xs).take i ++ [topB (min 8 (n - 8 * i)) (xs.getD i 0)] := by
  rw [← maskN_getD]
  exact take_snoc (by rw [maskN_len]; exact hi)

end Go.Proofs.Ytoakpkpdipgfoaa
