/-
  The walks of the document's own answer on headers: HeadFault, one, HeadBytes, bit, HeadOf.
-/
import Derived.Test.YtjpahieeaojieaaDoorHeadFacts
import Derived.BigQuiet
import Derived.Test.YtjpahieeaojieaaDoorLast
namespace Go.Proofs.YtjpahieeaojieaaDoor
open Go.RowKit Go.Deep

set_option maxHeartbeats 1000000 in
theorem hfault_good (id op code : Int) (an aa tc rd ra z ad cd : Bool) (w : World) (hi0 : 0 ≤ id) (hi1 : id ≤ 65535) (ho0 : 0 ≤ op) (ho1 : op ≤ 15) (hc0 : 0 ≤ code) (hc1 : code ≤ 15) :
    Calls Tryd.prog 7 #[.agg #[.int .i64 id, .bool an, .int .i64 op, .bool aa, .bool tc, .bool rd, .bool ra, .bool z, .bool ad, .bool cd, .int .i64 code]] w fun e w' => e = .returned (.int .i64 0) ∧ Below w.heap.size w w' := by
  go_enter Tryd.func7, Tryd.ntmps7
  go_wp2
  go_ret
  exact ⟨rfl, (Below.refl _ w).alloc (Nat.le_refl _) _⟩

set_option maxHeartbeats 2000000 in
theorem hfault_bad (id op code : Int) (an aa tc rd ra z ad cd : Bool) (w : World) (h : ¬ ((0 ≤ id ∧ id ≤ 65535) ∧ (0 ≤ op ∧ op ≤ 15) ∧ (0 ≤ code ∧ code ≤ 15))) :
    Calls Tryd.prog 7 #[.agg #[.int .i64 id, .bool an, .int .i64 op, .bool aa, .bool tc, .bool rd, .bool ra, .bool z, .bool ad, .bool cd, .int .i64 code]] w fun e w' => e = .returned (.int .i64 6) ∧ Below w.heap.size w w' := by
  by_cases h1 : id < 0
  · go_enter Tryd.func7, Tryd.ntmps7
    go_wp2
    go_ret
    exact ⟨rfl, (Below.refl _ w).alloc (Nat.le_refl _) _⟩
  by_cases h2 : 65535 < id
  · go_enter Tryd.func7, Tryd.ntmps7
    go_wp2
    go_ret
    exact ⟨rfl, (Below.refl _ w).alloc (Nat.le_refl _) _⟩
  by_cases h3 : op < 0
  · go_enter Tryd.func7, Tryd.ntmps7
    go_wp2
    go_ret
    exact ⟨rfl, (Below.refl _ w).alloc (Nat.le_refl _) _⟩
  by_cases h4 : 15 < op
  · go_enter Tryd.func7, Tryd.ntmps7
    go_wp2
    go_ret
    exact ⟨rfl, (Below.refl _ w).alloc (Nat.le_refl _) _⟩
  by_cases h5 : code < 0
  · go_enter Tryd.func7, Tryd.ntmps7
    go_wp2
    go_ret
    exact ⟨rfl, (Below.refl _ w).alloc (Nat.le_refl _) _⟩
  have h6 : 15 < code := by omega
  clear h
  go_enter Tryd.func7, Tryd.ntmps7
  go_wp2
  go_ret
  exact ⟨rfl, (Below.refl _ w).alloc (Nat.le_refl _) _⟩

theorem one_any (b : Bool) (n : Int) (w : World) :
    Calls Tryd.prog 19 #[.bool b, .int .i64 n] w fun e w' => e = .returned (.int .i64 (bn b * n)) ∧ w' = w := by
  cases b with
  | false =>
    go_enter Tryd.func19, Tryd.ntmps19
    go_wp2
    go_ret
    exact ⟨by simp [bn], rfl⟩
  | true =>
    go_enter Tryd.func19, Tryd.ntmps19
    go_wp2
    go_ret
    exact ⟨by simp [bn], rfl⟩

set_option maxHeartbeats 1000000 in
theorem bit_any (b : Int) (i : Nat) (w : World) (h0 : 0 ≤ b) (h1 : b ≤ 255) (hi : i ≤ 7) :
    Calls Tryd.prog 24 #[.int .u8 b, .int .i64 (i : Int)] w fun e w' => e = .returned (.bool (b / 2 ^ i % 2 == 1)) ∧ w' = w := by
  go_enter Tryd.func24, Tryd.ntmps24
  go_wp2
  go_loopw [5, 6] (fun x k wr => ∃ (n : Nat) (y : Int), n ≤ i ∧ k = .int .i64 (n : Int) ∧ x = .int .i64 y ∧ y = b / 2 ^ n ∧ wr = w) (fun _ k _ => i - (intOf k).toNat)
  case atStart => exact ⟨0, b, Nat.zero_le _, rfl, rfl, by simp, rfl⟩
  case round =>
    obtain ⟨n, y, hn, rfl, rfl, hy, rfl⟩ := hrel
    have y0 : 0 ≤ y := by rw [hy]; exact Int.ediv_nonneg h0 (Int.le_of_lt (Int.pow_pos (by decide)))
    have y1 : y ≤ 255 := by rw [hy]; exact Int.le_trans (Int.ediv_le_self _ h0) h1
    have HY := hid hy
    clear hy
    by_cases c : n < i
    · go_wp2
      exact ⟨⟨n + 1, y / 2, by omega, by go_num, rfl, by rw [HY.out, Int.pow_succ, Int.ediv_ediv_of_nonneg (Int.le_of_lt (Int.pow_pos (by decide)))], by trivial⟩, by simp [intOf]; omega⟩
    · obtain rfl : n = i := by omega
      go_wp2
      have hh := HY.out
      subst hh
      go_ret
      exact ⟨rfl, rfl⟩

theorem bn_low (b : Bool) : 0 ≤ bn b := by cases b <;> decide
theorem bn_high (b : Bool) : bn b ≤ 1 := by cases b <;> decide

set_option maxHeartbeats 2000000 in
set_option maxRecDepth 100000 in
theorem hbytes_good (id op code : Int) (an aa tc rd ra z ad cd : Bool) (w : World) (hi0 : 0 ≤ id) (hi1 : id ≤ 65535) (ho0 : 0 ≤ op) (ho1 : op ≤ 15) (hc0 : 0 ≤ code) (hc1 : code ≤ 15) :
    Calls Tryd.prog 8 #[.agg #[.int .i64 id, .bool an, .int .i64 op, .bool aa, .bool tc, .bool rd, .bool ra, .bool z, .bool ad, .bool cd, .int .i64 code]] w fun e w' => ∃ g, e = .returned (.slice (some ⟨g, 0, none⟩) 4 4) ∧ Bys w' (some ⟨g, 0, none⟩) 4 (headN id an op aa tc rd ra z ad cd code) ∧ Below w.heap.size w w' ∧ w.heap.size ≤ g := by
  have l1 := bn_low an
  have l2 := bn_low aa
  have l3 := bn_low tc
  have l4 := bn_low rd
  have u1 := bn_high an
  have u2 := bn_high aa
  have u3 := bn_high tc
  have u4 := bn_high rd
  go_enter Tryd.func8, Tryd.ntmps8
  go_wp2
  go_quiet (first | (go_at_call 19; exact Calls.quiet_of_same (one_any _ _ _)))
  go_wp2
  have K0 := (Blk.new w #[.int .i64 id, .bool an, .int .i64 op, .bool aa, .bool tc, .bool rd, .bool ra, .bool z, .bool ad, .bool cd, .int .i64 code]).drewN nq
  have B0 := grown_on ((Below.refl _ w).alloc (Nat.le_refl _) (.cells #[.int .i64 id, .bool an, .int .i64 op, .bool aa, .bool tc, .bool rd, .bool ra, .bool z, .bool ad, .bool cd, .int .i64 code] 23)) (((Drawn.refl _).more nq).below _)
  generalize ((w.alloc (.cells #[.int .i64 id, .bool an, .int .i64 op, .bool aa, .bool tc, .bool rd, .bool ra, .bool z, .bool ad, .bool cd, .int .i64 code] 23)).drewN nq) = W at *
  have c0 := K0.cell (i := 0) (v := .int .i64 id) rfl
  have c6 := K0.cell (i := 6) (v := .bool ra) rfl
  have c7 := K0.cell (i := 7) (v := .bool z) rfl
  have c8 := K0.cell (i := 8) (v := .bool ad) rfl
  have c9 := K0.cell (i := 9) (v := .bool cd) rfl
  have c10 := K0.cell (i := 10) (v := .int .i64 code) rfl
  have hlt := K0.lt
  have B1 := hid B0
  clear K0 B0
  obtain ⟨p, hp⟩ : ∃ p, bn an * 128 + op * 8 + bn aa * 4 + bn tc * 2 + bn rd = p := ⟨_, rfl⟩
  rw [hp]
  have p0 : 0 ≤ p := by omega
  have p1 : p ≤ 255 := by omega
  have HP := hid hp
  clear hp
  have l5 := bn_low ra
  have l6 := bn_low z
  have l7 := bn_low ad
  have l8 := bn_low cd
  have u5 := bn_high ra
  have u6 := bn_high z
  have u7 := bn_high ad
  have u8 := bn_high cd
  go_quiet (first | (go_at_call 19; exact Calls.quiet_of_same (one_any _ _ _)))
  go_wp2
  have hw := wordK_all an op aa tc rd ra z ad cd code
  have hp := HP.out
  have e : headN id an op aa tc rd ra z ad cd code = [id / 256, id % 256, p, bn ra * 128 + bn z * 64 + bn ad * 32 + bn cd * 16 + code] := by
    unfold headN
    have e1 : wordK 16 an op aa tc rd ra z ad cd code / 256 = p := by omega
    have e2 : wordK 16 an op aa tc rd ra z ad cd code % 256 = bn ra * 128 + bn z * 64 + bn ad * 32 + bn cd * 16 + code := by omega
    rw [e1, e2]
  have hB := headN_bytes (an := an) (aa := aa) (tc := tc) (rd := rd) (ra := ra) (z := z) (ad := ad) (cd := cd) hi0 hi1 ho0 ho1 hc0 hc1
  rw [e] at hB
  have B2 := grown_on B1.out (((Drawn.refl W).more nq).below _)
  clear hw hp HP
  go_ret
  refine ⟨(W.drewN nq).heap.size, rfl, ?_, B2.alloc B2.size _, B2.size⟩
  rw [e]
  exact bys_new (W.drewN nq) _ hB (by simp)

theorem hdOf_bytes {b0 b1 b2 b3 : Int} (h6 : 0 ≤ b3) (h7 : b3 ≤ 255) : hdOf (b0 * 256 + b1) (b2 * 256 + b3) = .agg #[.int .i64 (b0 * 256 + b1), .bool (b2 / 128 % 2 == 1), .int .i64 (b2 / 8 % 16), .bool (b2 / 4 % 2 == 1), .bool (b2 / 2 % 2 == 1), .bool (b2 % 2 == 1), .bool (b3 / 128 % 2 == 1), .bool (b3 / 64 % 2 == 1), .bool (b3 / 32 % 2 == 1), .bool (b3 / 16 % 2 == 1), .int .i64 (b3 % 16)] := by
  unfold hdOf
  have e1 : (b2 * 256 + b3) / 32768 % 2 = b2 / 128 % 2 := by omega
  have e3 : (b2 * 256 + b3) / 1024 % 2 = b2 / 4 % 2 := by omega
  have e4 : (b2 * 256 + b3) / 512 % 2 = b2 / 2 % 2 := by omega
  have e5 : (b2 * 256 + b3) / 256 % 2 = b2 % 2 := by omega
  have e6 : (b2 * 256 + b3) / 128 % 2 = b3 / 128 % 2 := by omega
  have e7 : (b2 * 256 + b3) / 64 % 2 = b3 / 64 % 2 := by omega
  have e8 : (b2 * 256 + b3) / 32 % 2 = b3 / 32 % 2 := by omega
  have e9 : (b2 * 256 + b3) / 16 % 2 = b3 / 16 % 2 := by omega
  have e2 : (b2 * 256 + b3) / 2048 % 16 = b2 / 8 % 16 := by omega
  have e10 : (b2 * 256 + b3) % 16 = b3 % 16 := by omega
  rw [e1, e2, e3, e4, e5, e6, e7, e8, e9, e10]

set_option maxHeartbeats 4000000 in
set_option maxRecDepth 100000 in
theorem hof_any (x : Option Addr) (c : Nat) (ms : List Int) (w : World) (h : Bys w x c ms) (hl : 4 ≤ ms.length) :
    Calls Tryd.prog 12 #[.slice x ms.length c] w fun e w' => e = .returned (hdOf (ms.getD 0 0 * 256 + ms.getD 1 0) (ms.getD 2 0 * 256 + ms.getD 3 0)) ∧ Below w.heap.size w w' := by
  have hl' : ms.length ≤ 200000000000000 := h.2.1
  obtain ⟨g0, g1⟩ := getD_byte h.2.2.1 0
  obtain ⟨g2, g3⟩ := getD_byte h.2.2.1 1
  obtain ⟨g4, g5⟩ := getD_byte h.2.2.1 2
  obtain ⟨g6, g7⟩ := getD_byte h.2.2.1 3
  have n0 : (0 : Int) < (ms.length : Int) := by omega
  have n1 : (1 : Int) < (ms.length : Int) := by omega
  have n2 : (2 : Int) < (ms.length : Int) := by omega
  have n3 : (3 : Int) < (ms.length : Int) := by omega
  obtain ⟨b, off, rfl, hlt, q⟩ : ∃ b off, x = some ⟨b, off, none⟩ ∧ b < w.heap.size ∧ ∀ i, i < ms.length → w.cell? ⟨b, off + i, none⟩ = some (.int .u8 (ms.getD i 0)) := by
    rcases h.2.2.2 with hd | hd
    · rw [hd] at hl; simp at hl
    · exact hd
  have q0 := q 0 (by omega)
  have q1 := q 1 (by omega)
  have q2 := q 2 (by omega)
  have q3 := q 3 (by omega)
  clear q h
  rw [Nat.add_zero] at q0
  generalize ms.getD 0 0 = b0 at *
  generalize ms.getD 1 0 = b1 at *
  generalize ms.getD 2 0 = b2 at *
  generalize ms.getD 3 0 = b3 at *
  go_enter Tryd.func12, Tryd.ntmps12
  go_wp2
  refine wp_region_last _ (by kernel_rfl) rfl (by kernel_rfl) ?_
  simp only [List.dropLast_cons_cons, List.dropLast_singleton]
  repeat (go_big_quiet_step (first
      | (go_at_call_of 24 (Value.int IntKind.i64 7); exact Calls.quiet_of_same (bit_any _ 7 _ (by omega) (by omega) (by omega)))
      | (go_at_call_of 24 (Value.int IntKind.i64 6); exact Calls.quiet_of_same (bit_any _ 6 _ (by omega) (by omega) (by omega)))
      | (go_at_call_of 24 (Value.int IntKind.i64 5); exact Calls.quiet_of_same (bit_any _ 5 _ (by omega) (by omega) (by omega)))
      | (go_at_call_of 24 (Value.int IntKind.i64 4); exact Calls.quiet_of_same (bit_any _ 4 _ (by omega) (by omega) (by omega)))
      | (go_at_call_of 24 (Value.int IntKind.i64 2); exact Calls.quiet_of_same (bit_any _ 2 _ (by omega) (by omega) (by omega)))
      | (go_at_call_of 24 (Value.int IntKind.i64 1); exact Calls.quiet_of_same (bit_any _ 1 _ (by omega) (by omega) (by omega)))
      | (go_at_call_of 24 (Value.int IntKind.i64 0); exact Calls.quiet_of_same (bit_any _ 0 _ (by omega) (by omega) (by omega)))))
  refine wpQuiet_nil ?_
  intro _ hw'
  obtain ⟨nq, rfl⟩ := hw'
  simp only [List.getLast_cons_cons, List.getLast_singleton]
  go_wp2
  have RR := (Blk.new w #[.int .i64 0, .bool false, .int .i64 0, .bool false, .bool false, .bool false, .bool false, .bool false, .bool false, .bool false, .int .i64 0]).drewN nq
  have BB := grown_on ((Below.refl _ w).alloc (Nat.le_refl _) (.cells #[.int .i64 0, .bool false, .int .i64 0, .bool false, .bool false, .bool false, .bool false, .bool false, .bool false, .bool false, .int .i64 0] 23)) (((Drawn.refl _).more nq).below _)
  have E : Blk (((((((((((((w.alloc (.cells #[.int .i64 0, .bool false, .int .i64 0, .bool false, .bool false, .bool false, .bool false, .bool false, .bool false, .bool false, .int .i64 0] 23)).drewN nq).setCell ⟨w.heap.size, 0, none⟩ (.int .i64 (b0 * 256 + b1))).setCell ⟨w.heap.size, 1, none⟩ (.bool (b2 / 128 % 2 == 1))).setCell ⟨w.heap.size, 2, none⟩ (.int .i64 (b2 / 8 % 16))).setCell ⟨w.heap.size, 3, none⟩ (.bool (b2 / 4 % 2 == 1))).setCell ⟨w.heap.size, 4, none⟩ (.bool (b2 / 2 % 2 == 1))).setCell ⟨w.heap.size, 5, none⟩ (.bool (b2 % 2 == 1))).setCell ⟨w.heap.size, 6, none⟩ (.bool (b3 / 128 % 2 == 1))).setCell ⟨w.heap.size, 7, none⟩ (.bool (b3 / 64 % 2 == 1))).setCell ⟨w.heap.size, 8, none⟩ (.bool (b3 / 32 % 2 == 1))).setCell ⟨w.heap.size, 9, none⟩ (.bool (b3 / 16 % 2 == 1))).setCell ⟨w.heap.size, 10, none⟩ (.int .i64 (b3 % 16))) w.heap.size #[.int .i64 (b0 * 256 + b1), .bool (b2 / 128 % 2 == 1), .int .i64 (b2 / 8 % 16), .bool (b2 / 4 % 2 == 1), .bool (b2 / 2 % 2 == 1), .bool (b2 % 2 == 1), .bool (b3 / 128 % 2 == 1), .bool (b3 / 64 % 2 == 1), .bool (b3 / 32 % 2 == 1), .bool (b3 / 16 % 2 == 1), .int .i64 (b3 % 16)] := by
    have := (((((((((((RR.set 0 (.int .i64 (b0 * 256 + b1))).set 1 (.bool (b2 / 128 % 2 == 1))).set 2 (.int .i64 (b2 / 8 % 16))).set 3 (.bool (b2 / 4 % 2 == 1))).set 4 (.bool (b2 / 2 % 2 == 1))).set 5 (.bool (b2 % 2 == 1))).set 6 (.bool (b3 / 128 % 2 == 1))).set 7 (.bool (b3 / 64 % 2 == 1))).set 8 (.bool (b3 / 32 % 2 == 1))).set 9 (.bool (b3 / 16 % 2 == 1))).set 10 (.int .i64 (b3 % 16)))
    simpa using this
  have F : Below w.heap.size w (((((((((((((w.alloc (.cells #[.int .i64 0, .bool false, .int .i64 0, .bool false, .bool false, .bool false, .bool false, .bool false, .bool false, .bool false, .int .i64 0] 23)).drewN nq).setCell ⟨w.heap.size, 0, none⟩ (.int .i64 (b0 * 256 + b1))).setCell ⟨w.heap.size, 1, none⟩ (.bool (b2 / 128 % 2 == 1))).setCell ⟨w.heap.size, 2, none⟩ (.int .i64 (b2 / 8 % 16))).setCell ⟨w.heap.size, 3, none⟩ (.bool (b2 / 4 % 2 == 1))).setCell ⟨w.heap.size, 4, none⟩ (.bool (b2 / 2 % 2 == 1))).setCell ⟨w.heap.size, 5, none⟩ (.bool (b2 % 2 == 1))).setCell ⟨w.heap.size, 6, none⟩ (.bool (b3 / 128 % 2 == 1))).setCell ⟨w.heap.size, 7, none⟩ (.bool (b3 / 64 % 2 == 1))).setCell ⟨w.heap.size, 8, none⟩ (.bool (b3 / 32 % 2 == 1))).setCell ⟨w.heap.size, 9, none⟩ (.bool (b3 / 16 % 2 == 1))).setCell ⟨w.heap.size, 10, none⟩ (.int .i64 (b3 % 16))) := (((((((((((BB.setCell (p := ⟨w.heap.size, 0, none⟩) (Nat.le_refl _) (.int .i64 (b0 * 256 + b1))).setCell (p := ⟨w.heap.size, 1, none⟩) (Nat.le_refl _) (.bool (b2 / 128 % 2 == 1))).setCell (p := ⟨w.heap.size, 2, none⟩) (Nat.le_refl _) (.int .i64 (b2 / 8 % 16))).setCell (p := ⟨w.heap.size, 3, none⟩) (Nat.le_refl _) (.bool (b2 / 4 % 2 == 1))).setCell (p := ⟨w.heap.size, 4, none⟩) (Nat.le_refl _) (.bool (b2 / 2 % 2 == 1))).setCell (p := ⟨w.heap.size, 5, none⟩) (Nat.le_refl _) (.bool (b2 % 2 == 1))).setCell (p := ⟨w.heap.size, 6, none⟩) (Nat.le_refl _) (.bool (b3 / 128 % 2 == 1))).setCell (p := ⟨w.heap.size, 7, none⟩) (Nat.le_refl _) (.bool (b3 / 64 % 2 == 1))).setCell (p := ⟨w.heap.size, 8, none⟩) (Nat.le_refl _) (.bool (b3 / 32 % 2 == 1))).setCell (p := ⟨w.heap.size, 9, none⟩) (Nat.le_refl _) (.bool (b3 / 16 % 2 == 1))).setCell (p := ⟨w.heap.size, 10, none⟩) (Nat.le_refl _) (.int .i64 (b3 % 16)))
  clear RR BB
  generalize (((((((((((((w.alloc (.cells #[.int .i64 0, .bool false, .int .i64 0, .bool false, .bool false, .bool false, .bool false, .bool false, .bool false, .bool false, .int .i64 0] 23)).drewN nq).setCell ⟨w.heap.size, 0, none⟩ (.int .i64 (b0 * 256 + b1))).setCell ⟨w.heap.size, 1, none⟩ (.bool (b2 / 128 % 2 == 1))).setCell ⟨w.heap.size, 2, none⟩ (.int .i64 (b2 / 8 % 16))).setCell ⟨w.heap.size, 3, none⟩ (.bool (b2 / 4 % 2 == 1))).setCell ⟨w.heap.size, 4, none⟩ (.bool (b2 / 2 % 2 == 1))).setCell ⟨w.heap.size, 5, none⟩ (.bool (b2 % 2 == 1))).setCell ⟨w.heap.size, 6, none⟩ (.bool (b3 / 128 % 2 == 1))).setCell ⟨w.heap.size, 7, none⟩ (.bool (b3 / 64 % 2 == 1))).setCell ⟨w.heap.size, 8, none⟩ (.bool (b3 / 32 % 2 == 1))).setCell ⟨w.heap.size, 9, none⟩ (.bool (b3 / 16 % 2 == 1))).setCell ⟨w.heap.size, 10, none⟩ (.int .i64 (b3 % 16))) = W2 at *
  have e0 := E.cell (i := 0) rfl
  have e1 := E.cell (i := 1) rfl
  have e2 := E.cell (i := 2) rfl
  have e3 := E.cell (i := 3) rfl
  have e4 := E.cell (i := 4) rfl
  have e5 := E.cell (i := 5) rfl
  have e6 := E.cell (i := 6) rfl
  have e7 := E.cell (i := 7) rfl
  have e8 := E.cell (i := 8) rfl
  have e9 := E.cell (i := 9) rfl
  have e10 := E.cell (i := 10) rfl
  refine bodyPost_ret (v := .agg #[.int .i64 (b0 * 256 + b1), .bool (b2 / 128 % 2 == 1), .int .i64 (b2 / 8 % 16), .bool (b2 / 4 % 2 == 1), .bool (b2 / 2 % 2 == 1), .bool (b2 % 2 == 1), .bool (b3 / 128 % 2 == 1), .bool (b3 / 64 % 2 == 1), .bool (b3 / 32 % 2 == 1), .bool (b3 / 16 % 2 == 1), .int .i64 (b3 % 16)]) (by simp [results, Tryd.results12, go_sem, e0, e1, e2, e3, e4, e5, e6, e7, e8, e9, e10]) rfl ?_
  exact ⟨by rw [hdOf_bytes g6 g7], F⟩

end Go.Proofs.YtjpahieeaojieaaDoor
