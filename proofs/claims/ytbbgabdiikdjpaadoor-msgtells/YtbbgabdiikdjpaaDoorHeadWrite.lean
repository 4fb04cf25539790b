/-
  The walk of head.Write: a header that may be is its four bytes, in memory of its own; another one has an error.
-/
import Derived.Test.YtbbgabdiikdjpaaDoorHead
import Derived.Test.YtbbgabdiikdjpaaDoorRrFind
namespace Go.Proofs.YtbbgabdiikdjpaaDoor
open Go.RowKit Go.Deep

theorem or_bit (t p : Int) (k : Nat) (hk : k < 61) (hp : (2 : Int) ^ k = p) (h0 : 0 ≤ t) (h1 : t < 2 ^ 61) (hb : t / p % 2 = 0) : bits .or .i64 t p = t + p := by
  subst hp
  obtain ⟨a, rfl⟩ := Int.eq_ofNat_of_zero_le h0
  have ha : a < 2 ^ 61 := by exact_mod_cast h1
  have hb' : a / 2 ^ k % 2 = 0 := by exact_mod_cast hb
  have hk2 : 2 ^ k < 2 ^ 62 := Nat.pow_lt_pow_right (by decide) (by omega)
  have hc : ((2 : Int) ^ k) = ((2 ^ k : Nat) : Int) := by simp
  have hlo : a % 2 ^ (k + 1) < 2 ^ k := by
    rw [Nat.pow_succ, Nat.mod_mul, hb', Nat.mul_zero, Nat.add_zero]
    exact Nat.mod_lt _ (Nat.two_pow_pos k)
  have hq : a = 2 ^ (k + 1) * (a / 2 ^ (k + 1)) + a % 2 ^ (k + 1) := (Nat.div_add_mod a (2 ^ (k + 1))).symm
  have hs : 2 ^ (k + 1) = 2 ^ k + 2 ^ k := by rw [Nat.pow_succ]; omega
  rw [hc, (bits_nat .i64 62 (by decide) wrap_i64 a _ (by omega) hk2).2]
  generalize a / 2 ^ (k + 1) = q at *
  generalize hl : a % 2 ^ (k + 1) = l at *
  have e1 : a ||| 2 ^ k = a + 2 ^ k := by
    rw [hq, Nat.two_pow_add_eq_or_of_lt (by omega) q, Nat.or_assoc, Nat.or_comm l, ]
    have e2 : 2 ^ k ||| l = 2 ^ k + l := by
      have := Nat.two_pow_add_eq_or_of_lt hlo 1
      rw [Nat.mul_one] at this
      exact this.symm
    rw [e2, ← Nat.two_pow_add_eq_or_of_lt (by omega) q, ← Nat.two_pow_add_eq_or_of_lt (by omega) q]
    omega
  rw [e1]
  simp

/-- A flag as a number. -/
def bn (b : Bool) : Int := if b then 1 else 0

theorem bn_true : bn true = 1 := rfl
theorem bn_false : bn false = 0 := rfl
theorem bn_two (b : Bool) : bn b = 0 ∨ bn b = 1 := by cases b <;> simp [bn]

/-- What the last two bytes of a header count, with the flags up to a place. -/
def wordK (k : Int) (an : Bool) (op : Int) (aa tc rd ra z ad cd : Bool) (code : Int) : Int :=
  op * 2048 + code + (if 4 < k then bn cd * 16 else 0) + (if 5 < k then bn ad * 32 else 0) + (if 6 < k then bn z * 64 else 0) + (if 7 < k then bn ra * 128 else 0) + (if 8 < k then bn rd * 256 else 0) + (if 9 < k then bn tc * 512 else 0) + (if 10 < k then bn aa * 1024 else 0) + (if 15 < k then bn an * 32768 else 0)

theorem wordK_off_cd {x op code : Int} {an aa tc rd ra z ad : Bool} (h : x = wordK 4 an op aa tc rd ra z ad false code) : x = wordK 5 an op aa tc rd ra z ad false code := by
  rw [h]; simp [wordK, bn_false]

theorem wordK_on_cd {x op code : Int} {an aa tc rd ra z ad : Bool} (h : x = wordK 4 an op aa tc rd ra z ad true code) : x + 16 = wordK 5 an op aa tc rd ra z ad true code := by
  rw [h]; simp [wordK, bn_true]

theorem wordK_or_cd {x op code : Int} {an aa tc rd ra z ad : Bool} (ho0 : 0 ≤ op) (ho1 : op ≤ 15) (hc0 : 0 ≤ code) (hc1 : code ≤ 15) (h : x = wordK 4 an op aa tc rd ra z ad true code) : bits .or .i64 x 16 = x + 16 := by
  have h_an := bn_two an
  have h_aa := bn_two aa
  have h_tc := bn_two tc
  have h_rd := bn_two rd
  have h_ra := bn_two ra
  have h_z := bn_two z
  have h_ad := bn_two ad
  simp [wordK] at h
  exact or_bit x 16 4 (by decide) (by decide) (by omega) (by omega) (by omega)

theorem wordK_off_ad {x op code : Int} {an aa tc rd ra z cd : Bool} (h : x = wordK 5 an op aa tc rd ra z false cd code) : x = wordK 6 an op aa tc rd ra z false cd code := by
  rw [h]; simp [wordK, bn_false]

theorem wordK_on_ad {x op code : Int} {an aa tc rd ra z cd : Bool} (h : x = wordK 5 an op aa tc rd ra z true cd code) : x + 32 = wordK 6 an op aa tc rd ra z true cd code := by
  rw [h]; simp [wordK, bn_true]

theorem wordK_or_ad {x op code : Int} {an aa tc rd ra z cd : Bool} (ho0 : 0 ≤ op) (ho1 : op ≤ 15) (hc0 : 0 ≤ code) (hc1 : code ≤ 15) (h : x = wordK 5 an op aa tc rd ra z true cd code) : bits .or .i64 x 32 = x + 32 := by
  have h_an := bn_two an
  have h_aa := bn_two aa
  have h_tc := bn_two tc
  have h_rd := bn_two rd
  have h_ra := bn_two ra
  have h_z := bn_two z
  have h_cd := bn_two cd
  simp [wordK] at h
  exact or_bit x 32 5 (by decide) (by decide) (by omega) (by omega) (by omega)

theorem wordK_off_z {x op code : Int} {an aa tc rd ra ad cd : Bool} (h : x = wordK 6 an op aa tc rd ra false ad cd code) : x = wordK 7 an op aa tc rd ra false ad cd code := by
  rw [h]; simp [wordK, bn_false]

theorem wordK_on_z {x op code : Int} {an aa tc rd ra ad cd : Bool} (h : x = wordK 6 an op aa tc rd ra true ad cd code) : x + 64 = wordK 7 an op aa tc rd ra true ad cd code := by
  rw [h]; simp [wordK, bn_true]

theorem wordK_or_z {x op code : Int} {an aa tc rd ra ad cd : Bool} (ho0 : 0 ≤ op) (ho1 : op ≤ 15) (hc0 : 0 ≤ code) (hc1 : code ≤ 15) (h : x = wordK 6 an op aa tc rd ra true ad cd code) : bits .or .i64 x 64 = x + 64 := by
  have h_an := bn_two an
  have h_aa := bn_two aa
  have h_tc := bn_two tc
  have h_rd := bn_two rd
  have h_ra := bn_two ra
  have h_ad := bn_two ad
  have h_cd := bn_two cd
  simp [wordK] at h
  exact or_bit x 64 6 (by decide) (by decide) (by omega) (by omega) (by omega)

theorem wordK_off_ra {x op code : Int} {an aa tc rd z ad cd : Bool} (h : x = wordK 7 an op aa tc rd false z ad cd code) : x = wordK 8 an op aa tc rd false z ad cd code := by
  rw [h]; simp [wordK, bn_false]

theorem wordK_on_ra {x op code : Int} {an aa tc rd z ad cd : Bool} (h : x = wordK 7 an op aa tc rd true z ad cd code) : x + 128 = wordK 8 an op aa tc rd true z ad cd code := by
  rw [h]; simp [wordK, bn_true]

theorem wordK_or_ra {x op code : Int} {an aa tc rd z ad cd : Bool} (ho0 : 0 ≤ op) (ho1 : op ≤ 15) (hc0 : 0 ≤ code) (hc1 : code ≤ 15) (h : x = wordK 7 an op aa tc rd true z ad cd code) : bits .or .i64 x 128 = x + 128 := by
  have h_an := bn_two an
  have h_aa := bn_two aa
  have h_tc := bn_two tc
  have h_rd := bn_two rd
  have h_z := bn_two z
  have h_ad := bn_two ad
  have h_cd := bn_two cd
  simp [wordK] at h
  exact or_bit x 128 7 (by decide) (by decide) (by omega) (by omega) (by omega)

theorem wordK_off_rd {x op code : Int} {an aa tc ra z ad cd : Bool} (h : x = wordK 8 an op aa tc false ra z ad cd code) : x = wordK 9 an op aa tc false ra z ad cd code := by
  rw [h]; simp [wordK, bn_false]

theorem wordK_on_rd {x op code : Int} {an aa tc ra z ad cd : Bool} (h : x = wordK 8 an op aa tc true ra z ad cd code) : x + 256 = wordK 9 an op aa tc true ra z ad cd code := by
  rw [h]; simp [wordK, bn_true]

theorem wordK_or_rd {x op code : Int} {an aa tc ra z ad cd : Bool} (ho0 : 0 ≤ op) (ho1 : op ≤ 15) (hc0 : 0 ≤ code) (hc1 : code ≤ 15) (h : x = wordK 8 an op aa tc true ra z ad cd code) : bits .or .i64 x 256 = x + 256 := by
  have h_an := bn_two an
  have h_aa := bn_two aa
  have h_tc := bn_two tc
  have h_ra := bn_two ra
  have h_z := bn_two z
  have h_ad := bn_two ad
  have h_cd := bn_two cd
  simp [wordK] at h
  exact or_bit x 256 8 (by decide) (by decide) (by omega) (by omega) (by omega)

theorem wordK_off_tc {x op code : Int} {an aa rd ra z ad cd : Bool} (h : x = wordK 9 an op aa false rd ra z ad cd code) : x = wordK 10 an op aa false rd ra z ad cd code := by
  rw [h]; simp [wordK, bn_false]

theorem wordK_on_tc {x op code : Int} {an aa rd ra z ad cd : Bool} (h : x = wordK 9 an op aa true rd ra z ad cd code) : x + 512 = wordK 10 an op aa true rd ra z ad cd code := by
  rw [h]; simp [wordK, bn_true]

theorem wordK_or_tc {x op code : Int} {an aa rd ra z ad cd : Bool} (ho0 : 0 ≤ op) (ho1 : op ≤ 15) (hc0 : 0 ≤ code) (hc1 : code ≤ 15) (h : x = wordK 9 an op aa true rd ra z ad cd code) : bits .or .i64 x 512 = x + 512 := by
  have h_an := bn_two an
  have h_aa := bn_two aa
  have h_rd := bn_two rd
  have h_ra := bn_two ra
  have h_z := bn_two z
  have h_ad := bn_two ad
  have h_cd := bn_two cd
  simp [wordK] at h
  exact or_bit x 512 9 (by decide) (by decide) (by omega) (by omega) (by omega)

theorem wordK_off_aa {x op code : Int} {an tc rd ra z ad cd : Bool} (h : x = wordK 10 an op false tc rd ra z ad cd code) : x = wordK 11 an op false tc rd ra z ad cd code := by
  rw [h]; simp [wordK, bn_false]

theorem wordK_on_aa {x op code : Int} {an tc rd ra z ad cd : Bool} (h : x = wordK 10 an op true tc rd ra z ad cd code) : x + 1024 = wordK 11 an op true tc rd ra z ad cd code := by
  rw [h]; simp [wordK, bn_true]

theorem wordK_or_aa {x op code : Int} {an tc rd ra z ad cd : Bool} (ho0 : 0 ≤ op) (ho1 : op ≤ 15) (hc0 : 0 ≤ code) (hc1 : code ≤ 15) (h : x = wordK 10 an op true tc rd ra z ad cd code) : bits .or .i64 x 1024 = x + 1024 := by
  have h_an := bn_two an
  have h_tc := bn_two tc
  have h_rd := bn_two rd
  have h_ra := bn_two ra
  have h_z := bn_two z
  have h_ad := bn_two ad
  have h_cd := bn_two cd
  simp [wordK] at h
  exact or_bit x 1024 10 (by decide) (by decide) (by omega) (by omega) (by omega)

theorem wordK_off_an {x op code : Int} {aa tc rd ra z ad cd : Bool} (h : x = wordK 15 false op aa tc rd ra z ad cd code) : x = wordK 16 false op aa tc rd ra z ad cd code := by
  rw [h]; simp [wordK, bn_false]

theorem wordK_on_an {x op code : Int} {aa tc rd ra z ad cd : Bool} (h : x = wordK 15 true op aa tc rd ra z ad cd code) : x + 32768 = wordK 16 true op aa tc rd ra z ad cd code := by
  rw [h]; simp [wordK, bn_true]

theorem wordK_or_an {x op code : Int} {aa tc rd ra z ad cd : Bool} (ho0 : 0 ≤ op) (ho1 : op ≤ 15) (hc0 : 0 ≤ code) (hc1 : code ≤ 15) (h : x = wordK 15 true op aa tc rd ra z ad cd code) : bits .or .i64 x 32768 = x + 32768 := by
  have h_aa := bn_two aa
  have h_tc := bn_two tc
  have h_rd := bn_two rd
  have h_ra := bn_two ra
  have h_z := bn_two z
  have h_ad := bn_two ad
  have h_cd := bn_two cd
  simp [wordK] at h
  exact or_bit x 32768 15 (by decide) (by decide) (by omega) (by omega) (by omega)

/-- The bytes of a header. -/
def headN (id : Int) (an : Bool) (op : Int) (aa tc rd ra z ad cd : Bool) (code : Int) : List Int :=
  [id / 256, id % 256, wordK 16 an op aa tc rd ra z ad cd code / 256, wordK 16 an op aa tc rd ra z ad cd code % 256]

theorem headN_bytes {id op code : Int} {an aa tc rd ra z ad cd : Bool} (hi0 : 0 ≤ id) (hi1 : id ≤ 65535) (ho0 : 0 ≤ op) (ho1 : op ≤ 15) (hc0 : 0 ≤ code) (hc1 : code ≤ 15) : ∀ b ∈ headN id an op aa tc rd ra z ad cd code, 0 ≤ b ∧ b ≤ 255 := by
  have h1 := bn_two an
  have h2 := bn_two aa
  have h3 := bn_two tc
  have h4 := bn_two rd
  have h5 := bn_two ra
  have h6 := bn_two z
  have h7 := bn_two ad
  have h8 := bn_two cd
  have hw : wordK 16 an op aa tc rd ra z ad cd code = op * 2048 + code + bn cd * 16 + bn ad * 32 + bn z * 64 + bn ra * 128 + bn rd * 256 + bn tc * 512 + bn aa * 1024 + bn an * 32768 := by simp [wordK]
  unfold headN
  simp only [List.mem_cons, List.not_mem_nil, or_false]
  rintro b (rfl | rfl | rfl | rfl) <;> omega

theorem rowb_new4 {w : World} {B : Nat} {v : Value} {xs : List Int} (h : Rowb w B v xs) (hl : xs.length = 4) (hb : ∀ b ∈ xs, 0 ≤ b ∧ b ≤ 255) : ∃ x c, v = .slice x 4 c ∧ Bys w x c xs ∧ ∀ p, x = some p → B ≤ p.block := by
  have h0 := h
  obtain ⟨x, c, e, hs⟩ := rowb_bys h0 (by omega) hb
  rw [hl] at e
  subst e
  refine ⟨x, c, rfl, hs, fun p q => ?_⟩
  rcases h.2 with ⟨e, h4⟩ | ⟨g, cap, cur, e, hg, _⟩
  · omega
  · simp only [Value.slice.injEq] at e
    rw [e.1] at q
    cases q
    exact hg

set_option maxHeartbeats 2000000 in
set_option maxRecDepth 100000 in
theorem hwrite_good (id op code : Int) (an aa tc rd ra z ad cd : Bool) (w : World) (hi0 : 0 ≤ id) (hi1 : id ≤ 65535) (ho0 : 0 ≤ op) (ho1 : op ≤ 15) (hc0 : 0 ≤ code) (hc1 : code ≤ 15) :
    Calls Tryd.prog 62 #[.agg #[.int .i64 id, .bool an, .int .i64 op, .bool aa, .bool tc, .bool rd, .bool ra, .bool z, .bool ad, .bool cd, .int .i64 code]] w fun e w' => ∃ x c, e = .returned (.tuple #[.slice x 4 c, .nilIface]) ∧ Rowb w' w.heap.size (.slice x 4 c) (headN id an op aa tc rd ra z ad cd code) ∧ Bys w' x c (headN id an op aa tc rd ra z ad cd code) ∧ Below w.heap.size w w' := by
  have hor0 : bits .or .i64 (op * 2048) code = op * 2048 + code := bits_join .i64 62 (by decide) wrap_i64 11 (op * 2048) code (by omega) (by omega) (by omega) hc0 (by omega) (by omega)
  go_enter Tryd.func62, Tryd.ntmps62
  go_wp2_with fail
  refine (fits_at true id 65535 _ (decide_eq_true ⟨hi0, hi1⟩)).mono ?_
  rintro e _ ⟨rfl, rfl⟩
  go_wp2_with fail
  refine (fits_at true op 15 _ (decide_eq_true ⟨ho0, ho1⟩)).mono ?_
  rintro e _ ⟨rfl, rfl⟩
  go_wp2_with fail
  refine (fits_at true code 15 _ (decide_eq_true ⟨hc0, hc1⟩)).mono ?_
  rintro e _ ⟨rfl, rfl⟩
  go_wp2_with fail
  refine (flags_any w.heap.size _).mono ?_
  rintro e w1 ⟨rfl, b1⟩
  have k0 : w1.cell? ⟨w.heap.size, 0, none⟩ = some (.int .i64 id) := by rw [b1.cell (p := ⟨w.heap.size, 0, none⟩) (by simp), World.cell?_alloc_at _ _ _ _ rfl]; rfl
  have k1 : w1.cell? ⟨w.heap.size, 1, none⟩ = some (.bool an) := by rw [b1.cell (p := ⟨w.heap.size, 1, none⟩) (by simp), World.cell?_alloc_at _ _ _ _ rfl]; rfl
  have k2 : w1.cell? ⟨w.heap.size, 2, none⟩ = some (.int .i64 op) := by rw [b1.cell (p := ⟨w.heap.size, 2, none⟩) (by simp), World.cell?_alloc_at _ _ _ _ rfl]; rfl
  have k3 : w1.cell? ⟨w.heap.size, 3, none⟩ = some (.bool aa) := by rw [b1.cell (p := ⟨w.heap.size, 3, none⟩) (by simp), World.cell?_alloc_at _ _ _ _ rfl]; rfl
  have k4 : w1.cell? ⟨w.heap.size, 4, none⟩ = some (.bool tc) := by rw [b1.cell (p := ⟨w.heap.size, 4, none⟩) (by simp), World.cell?_alloc_at _ _ _ _ rfl]; rfl
  have k5 : w1.cell? ⟨w.heap.size, 5, none⟩ = some (.bool rd) := by rw [b1.cell (p := ⟨w.heap.size, 5, none⟩) (by simp), World.cell?_alloc_at _ _ _ _ rfl]; rfl
  have k6 : w1.cell? ⟨w.heap.size, 6, none⟩ = some (.bool ra) := by rw [b1.cell (p := ⟨w.heap.size, 6, none⟩) (by simp), World.cell?_alloc_at _ _ _ _ rfl]; rfl
  have k7 : w1.cell? ⟨w.heap.size, 7, none⟩ = some (.bool z) := by rw [b1.cell (p := ⟨w.heap.size, 7, none⟩) (by simp), World.cell?_alloc_at _ _ _ _ rfl]; rfl
  have k8 : w1.cell? ⟨w.heap.size, 8, none⟩ = some (.bool ad) := by rw [b1.cell (p := ⟨w.heap.size, 8, none⟩) (by simp), World.cell?_alloc_at _ _ _ _ rfl]; rfl
  have k9 : w1.cell? ⟨w.heap.size, 9, none⟩ = some (.bool cd) := by rw [b1.cell (p := ⟨w.heap.size, 9, none⟩) (by simp), World.cell?_alloc_at _ _ _ _ rfl]; rfl
  have k10 : w1.cell? ⟨w.heap.size, 10, none⟩ = some (.int .i64 code) := by rw [b1.cell (p := ⟨w.heap.size, 10, none⟩) (by simp), World.cell?_alloc_at _ _ _ _ rfl]; rfl
  have B1 := hid (grown_on ((Below.refl _ w).alloc (Nat.le_refl _) _) b1)
  have hw1 : w.heap.size < w1.heap.size := by have := b1.size; simp at this; omega
  clear b1
  have i0 : ∀ u : World, (Instr.index 116 (flagsV w.heap.size) (.int .i64 0)).run Tryd.prog u = .ok (.pointer none) u := fun _ => by kernel_rfl
  have i1 : ∀ u : World, (Instr.index 116 (flagsV w.heap.size) (.int .i64 1)).run Tryd.prog u = .ok (.pointer none) u := fun _ => by kernel_rfl
  have i2 : ∀ u : World, (Instr.index 116 (flagsV w.heap.size) (.int .i64 2)).run Tryd.prog u = .ok (.pointer none) u := fun _ => by kernel_rfl
  have i3 : ∀ u : World, (Instr.index 116 (flagsV w.heap.size) (.int .i64 3)).run Tryd.prog u = .ok (.pointer none) u := fun _ => by kernel_rfl
  have i4 : ∀ u : World, (Instr.index 116 (flagsV w.heap.size) (.int .i64 4)).run Tryd.prog u = .ok (.pointer (some ⟨w.heap.size, 9, none⟩)) u := fun _ => by kernel_rfl
  have i5 : ∀ u : World, (Instr.index 116 (flagsV w.heap.size) (.int .i64 5)).run Tryd.prog u = .ok (.pointer (some ⟨w.heap.size, 8, none⟩)) u := fun _ => by kernel_rfl
  have i6 : ∀ u : World, (Instr.index 116 (flagsV w.heap.size) (.int .i64 6)).run Tryd.prog u = .ok (.pointer (some ⟨w.heap.size, 7, none⟩)) u := fun _ => by kernel_rfl
  have i7 : ∀ u : World, (Instr.index 116 (flagsV w.heap.size) (.int .i64 7)).run Tryd.prog u = .ok (.pointer (some ⟨w.heap.size, 6, none⟩)) u := fun _ => by kernel_rfl
  have i8 : ∀ u : World, (Instr.index 116 (flagsV w.heap.size) (.int .i64 8)).run Tryd.prog u = .ok (.pointer (some ⟨w.heap.size, 5, none⟩)) u := fun _ => by kernel_rfl
  have i9 : ∀ u : World, (Instr.index 116 (flagsV w.heap.size) (.int .i64 9)).run Tryd.prog u = .ok (.pointer (some ⟨w.heap.size, 4, none⟩)) u := fun _ => by kernel_rfl
  have i10 : ∀ u : World, (Instr.index 116 (flagsV w.heap.size) (.int .i64 10)).run Tryd.prog u = .ok (.pointer (some ⟨w.heap.size, 3, none⟩)) u := fun _ => by kernel_rfl
  have i11 : ∀ u : World, (Instr.index 116 (flagsV w.heap.size) (.int .i64 11)).run Tryd.prog u = .ok (.pointer none) u := fun _ => by kernel_rfl
  have i12 : ∀ u : World, (Instr.index 116 (flagsV w.heap.size) (.int .i64 12)).run Tryd.prog u = .ok (.pointer none) u := fun _ => by kernel_rfl
  have i13 : ∀ u : World, (Instr.index 116 (flagsV w.heap.size) (.int .i64 13)).run Tryd.prog u = .ok (.pointer none) u := fun _ => by kernel_rfl
  have i14 : ∀ u : World, (Instr.index 116 (flagsV w.heap.size) (.int .i64 14)).run Tryd.prog u = .ok (.pointer none) u := fun _ => by kernel_rfl
  have i15 : ∀ u : World, (Instr.index 116 (flagsV w.heap.size) (.int .i64 15)).run Tryd.prog u = .ok (.pointer (some ⟨w.heap.size, 1, none⟩)) u := fun _ => by kernel_rfl
  go_wp2_with fail
  go_loopw [4, 31] (fun t i wr => ∃ n x : Int, 0 ≤ n ∧ n ≤ 16 ∧ i = .int .i64 n ∧ t = .int .i64 x ∧ x = wordK n an op aa tc rd ra z ad cd code ∧ wr = w1) (fun _ i _ => 16 - (intOf i).toNat)
  case atStart => exact ⟨0, _, by omega, by omega, rfl, rfl, by simp [wordK], rfl⟩
  case round =>
    obtain ⟨n, x, hn0, hn1, rfl, rfl, hx, rfl⟩ := hrel
    have HX := hid hx
    clear hx
    have hcs : n = 0 ∨ n = 1 ∨ n = 2 ∨ n = 3 ∨ n = 4 ∨ n = 5 ∨ n = 6 ∨ n = 7 ∨ n = 8 ∨ n = 9 ∨ n = 10 ∨ n = 11 ∨ n = 12 ∨ n = 13 ∨ n = 14 ∨ n = 15 ∨ n = 16 := by omega
    clear hn0 hn1
    rcases hcs with rfl | rfl | rfl | rfl | rfl | rfl | rfl | rfl | rfl | rfl | rfl | rfl | rfl | rfl | rfl | rfl | rfl
    · go_wp2
      exact ⟨⟨1, x, by omega, by omega, rfl, rfl, HX.out.trans (by simp [wordK]), by trivial⟩, by simp [intOf]⟩
    · go_wp2
      exact ⟨⟨2, x, by omega, by omega, rfl, rfl, HX.out.trans (by simp [wordK]), by trivial⟩, by simp [intOf]⟩
    · go_wp2
      exact ⟨⟨3, x, by omega, by omega, rfl, rfl, HX.out.trans (by simp [wordK]), by trivial⟩, by simp [intOf]⟩
    · go_wp2
      exact ⟨⟨4, x, by omega, by omega, rfl, rfl, HX.out.trans (by simp [wordK]), by trivial⟩, by simp [intOf]⟩
    · cases cd with
      | false =>
        go_wp2
        exact ⟨⟨5, x, by omega, by omega, rfl, rfl, wordK_off_cd HX.out, by trivial⟩, by simp [intOf]⟩
      | true =>
        have hor := wordK_or_cd ho0 ho1 hc0 hc1 HX.out
        go_wp2
        exact ⟨⟨5, x + 16, by omega, by omega, rfl, rfl, wordK_on_cd HX.out, by trivial⟩, by simp [intOf]⟩
    · cases ad with
      | false =>
        go_wp2
        exact ⟨⟨6, x, by omega, by omega, rfl, rfl, wordK_off_ad HX.out, by trivial⟩, by simp [intOf]⟩
      | true =>
        have hor := wordK_or_ad ho0 ho1 hc0 hc1 HX.out
        go_wp2
        exact ⟨⟨6, x + 32, by omega, by omega, rfl, rfl, wordK_on_ad HX.out, by trivial⟩, by simp [intOf]⟩
    · cases z with
      | false =>
        go_wp2
        exact ⟨⟨7, x, by omega, by omega, rfl, rfl, wordK_off_z HX.out, by trivial⟩, by simp [intOf]⟩
      | true =>
        have hor := wordK_or_z ho0 ho1 hc0 hc1 HX.out
        go_wp2
        exact ⟨⟨7, x + 64, by omega, by omega, rfl, rfl, wordK_on_z HX.out, by trivial⟩, by simp [intOf]⟩
    · cases ra with
      | false =>
        go_wp2
        exact ⟨⟨8, x, by omega, by omega, rfl, rfl, wordK_off_ra HX.out, by trivial⟩, by simp [intOf]⟩
      | true =>
        have hor := wordK_or_ra ho0 ho1 hc0 hc1 HX.out
        go_wp2
        exact ⟨⟨8, x + 128, by omega, by omega, rfl, rfl, wordK_on_ra HX.out, by trivial⟩, by simp [intOf]⟩
    · cases rd with
      | false =>
        go_wp2
        exact ⟨⟨9, x, by omega, by omega, rfl, rfl, wordK_off_rd HX.out, by trivial⟩, by simp [intOf]⟩
      | true =>
        have hor := wordK_or_rd ho0 ho1 hc0 hc1 HX.out
        go_wp2
        exact ⟨⟨9, x + 256, by omega, by omega, rfl, rfl, wordK_on_rd HX.out, by trivial⟩, by simp [intOf]⟩
    · cases tc with
      | false =>
        go_wp2
        exact ⟨⟨10, x, by omega, by omega, rfl, rfl, wordK_off_tc HX.out, by trivial⟩, by simp [intOf]⟩
      | true =>
        have hor := wordK_or_tc ho0 ho1 hc0 hc1 HX.out
        go_wp2
        exact ⟨⟨10, x + 512, by omega, by omega, rfl, rfl, wordK_on_tc HX.out, by trivial⟩, by simp [intOf]⟩
    · cases aa with
      | false =>
        go_wp2
        exact ⟨⟨11, x, by omega, by omega, rfl, rfl, wordK_off_aa HX.out, by trivial⟩, by simp [intOf]⟩
      | true =>
        have hor := wordK_or_aa ho0 ho1 hc0 hc1 HX.out
        go_wp2
        exact ⟨⟨11, x + 1024, by omega, by omega, rfl, rfl, wordK_on_aa HX.out, by trivial⟩, by simp [intOf]⟩
    · go_wp2
      exact ⟨⟨12, x, by omega, by omega, rfl, rfl, HX.out.trans (by simp [wordK]), by trivial⟩, by simp [intOf]⟩
    · go_wp2
      exact ⟨⟨13, x, by omega, by omega, rfl, rfl, HX.out.trans (by simp [wordK]), by trivial⟩, by simp [intOf]⟩
    · go_wp2
      exact ⟨⟨14, x, by omega, by omega, rfl, rfl, HX.out.trans (by simp [wordK]), by trivial⟩, by simp [intOf]⟩
    · go_wp2
      exact ⟨⟨15, x, by omega, by omega, rfl, rfl, HX.out.trans (by simp [wordK]), by trivial⟩, by simp [intOf]⟩
    · cases an with
      | false =>
        go_wp2
        exact ⟨⟨16, x, by omega, by omega, rfl, rfl, wordK_off_an HX.out, by trivial⟩, by simp [intOf]⟩
      | true =>
        have hor := wordK_or_an ho0 ho1 hc0 hc1 HX.out
        go_wp2
        exact ⟨⟨16, x + 32768, by omega, by omega, rfl, rfl, wordK_on_an HX.out, by trivial⟩, by simp [intOf]⟩
    · have hB := hid (headN_bytes (an := an) (aa := aa) (tc := tc) (rd := rd) (ra := ra) (z := z) (ad := ad) (cd := cd) hi0 hi1 ho0 ho1 hc0 hc1)
      go_wp2_with fail
      refine (appendTwo_any w.heap.size (.slice none 0 0) [] id _ (World.ownsRow_nil _ _ _ _) (by simp) (Nat.le_of_lt hw1)).mono ?_
      rintro e w2 ⟨v2, rfl, hr2, b2, _⟩
      have hs2 : w.heap.size ≤ w2.heap.size := Nat.le_trans (Nat.le_of_lt hw1) b2.size
      have B2 := hid (B1.out.trans b2)
      clear b2
      go_wp2_with fail
      refine (appendTwo_any w.heap.size v2 ([] ++ twoN id) x _ hr2 (by simp [twoN]) hs2).mono ?_
      rintro e w3 ⟨v3, rfl, hr3, b3, _⟩
      have B3 := hid (B2.out.trans b3)
      have he : [] ++ twoN id ++ twoN x = headN id an op aa tc rd ra z ad cd code := by
        have hxw := HX.out
        have h2 := hB.out (wordK 16 an op aa tc rd ra z ad cd code / 256) (by simp [headN])
        unfold headN twoN
        rw [← hxw] at h2 ⊢
        have e1 : x / 256 % 256 = x / 256 := by omega
        have e2 : id / 256 % 256 = id / 256 := by omega
        rw [e1, e2]
        rfl
      rw [he] at hr3
      obtain ⟨xx, cc, rfl, hs, _⟩ := rowb_new4 hr3 (by simp [headN]) hB.out
      clear b3 he
      go_wp2_with fail
      go_ret2
      exact ⟨xx, cc, rfl, hr3, hs, B3.out⟩

set_option maxHeartbeats 1000000 in
set_option maxRecDepth 100000 in
theorem hwrite_bad (id op code : Int) (an aa tc rd ra z ad cd : Bool) (w : World) (h : ¬ ((0 ≤ id ∧ id ≤ 65535) ∧ (0 ≤ op ∧ op ≤ 15) ∧ (0 ≤ code ∧ code ≤ 15))) :
    Calls Tryd.prog 62 #[.agg #[.int .i64 id, .bool an, .int .i64 op, .bool aa, .bool tc, .bool rd, .bool ra, .bool z, .bool ad, .bool cd, .int .i64 code]] w fun e w' => e = .returned (.tuple #[.slice none 0 0, .iface 29 (.int .i64 6)]) ∧ Below w.heap.size w w' := by
  by_cases h1 : 0 ≤ id ∧ id ≤ 65535
  · by_cases h2 : 0 ≤ op ∧ op ≤ 15
    · have h3 : ¬ (0 ≤ code ∧ code ≤ 15) := fun q => h ⟨h1, h2, q⟩
      go_enter Tryd.func62, Tryd.ntmps62
      go_wp2_with fail
      refine (fits_at true id 65535 _ (decide_eq_true h1)).mono ?_
      rintro e _ ⟨rfl, rfl⟩
      go_wp2_with fail
      refine (fits_at true op 15 _ (decide_eq_true h2)).mono ?_
      rintro e _ ⟨rfl, rfl⟩
      go_wp2_with fail
      refine (fits_at false code 15 _ (decide_eq_false h3)).mono ?_
      rintro e _ ⟨rfl, rfl⟩
      go_wp2_with fail
      go_ret2
      exact ⟨rfl, (Below.refl _ w).alloc (Nat.le_refl _) _⟩
    · go_enter Tryd.func62, Tryd.ntmps62
      go_wp2_with fail
      refine (fits_at true id 65535 _ (decide_eq_true h1)).mono ?_
      rintro e _ ⟨rfl, rfl⟩
      go_wp2_with fail
      refine (fits_at false op 15 _ (decide_eq_false h2)).mono ?_
      rintro e _ ⟨rfl, rfl⟩
      go_wp2_with fail
      go_ret2
      exact ⟨rfl, (Below.refl _ w).alloc (Nat.le_refl _) _⟩
  · go_enter Tryd.func62, Tryd.ntmps62
    go_wp2_with fail
    refine (fits_at false id 65535 _ (decide_eq_false h1)).mono ?_
    rintro e _ ⟨rfl, rfl⟩
    go_wp2_with fail
    go_ret2
    exact ⟨rfl, (Below.refl _ w).alloc (Nat.le_refl _) _⟩

end Go.Proofs.YtbbgabdiikdjpaaDoor
