/-
  Plain: a header's bytes are its fields, and four bytes are the bytes of their header.
-/
import Derived.Test.YtbbgabdiikdjpaaDoorHeadRead
namespace Go.Proofs.YtbbgabdiikdjpaaDoor
open Go.RowKit Go.Deep

theorem bn_beq (n : Int) (h : n = 0 ∨ n = 1) : bn (n == 1) = n := by
  rcases h with rfl | rfl <;> rfl

theorem beq_bn (b : Bool) (n : Int) (h : n = bn b) : (n == 1) = b := by
  subst h; cases b <;> rfl

theorem wordK_all (an : Bool) (op : Int) (aa tc rd ra z ad cd : Bool) (code : Int) : wordK 16 an op aa tc rd ra z ad cd code = op * 2048 + code + bn cd * 16 + bn ad * 32 + bn z * 64 + bn ra * 128 + bn rd * 256 + bn tc * 512 + bn aa * 1024 + bn an * 32768 := by
  simp [wordK]

theorem hd_of {id op code : Int} {an aa tc rd ra z ad cd : Bool} (ho0 : 0 ≤ op) (ho1 : op ≤ 15) (hc0 : 0 ≤ code) (hc1 : code ≤ 15) : hdOf id (wordK 16 an op aa tc rd ra z ad cd code) = .agg #[.int .i64 id, .bool an, .int .i64 op, .bool aa, .bool tc, .bool rd, .bool ra, .bool z, .bool ad, .bool cd, .int .i64 code] := by
  have h := wordK_all an op aa tc rd ra z ad cd code
  generalize wordK 16 an op aa tc rd ra z ad cd code = t at *
  have h1 := bn_two an
  have h2 := bn_two aa
  have h3 := bn_two tc
  have h4 := bn_two rd
  have h5 := bn_two ra
  have h6 := bn_two z
  have h7 := bn_two ad
  have h8 := bn_two cd
  unfold hdOf
  have e1 := beq_bn an (t / 32768 % 2) (by omega)
  have e2 : t / 2048 % 16 = op := by omega
  have e3 := beq_bn aa (t / 1024 % 2) (by omega)
  have e4 := beq_bn tc (t / 512 % 2) (by omega)
  have e5 := beq_bn rd (t / 256 % 2) (by omega)
  have e6 := beq_bn ra (t / 128 % 2) (by omega)
  have e7 := beq_bn z (t / 64 % 2) (by omega)
  have e8 := beq_bn ad (t / 32 % 2) (by omega)
  have e9 := beq_bn cd (t / 16 % 2) (by omega)
  have e10 : t % 16 = code := by omega
  rw [e1, e2, e3, e4, e5, e6, e7, e8, e9, e10]

theorem two_of (n : Int) : n % 2 = 0 ∨ n % 2 = 1 := by omega

theorem word_of (t : Int) (h0 : 0 ≤ t) (h1 : t ≤ 65535) : wordK 16 (t / 32768 % 2 == 1) (t / 2048 % 16) (t / 1024 % 2 == 1) (t / 512 % 2 == 1) (t / 256 % 2 == 1) (t / 128 % 2 == 1) (t / 64 % 2 == 1) (t / 32 % 2 == 1) (t / 16 % 2 == 1) (t % 16) = t := by
  rw [wordK_all, bn_beq _ (two_of _), bn_beq _ (two_of _), bn_beq _ (two_of _), bn_beq _ (two_of _), bn_beq _ (two_of _), bn_beq _ (two_of _), bn_beq _ (two_of _), bn_beq _ (two_of _)]
  have a1 : t % 16 = t - 16 * (t / 16) := by omega
  have a2 : t / 16 % 2 = t / 16 - 2 * (t / 32) := by omega
  have a3 : t / 32 % 2 = t / 32 - 2 * (t / 64) := by omega
  have a4 : t / 64 % 2 = t / 64 - 2 * (t / 128) := by omega
  have a5 : t / 128 % 2 = t / 128 - 2 * (t / 256) := by omega
  have a6 : t / 256 % 2 = t / 256 - 2 * (t / 512) := by omega
  have a7 : t / 512 % 2 = t / 512 - 2 * (t / 1024) := by omega
  have a8 : t / 1024 % 2 = t / 1024 - 2 * (t / 2048) := by omega
  have a9 : t / 2048 % 16 = t / 2048 - 16 * (t / 32768) := by omega
  have a10 : t / 32768 % 2 = t / 32768 := by omega
  rw [a1, a2, a3, a4, a5, a6, a7, a8, a9, a10]
  generalize t / 16 = q1
  generalize t / 32 = q2
  generalize t / 64 = q3
  generalize t / 128 = q4
  generalize t / 256 = q5
  generalize t / 512 = q6
  generalize t / 1024 = q7
  generalize t / 2048 = q8
  generalize t / 32768 = q9
  omega

theorem headN_of (b0 b1 b2 b3 : Int) (h2 : 0 ≤ b1) (h3 : b1 ≤ 255) (h4 : 0 ≤ b2) (h5 : b2 ≤ 255) (h6 : 0 ≤ b3) (h7 : b3 ≤ 255) (t : Int) (ht : b2 * 256 + b3 = t) :
    headN (b0 * 256 + b1) (t / 32768 % 2 == 1) (t / 2048 % 16) (t / 1024 % 2 == 1) (t / 512 % 2 == 1) (t / 256 % 2 == 1) (t / 128 % 2 == 1) (t / 64 % 2 == 1) (t / 32 % 2 == 1) (t / 16 % 2 == 1) (t % 16) = [b0, b1, b2, b3] := by
  unfold headN
  rw [word_of t (by omega) (by omega)]
  have e0 : (b0 * 256 + b1) / 256 = b0 := by omega
  have e1 : (b0 * 256 + b1) % 256 = b1 := by omega
  have e2 : t / 256 = b2 := by omega
  have e3 : t % 256 = b3 := by omega
  rw [e0, e1, e2, e3]

theorem headN_id (id : Int) (an : Bool) (op : Int) (aa tc rd ra z ad cd : Bool) (code : Int) : (headN id an op aa tc rd ra z ad cd code).getD 0 0 * 256 + (headN id an op aa tc rd ra z ad cd code).getD 1 0 = id := by
  simp only [headN, List.getD_cons_zero, List.getD_cons_succ]
  omega

theorem headN_word (id : Int) (an : Bool) (op : Int) (aa tc rd ra z ad cd : Bool) (code : Int) : (headN id an op aa tc rd ra z ad cd code).getD 2 0 * 256 + (headN id an op aa tc rd ra z ad cd code).getD 3 0 = wordK 16 an op aa tc rd ra z ad cd code := by
  simp only [headN, List.getD_cons_zero, List.getD_cons_succ]
  omega

theorem take_four {ms : List Int} (h : 4 ≤ ms.length) : ms.take 4 = [ms.getD 0 0, ms.getD 1 0, ms.getD 2 0, ms.getD 3 0] := by
  match ms, h with
  | [], h => simp at h
  | [_], h => simp at h
  | [_, _], h => simp at h
  | [_, _, _], h => simp at h
  | _ :: _ :: _ :: _ :: _, _ => rfl

theorem Bys.take {w : World} {x : Option Addr} {c : Nat} {ms : List Int} (h : Bys w x c ms) (k : Nat) (hk : k ≤ ms.length) : Bys w x c (ms.take k) := by
  obtain ⟨h1, h2, h3, h4⟩ := h
  have hl : (ms.take k).length = k := by rw [List.length_take]; omega
  refine ⟨by omega, by omega, fun b hb => h3 b (List.mem_of_mem_take hb), ?_⟩
  rcases h4 with h4 | ⟨b, off, hx, hb, hc⟩
  · exact Or.inl (by rw [h4]; simp)
  · refine Or.inr ⟨b, off, hx, hb, fun i hi => ?_⟩
    rw [hl] at hi
    rw [hc i (by omega), List.getD_eq_getElem?_getD, List.getD_eq_getElem?_getD, List.getElem?_take_of_lt hi]

/-- head.Read of what head.Write wrote. -/
theorem hread_back {y : Option Addr} {c : Nat} {id op code : Int} {an aa tc rd ra z ad cd : Bool} (w : World) (h : Bys w y c (headN id an op aa tc rd ra z ad cd code)) (ho0 : 0 ≤ op) (ho1 : op ≤ 15) (hc0 : 0 ≤ code) (hc1 : code ≤ 15) :
    Calls Tryd.prog 25 #[.slice y 4 c] w fun e w' => e = .returned (.tuple #[.agg #[.int .i64 id, .bool an, .int .i64 op, .bool aa, .bool tc, .bool rd, .bool ra, .bool z, .bool ad, .bool cd, .int .i64 code], .nilIface]) ∧ Below w.heap.size w w' := by
  have k := hread_good y c _ w h (by simp [headN])
  rw [headN_id, headN_word, hd_of ho0 ho1 hc0 hc1] at k
  exact k

/-- head.Read of any four bytes: a header that may be, whose bytes they are. -/
theorem hread_four {x : Option Addr} {c : Nat} (ms : List Int) (w : World) (h : Bys w x c ms) (hl : 4 ≤ ms.length) :
    Calls Tryd.prog 25 #[.slice x ms.length c] w fun e w' => ∃ (id op code : Int) (an aa tc rd ra z ad cd : Bool), e = .returned (.tuple #[.agg #[.int .i64 id, .bool an, .int .i64 op, .bool aa, .bool tc, .bool rd, .bool ra, .bool z, .bool ad, .bool cd, .int .i64 code], .nilIface]) ∧ Hid (headN id an op aa tc rd ra z ad cd code = ms.take 4) ∧ (0 ≤ id ∧ id ≤ 65535) ∧ (0 ≤ op ∧ op ≤ 15) ∧ (0 ≤ code ∧ code ≤ 15) ∧ Below w.heap.size w w' := by
  obtain ⟨g0, g1⟩ := getD_byte h.2.2.1 0
  obtain ⟨g2, g3⟩ := getD_byte h.2.2.1 1
  obtain ⟨g4, g5⟩ := getD_byte h.2.2.1 2
  obtain ⟨g6, g7⟩ := getD_byte h.2.2.1 3
  refine (hread_good x c ms w h hl).mono ?_
  rintro e w' ⟨rfl, d⟩
  exact ⟨_, _, _, _, _, _, _, _, _, _, _, rfl, hid ((headN_of _ _ _ _ g2 g3 g4 g5 g6 g7 _ rfl).trans (take_four hl).symm), by omega, by omega, by omega, d⟩

end Go.Proofs.YtbbgabdiikdjpaaDoor
