/-
  The walks of target and labelAt over a message that lies in memory: each only reads.
-/
import Derived.Test.YtbbgabdiikdjpaaDoorWalkC
import Derived.Test.YtbbgabdiikdjpaaDoorWire
import Derived.Laws.BitsLemmas
namespace Go.Proofs.YtbbgabdiikdjpaaDoor
open Go.RowKit Go.Deep

/-- A slice leads to these bytes. -/
def Bys (w : World) (x : Option Addr) (c : Nat) (ms : List Int) : Prop :=
  ms.length ≤ c ∧ ms.length ≤ 200000000000000 ∧ (∀ b ∈ ms, 0 ≤ b ∧ b ≤ 255) ∧
    (ms = [] ∨ ∃ b off, x = some ⟨b, off, none⟩ ∧ b < w.heap.size ∧ ∀ i, i < ms.length → w.cell? ⟨b, off + i, none⟩ = some (.int .u8 (ms.getD i 0)))

theorem Bys.below {w w' : World} {x : Option Addr} {c : Nat} {ms : List Int} (h : Bys w x c ms) (k : Below w.heap.size w w') : Bys w' x c ms := by
  obtain ⟨h1, h2, h3, h4⟩ := h
  refine ⟨h1, h2, h3, ?_⟩
  rcases h4 with h4 | ⟨b, off, hx, hb, hc⟩
  · exact Or.inl h4
  · exact Or.inr ⟨b, off, hx, Nat.lt_of_lt_of_le hb k.size, fun i hi => by rw [k.cell (p := ⟨b, off + i, none⟩) hb]; exact hc i hi⟩

theorem Bys.drawn {w w' : World} {x : Option Addr} {c : Nat} {ms : List Int} (h : Bys w x c ms) (k : Drawn w w') : Bys w' x c ms := h.below (k.below _)

theorem Bys.nil (w : World) (x : Option Addr) (c : Nat) : Bys w x c [] := ⟨Nat.zero_le _, by simp, fun s hs => by simp at hs, Or.inl rfl⟩

theorem getD_byte {ms : List Int} (h : ∀ b ∈ ms, 0 ≤ b ∧ b ≤ 255) (i : Nat) : 0 ≤ ms.getD i 0 ∧ ms.getD i 0 ≤ 255 := by
  rw [List.getD_eq_getElem?_getD]
  cases e : ms[i]? with
  | none => simp
  | some s => exact h s (List.mem_of_getElem? e)

/-- What labelAt tells: what is wrong, and the label. -/
def labN (ms : List Int) (a : Nat) : Int × List Int :=
  if 63 < ms.getD a 0 then (3, []) else if ms.length ≤ a + Nm.long ms a then (2, []) else (0, Nm.cut ms (a + 1) (Nm.long ms a))

theorem cut_getD {ms : List Int} {a k i : Nat} (hi : i < k) : (Nm.cut ms a k).getD i 0 = ms.getD (a + i) 0 := by
  unfold Nm.cut
  rw [List.getD_eq_getElem?_getD, List.getD_eq_getElem?_getD, List.getElem?_take_of_lt hi, List.getElem?_drop]

set_option maxHeartbeats 400000 in
set_option maxRecDepth 100000 in
theorem labelAt_any (x : Option Addr) (c : Nat) (ms : List Int) (a : Nat) (w : World) (h : Bys w x c ms) (ha : a < ms.length) (h0 : ¬ ms.getD a 0 = 0) :
    Calls Tryd.prog 77 #[.slice x ms.length c, .int .i64 (a : Int)] w fun e w' => e = .returned (.tuple #[.string (strOfNums (labN ms a).2), errV (labN ms a).1]) ∧ w' = w := by
  have hl : ms.length ≤ 200000000000000 := h.2.1
  have hb := getD_byte h.2.2.1 a
  obtain ⟨hc, _, hbs, hd⟩ := h
  rcases hd with hd | ⟨b, off, rfl, hlt, q⟩
  · rw [hd] at ha; simp at ha
  have q0 := q a ha
  by_cases c1 : 63 < ms.getD a 0
  · have e : labN ms a = (3, []) := by unfold labN; rw [if_pos c1]
    rw [e]
    clear q e
    generalize ms.getD a 0 = s at *
    obtain ⟨hb0, hb1⟩ := hb
    go_enter Tryd.func77, Tryd.ntmps77
    go_wp2
    go_ret2
    exact ⟨rfl, rfl⟩
  · by_cases c2 : ms.length ≤ a + Nm.long ms a
    · have e : labN ms a = (2, []) := by unfold labN; rw [if_neg c1, if_pos c2]
      rw [e]
      unfold Nm.long at c2
      clear q e
      generalize ms.getD a 0 = s at *
      obtain ⟨hb0, hb1⟩ := hb
      have c3 : (ms.length : Int) - (a : Int) ≤ s := by omega
      go_enter Tryd.func77, Tryd.ntmps77
      go_wp2
      go_ret2
      exact ⟨rfl, rfl⟩
    · have e : labN ms a = (0, Nm.cut ms (a + 1) (Nm.long ms a)) := by unfold labN; rw [if_neg c1, if_neg c2]
      rw [e]
      have hconv := run_convert_bytes_arg (P := Tryd.prog) w 22 5 Tryd.underlying22 Tryd.underlying5 b (off + (a + 1)) (Nm.long ms a) (c - (a + 1)) (Nm.cut ms (a + 1) (Nm.long ms a)) (Nm.cut_length (by omega)) (fun i hi => by rw [cut_getD hi, Nat.add_assoc]; exact q _ (by omega)) 9 Tryd.underlying9
      generalize Nm.cut ms (a + 1) (Nm.long ms a) = l at *
      have hs : ((Nm.long ms a : Nat) : Int) = ms.getD a 0 := by unfold Nm.long; omega
      have hne : ¬ c = a + 1 := by unfold Nm.long at c2; omega
      clear q e
      generalize Nm.long ms a = k at *
      generalize ms.getD a 0 = s at *
      subst hs
      go_enter Tryd.func77, Tryd.ntmps77
      go_wp2
      go_ret2
      exact ⟨rfl, rfl⟩

theorem wrap_i64 (n : Int) (h0 : 0 ≤ n) (h1 : n < 2 ^ 62) : IntKind.wrap .i64 n = n := by
  have e : (2 : Int) ^ 62 = 4611686018427387904 := by decide
  rw [e] at h1
  exact Go.IntWalk.i64_in n (by omega)

theorem or256 (x t : Int) (h0 : 0 ≤ x) (h1 : x ≤ 63) (h2 : 0 ≤ t) (h3 : t ≤ 255) : bits .or .i64 (x * 256) t = x * 256 + t :=
  bits_join .i64 62 (by decide) wrap_i64 8 (x * 256) t (by omega) (by omega) (by omega) h2 (by omega) (by omega)

/-- What target tells: what is wrong, and the place. -/
def tarN (ms : List Int) (a low : Nat) : Int × Nat :=
  if ms.length ≤ a + 1 then (2, 0) else if low ≤ Nm.place ms a then (4, 0) else (0, Nm.place ms a)

set_option maxHeartbeats 400000 in
set_option maxRecDepth 100000 in
theorem target_any (x : Option Addr) (c : Nat) (ms : List Int) (a low : Nat) (w : World) (h : Bys w x c ms) (ha : a < ms.length) (h0 : 192 ≤ ms.getD a 0) :
    Calls Tryd.prog 76 #[.slice x ms.length c, .int .i64 (a : Int), .int .i64 (low : Int)] w fun e w' => e = .returned (.tuple #[.int .i64 ((tarN ms a low).2 : Int), errV (tarN ms a low).1]) ∧ Drawn w w' := by
  have hl : ms.length ≤ 200000000000000 := h.2.1
  have hb := getD_byte h.2.2.1 a
  have hb2 := getD_byte h.2.2.1 (a + 1)
  obtain ⟨hc, _, hbs, hd⟩ := h
  rcases hd with hd | ⟨b, off, rfl, hlt, q⟩
  · rw [hd] at ha; simp at ha
  by_cases c1 : ms.length ≤ a + 1
  · have e : tarN ms a low = (2, 0) := by unfold tarN; rw [if_pos c1]
    rw [e]
    clear q e
    go_enter Tryd.func76, Tryd.ntmps76
    go_wp2
    go_ret2
    exact ⟨rfl, Drawn.refl _⟩
  · have q0 := q a ha
    have q1 := q (a + 1) (by omega)
    have hp : ((Nm.place ms a : Nat) : Int) = (ms.getD a 0 - 192) * 256 + ms.getD (a + 1) 0 := by unfold Nm.place; omega
    by_cases c2 : low ≤ Nm.place ms a
    · have e : tarN ms a low = (4, 0) := by unfold tarN; rw [if_neg c1, if_pos c2]
      rw [e]
      clear q e
      generalize Nm.place ms a = p at *
      generalize ms.getD a 0 = s at *
      generalize ms.getD (a + 1) 0 = t at *
      obtain ⟨hb0, hb1⟩ := hb
      obtain ⟨hb3, hb4⟩ := hb2
      have hor := or256 (s - 192) t (by omega) (by omega) hb3 hb4
      have HP := hid hp
      clear hp
      go_enter Tryd.func76, Tryd.ntmps76
      go_wp2
      go_quiet (fail)
      rw [← HP.out]
      go_wp2
      go_ret2
      exact ⟨rfl, (Drawn.refl _).more _⟩
    · have e : tarN ms a low = (0, Nm.place ms a) := by unfold tarN; rw [if_neg c1, if_neg c2]
      rw [e]
      clear q e
      generalize Nm.place ms a = p at *
      generalize ms.getD a 0 = s at *
      generalize ms.getD (a + 1) 0 = t at *
      obtain ⟨hb0, hb1⟩ := hb
      obtain ⟨hb3, hb4⟩ := hb2
      have hor := or256 (s - 192) t (by omega) (by omega) hb3 hb4
      have HP := hid hp
      clear hp
      go_enter Tryd.func76, Tryd.ntmps76
      go_wp2
      go_quiet (fail)
      rw [← HP.out]
      go_wp2
      go_ret2
      exact ⟨rfl, (Drawn.refl _).more _⟩

end Go.Proofs.YtbbgabdiikdjpaaDoor
