/-
  The walk of Read of package wire: what is read at a place of a message is what the plain function tells; it makes its own memory, and writes nothing that was there.
-/
import Derived.Test.YtnbabdfcamdapaaMsg
import Derived.OwnWalk
namespace Go.Proofs.Ytnbabdfcamdapaa
open Go.RowKit Go.Deep

/-- What is read at a place. -/
def readW (ms : List Int) (at0 : Int) : Int × List (List Int) × Nat := if at0 < 0 then (6, [], 0) else Nm.rdA ms at0.toNat at0.toNat 1

def joined (acc : List (List Int)) (behind : Nat) (r : Int × List (List Int) × Nat) : Int × List (List Int) × Nat :=
  if r.1 = 0 then (0, acc ++ r.2.1, if behind = 0 then r.2.2 else behind) else (r.1, [], 0)

theorem joined_ends (acc : List (List Int)) (behind e : Nat) (r : Int × List (List Int) × Nat) (he : ¬ e = 0) : joined acc behind (Nm.ends e r) = joined acc (if behind = 0 then e else behind) r := by
  obtain ⟨k, M, m⟩ := r
  unfold joined Nm.ends
  by_cases c : k = 0
  · simp only [if_pos c]
    by_cases b : behind = 0
    · simp [b, he]
    · simp [b]
  · simp [if_neg c]

theorem joined_ahead (acc : List (List Int)) (behind : Nat) (l : List Int) (r : Int × List (List Int) × Nat) : joined acc behind (Nm.ahead l r) = joined (acc ++ [l]) behind r := by
  obtain ⟨k, M, m⟩ := r
  unfold joined Nm.ahead
  by_cases c : k = 0
  · simp [if_pos c]
  · simp [if_neg c]

/-- Where the reading is, what it has, and that what is read is what is read from here on. -/
def RState (ms : List Int) (at0 : Int) (a low size behind : Nat) (acc : List (List Int)) : Prop :=
  (a ≤ 9223372036854775807 ∧ low ≤ 9223372036854775807 ∧ 1 ≤ size ∧ size ≤ 255 ∧ acc.length + 1 ≤ size ∧ behind ≤ 200000000000002) ∧ (∀ l ∈ acc, l.length ≤ 63) ∧ readW ms at0 = joined acc behind (Nm.rdA ms a low size)

theorem rs_start (ms : List Int) (at0 : Nat) (h : at0 ≤ 9223372036854775807) : RState ms (at0 : Int) at0 at0 1 0 [] := by
  refine ⟨⟨h, h, by omega, by omega, by simp, by omega⟩, by simp, ?_⟩
  unfold readW
  rw [if_neg (by omega), Int.toNat_natCast]
  have hn := Nm.rdA_norm ms at0 at0 1
  generalize Nm.rdA ms at0 at0 1 = r at *
  obtain ⟨k, M, m⟩ := r
  unfold joined
  by_cases c : k = 0
  · simp [c]
  · rw [if_neg c]; exact hn c

theorem rs_short {ms : List Int} {at0 : Int} {a low size behind : Nat} {acc : List (List Int)} (h : RState ms at0 a low size behind acc) (c1 : ms.length ≤ a) : readW ms at0 = (2, [], 0) := by
  rw [h.2.2, Nm.rdA_eq, if_pos c1]; rfl

theorem rs_zero {ms : List Int} {at0 : Int} {a low size behind : Nat} {acc : List (List Int)} (h : RState ms at0 a low size behind acc) (c1 : a < ms.length) (c2 : ms.getD a 0 = 0) : readW ms at0 = (0, acc, if behind = 0 then a + 1 else behind) := by
  rw [h.2.2, Nm.rdA_eq, if_neg (by omega), if_pos c2]
  simp [joined]

theorem rs_ptr {ms : List Int} {at0 : Int} {a low size behind : Nat} {acc : List (List Int)} (h : RState ms at0 a low size behind acc) (hl : ms.length ≤ 200000000000000) (c1 : a < ms.length) (c3 : 192 ≤ ms.getD a 0) :
    (¬ (tarN ms a low).1 = 0 → readW ms at0 = ((tarN ms a low).1, [], 0)) ∧ ((tarN ms a low).1 = 0 → (tarN ms a low).2 < low ∧ RState ms at0 (tarN ms a low).2 (tarN ms a low).2 size (if behind = 0 then a + 2 else behind) acc) := by
  obtain ⟨⟨h1, h2, h3, h4, h5, h6⟩, h7, h8⟩ := h
  rw [Nm.rdA_eq, if_neg (by omega), if_neg (by omega), if_pos c3] at h8
  unfold tarN
  by_cases d1 : ms.length ≤ a + 1
  · rw [if_pos d1] at h8 ⊢
    exact ⟨fun _ => h8, fun q => by simp at q⟩
  · rw [if_neg d1] at h8 ⊢
    by_cases d2 : low ≤ Nm.place ms a
    · rw [if_pos d2] at h8 ⊢
      exact ⟨fun _ => h8, fun q => by simp at q⟩
    · rw [if_neg d2] at h8 ⊢
      rw [joined_ends _ _ _ _ (by omega)] at h8
      refine ⟨fun q => absurd rfl q, fun _ => ⟨by simp only; omega, ⟨by simp only; omega, by simp only; omega, h3, h4, h5, ?_⟩, h7, h8⟩⟩
      split <;> omega

theorem rs_label {ms : List Int} {at0 : Int} {a low size behind : Nat} {acc : List (List Int)} (h : RState ms at0 a low size behind acc) (hl : ms.length ≤ 200000000000000) (hb : ∀ b ∈ ms, 0 ≤ b ∧ b ≤ 255) (c1 : a < ms.length) (c2 : ¬ ms.getD a 0 = 0) (c3 : ¬ 192 ≤ ms.getD a 0) :
    (¬ (labN ms a).1 = 0 → readW ms at0 = ((labN ms a).1, [], 0)) ∧ ((labN ms a).1 = 0 → (labN ms a).2.length ≤ 63 ∧ (255 < size + (1 + (labN ms a).2.length) → readW ms at0 = (5, [], 0)) ∧
      (¬ 255 < size + (1 + (labN ms a).2.length) → Nm.fu ms (a + (1 + (labN ms a).2.length)) low < Nm.fu ms a low ∧ RState ms at0 (a + (1 + (labN ms a).2.length)) low (size + (1 + (labN ms a).2.length)) behind (acc ++ [(labN ms a).2]))) := by
  obtain ⟨⟨h1, h2, h3, h4, h5, h6⟩, h7, h8⟩ := h
  have hx := getD_byte hb a
  rw [Nm.rdA_eq, if_neg (by omega), if_neg c2, if_neg c3] at h8
  unfold labN
  by_cases d1 : 63 < ms.getD a 0
  · rw [if_pos d1] at h8 ⊢
    exact ⟨fun _ => h8, fun q => by simp at q⟩
  · rw [if_neg d1] at h8 ⊢
    by_cases d2 : ms.length ≤ a + Nm.long ms a
    · rw [if_pos d2] at h8 ⊢
      exact ⟨fun _ => h8, fun q => by simp at q⟩
    · rw [if_neg d2] at h8 ⊢
      have hk : (Nm.cut ms (a + 1) (Nm.long ms a)).length = Nm.long ms a := Nm.cut_length (by omega)
      have hp : 1 ≤ Nm.long ms a ∧ Nm.long ms a ≤ 63 := by unfold Nm.long; omega
      have hf := Nm.fu_more ms a low (Nm.long ms a) c1
      refine ⟨fun q => absurd rfl q, fun _ => ⟨by simp only; omega, fun q => ?_, fun q => ?_⟩⟩
      · simp only [hk] at q
        rw [if_pos (by omega)] at h8
        exact h8
      · simp only [hk] at q ⊢
        rw [if_neg (by omega), joined_ahead] at h8
        rw [show a + (1 + Nm.long ms a) = a + 1 + Nm.long ms a by omega, show size + (1 + Nm.long ms a) = size + (Nm.long ms a + 1) by omega]
        refine ⟨by omega, ⟨by omega, by omega, by omega, by omega, by simp; omega, by omega⟩, fun l hl => ?_, h8⟩
        rcases List.mem_append.1 hl with r | r
        · exact h7 l r
        · rw [List.mem_singleton.1 r, hk]; omega

def ReadPost (ms : List Int) (at0 : Int) (w : World) (e : Ending) (w' : World) : Prop :=
  ∃ y q, e = .returned (.tuple #[.slice y (readW ms at0).2.1.length q, .int .i64 ((readW ms at0).2.2 : Int), errV (readW ms at0).1]) ∧ Strs w' y q ((readW ms at0).2.1.map strOfNums) ∧ Below w.heap.size w w' ∧ ∀ a, y = some a → w.heap.size ≤ a.block

theorem readPost_bad {ms : List Int} {at0 : Int} {w w' : World} {k : Int} (h : readW ms at0 = (k, [], 0)) (hk : ¬ k = 0) (hb : Below w.heap.size w w') : ReadPost ms at0 w (.returned (.tuple #[.slice none 0 0, .int .i64 0, .iface 52 (.int .i64 k)])) w' := by
  unfold ReadPost
  rw [h, errV_some hk]
  exact ⟨none, 0, rfl, Strs.empty w', hb, (fun a q => by cases q)⟩

theorem readPost_good {ms : List Int} {at0 : Int} {w w' : World} {v : Value} {acc : List (List Int)} {n : Nat} {z : Int} (h : readW ms at0 = (0, acc, n)) (hz : z = (n : Int)) (hr : Rowt w' w.heap.size v acc) (hl : ∀ l ∈ acc, l.length ≤ 63) (ha : acc.length ≤ 1020) (hb : Below w.heap.size w w') : ReadPost ms at0 w (.returned (.tuple #[v, .int .i64 z, .nilIface])) w' := by
  unfold ReadPost
  rw [h, hz]
  have hf : ∀ x l c a, v = .slice x l c → x = some a → w.heap.size ≤ a.block := by
    intro x l c a hv hx
    rcases hr.2 with ⟨q, _⟩ | ⟨g, cap, cur, q, hg, _⟩
    · rw [hv] at q; cases q; cases hx
    · rw [hv] at q; cases q; cases hx; exact hg
  obtain ⟨x, c, hv, hs⟩ := rowt_strs hr (fun l q => by have := hl l q; omega) ha
  have hf2 := hf x acc.length c
  subst hv
  exact ⟨x, c, rfl, hs, hb, fun a q => hf2 a rfl q⟩

end Go.Proofs.Ytnbabdfcamdapaa
