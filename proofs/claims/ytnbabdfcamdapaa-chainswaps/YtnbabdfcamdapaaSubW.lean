/-
  The walks of package subnet: touched, sizeOf, masked, fit, check; of bytes.Equal.
-/
import Derived.Test.YtnbabdfcamdapaaSub
import Derived.Test.YtnbabdfcamdapaaMsgAt
import Derived.Laws.CopyOwn
import Derived.Laws.MakeOwn
namespace Go.Proofs.Ytnbabdfcamdapaa
open Go.RowKit Go.Deep

theorem str_inj {A B : List Int} (ha : ∀ x ∈ A, 0 ≤ x ∧ x ≤ 255) (hb : ∀ x ∈ B, 0 ≤ x ∧ x ≤ 255) : decide (strOfNums A = strOfNums B) = decide (A = B) := by
  by_cases c : A = B
  · subst c; simp
  · have : ¬ strOfNums A = strOfNums B := fun e => c (by rw [← bs_of A ha, ← bs_of B hb, e])
    rw [decide_eq_false this, decide_eq_false c]

theorem bytes_eq (S T : ByteArray) : (S.toList == T.toList) = decide (S = T) := by
  by_cases c : S = T
  · subst c; simp
  · rw [decide_eq_false c]
    have : ¬ S.toList = T.toList := fun e => c (by
      rw [ByteArray.toList_eq, ByteArray.toList_eq] at e
      exact ByteArray.ext (Array.toList_inj.1 e))
    simpa using this

set_option maxHeartbeats 400000 in
set_option maxRecDepth 100000 in
theorem bequal_at {b1 o1 c1 l1 b2 o2 c2 l2 : Nat} (r : Bool) (A B : List Int) (w : World) (hA : ∀ x ∈ A, 0 ≤ x ∧ x ≤ 255) (hB : ∀ x ∈ B, 0 ≤ x ∧ x ≤ 255)
    (qA : ∀ i, i < A.length → w.cell? ⟨b1, o1 + i, none⟩ = some (.int .u8 (A.getD i 0))) (qB : ∀ i, i < B.length → w.cell? ⟨b2, o2 + i, none⟩ = some (.int .u8 (B.getD i 0))) (h1 : A.length = l1) (h2 : B.length = l2) (hr : decide (A = B) = r) :
    Calls Try.prog 26 #[.slice (some ⟨b1, o1, none⟩) l1 c1, .slice (some ⟨b2, o2, none⟩) l2 c2] w fun e w' => e = .returned (.bool r) ∧ w = w' := by
  subst h1 h2
  rw [← str_inj hA hB] at hr
  have k1 := run_convert_bytes_arg (P := Try.prog) w 27 5 Try.underlying27 Try.underlying5 b1 o1 A.length c1 A rfl qA 9 Try.underlying9
  have k2 := run_convert_bytes_arg (P := Try.prog) w 27 5 Try.underlying27 Try.underlying5 b2 o2 B.length c2 B rfl qB 9 Try.underlying9
  clear qA qB hA hB
  generalize strOfNums A = S at *
  generalize strOfNums B = T at *
  subst hr
  go_enter Try.func26, Try.ntmps26
  go_wp2
  go_ret
  exact ⟨ret_bool (bytes_eq S T), rfl⟩

/-- What masked hands back: a row of its own, at the end of what was there. -/
def MaskP (n : Nat) (xs : List Int) (w : World) (e : Ending) (w' : World) : Prop :=
  e = .returned (.slice (some ⟨w.heap.size, 0, none⟩) xs.length xs.length) ∧ Bl 5 w' w.heap.size ((maskN n xs).map (Value.int .u8)).toArray ∧ Below w.heap.size w w'

theorem and_top1 : ∀ (k : Fin 8) (x : Fin 256), 0 < k.val → bits .and .u8 (x.val : Int) (255 * 2 ^ (8 - k.val) % 256) = topB k.val (x.val : Int) := by decide +kernel

theorem and_top' (k : Nat) (x : Int) (hk0 : 0 < k) (hk8 : k < 8) (g0 : 0 ≤ x) (g1 : x ≤ 255) : bits .and .u8 x (255 * 2 ^ (8 - k) % 256) = topB k x := by
  have := and_top1 ⟨k, hk8⟩ ⟨x.toNat, by omega⟩ hk0
  simp only at this
  rwa [show ((x.toNat : Nat) : Int) = x by omega] at this

theorem zeros_made (n : Nat) : madeCells #[Value.int .u8 0] n = ((List.replicate n (0 : Int)).map (Value.int .u8)).toArray := by
  refine Array.ext' ?_
  simp only [madeCells, List.map_replicate]
  refine List.ext_getElem (by simp) fun i h1 h2 => ?_
  simp [Nat.mod_one]

theorem splice_front (xs : List Int) (t : Nat) (ht : t ≤ xs.length) : splice ((List.replicate xs.length (0 : Int)).map (Value.int .u8)) 0 ((xs.take t).map (Value.int .u8)) = (frontN t xs).map (Value.int .u8) := by
  unfold splice frontN
  simp only [List.take_zero, List.nil_append, Nat.zero_add, List.map_append, List.map_replicate, List.length_map, List.length_take, List.drop_replicate, Nat.min_eq_left ht]

end Go.Proofs.Ytnbabdfcamdapaa
