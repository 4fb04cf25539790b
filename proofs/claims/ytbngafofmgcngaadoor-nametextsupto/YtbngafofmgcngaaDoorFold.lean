/-
  The walks of foldLabel and Fold: each makes its answer in new memory, and writes nothing that was there.
-/
import Derived.Test.YtbngafofmgcngaaDoorTexts
import Derived.Deep.OwnRows
import Derived.Laws.BytesArg
namespace Go.Proofs.YtbngafofmgcngaaDoor
open Go.RowKit Go.Deep

/-- A label with small letters. -/
def fS (s : ByteArray) : ByteArray := strOfNums ((Nm.bs s).map Nm.foI)

theorem info_byte : (Tryd.prog.info? 5).map (fun i => (i.zero, i.size, i.bytes)) = some (some (.int .u8 0), 1, 1) := by kernel_rfl
theorem info_string : (Tryd.prog.info? 9).map (fun i => (i.zero, i.size, i.bytes)) = some (some (.string ByteArray.empty), 1, 16) := by kernel_rfl

theorem fold_step {a : ByteArray} {k : Nat} {f : Nat → Value} (h : k < a.size) (hf : ∀ j, j < k → f j = .int .u8 (((Nm.bs a).map Nm.foI).getD j 0)) :
    ∀ j, j < k + 1 → (if j = k then Value.int .u8 (Nm.foI (a[k].toNat : Int)) else f j) = .int .u8 (((Nm.bs a).map Nm.foI).getD j 0) := by
  intro j hj
  by_cases e : j = k
  · subst e
    rw [if_pos rfl, List.getD_eq_getElem?_getD, List.getElem?_map, List.getElem?_eq_getElem (by rw [bs_length]; exact h), bs_get a j h]
    rfl
  · rw [if_neg e]; exact hf j (by omega)

set_option maxHeartbeats 400000 in
theorem foldLabel_any (a : ByteArray) (w : World) (ha : a.size ≤ 140737488355328) :
    Calls Tryd.prog 22 #[.string a] w fun e w' => e = .returned (.string (fS a)) ∧ Below w.heap.size w w' := by
  have hmk := run_make_row' (P := Tryd.prog) 42 5 (.int .u8 0) 1 Tryd.underlying42 info_byte rfl .i64 .i64 a.size (by omega) (by omega)
  go_enter Tryd.func22, Tryd.ntmps22
  go_wp2
  go_loopw [10] (fun c wr => ∃ (k : Nat) (f : Nat → Value), k ≤ a.size ∧ c = .int .i64 (k : Int) ∧ wr.rowIs w.heap.size 5 a.size f ∧ (∀ j, j < k → f j = .int .u8 (((Nm.bs a).map Nm.foI).getD j 0)) ∧ Below w.heap.size w wr) (fun c _ => a.size - (intOf c).toNat)
  case atStart => exact ⟨0, _, Nat.zero_le _, rfl, World.rowIs_made w _ _ _, fun j hj => by omega, (Below.refl _ _).alloc (Nat.le_refl _) _⟩
  case round =>
    obtain ⟨k, f, hk, rfl, hrow, hf, hbel⟩ := hrel
    by_cases h1 : k < a.size
    · have c1 := hrow.cell h1
      have c2 := hrow.frozen k
      have H := hid hf
      clear hf
      go_wp2_with (go_at_call 31; refine (foldByte_any _ _ (u8_bound _).1 (u8_bound _).2).mono ?_; rintro e w' ⟨rfl, rfl⟩)
      exact ⟨⟨k + 1, _, by omega, by go_num, hrow.set k _, fold_step h1 H.out, hbel.setCell (Nat.le_refl _) _⟩, by simp [intOf]; omega⟩
    · have hconv := run_convert_bytes_arg (P := Tryd.prog) wr 42 5 Tryd.underlying42 Tryd.underlying5 w.heap.size 0 a.size a.size ((Nm.bs a).map Nm.foI) (by simp [bs_length]) (fun i hi => by rw [Nat.zero_add, hrow.cell hi, hf i (by omega)]) 9 Tryd.underlying9
      have H := hid hf
      clear hf
      go_wp2
      go_ret
      exact ⟨rfl, hbel⟩

theorem fS_size (s : ByteArray) : (fS s).size = s.size := by
  unfold fS; rw [strOfNums_size, List.length_map, bs_length]

theorem names_step {n : List ByteArray} {k : Nat} {f : Nat → Value} (hf : ∀ j, j < k → f j = .string (fS (n.getD j ByteArray.empty))) :
    ∀ j, j < k + 1 → (if j = k then Value.string (fS (n.getD k ByteArray.empty)) else f j) = .string (fS (n.getD j ByteArray.empty)) := by
  intro j hj
  by_cases e : j = k
  · subst e; rw [if_pos rfl]
  · rw [if_neg e]; exact hf j (by omega)

theorem names_done {wr : World} {n : List ByteArray} {f : Nat → Value} {c : Nat} (hl : n.length ≤ 8796093022208) (hs : ∀ s ∈ n, s.size ≤ 140737488355328) (hrow : wr.rowIs c 9 n.length f) (hf : ∀ j, j < n.length → f j = .string (fS (n.getD j ByteArray.empty))) :
    Strs wr (some ⟨c, 0, none⟩) n.length (n.map fS) := by
  refine ⟨by simp, by simpa using hl, fun s h => ?_, Or.inr ⟨c, 0, rfl, hrow.lt, fun i hi => ?_⟩⟩
  · obtain ⟨t, ht, rfl⟩ := List.mem_map.1 h
    rw [fS_size]; exact hs t ht
  · rw [List.length_map] at hi
    rw [Nat.zero_add, hrow.cell hi, hf i hi]
    simp [List.getD_eq_getElem?_getD, List.getElem?_map, List.getElem?_eq_getElem hi]

set_option maxHeartbeats 400000 in
theorem fold_any (x : Option Addr) (c : Nat) (n : List ByteArray) (w : World) (h : Strs w x c n) :
    Calls Tryd.prog 10 #[.slice x n.length c] w fun e w' => e = .returned (.slice (some ⟨w.heap.size, 0, none⟩) n.length n.length) ∧ Strs w' (some ⟨w.heap.size, 0, none⟩) n.length (n.map fS) ∧ Below w.heap.size w w' := by
  have hl : n.length ≤ 8796093022208 := h.2.1
  have hmk := run_make_row' (P := Tryd.prog) 22 9 (.string ByteArray.empty) 16 Tryd.underlying22 info_string rfl .i64 .i64 n.length (by omega) (by omega)
  go_enter Tryd.func10, Tryd.ntmps10
  go_wp2
  go_loopw [11] (fun d wr => ∃ (k : Nat) (f : Nat → Value), k ≤ n.length ∧ d = .int .i64 (k : Int) ∧ wr.rowIs w.heap.size 9 n.length f ∧ (∀ j, j < k → f j = .string (fS (n.getD j ByteArray.empty))) ∧ Below w.heap.size w wr) (fun d _ => n.length - (intOf d).toNat)
  case atStart => exact ⟨0, _, Nat.zero_le _, rfl, World.rowIs_made w _ _ _, fun j hj => by omega, (Below.refl _ _).alloc (Nat.le_refl _) _⟩
  case round =>
    obtain ⟨k, f, hk, rfl, hrow, hf, hbel⟩ := hrel
    by_cases h1 : k < n.length
    · obtain ⟨_, _, sa, da⟩ := h.below hbel
      rcases da with da | ⟨ba, oa, rfl, _, qa⟩
      · rw [da] at h1; simp at h1
      have fa := qa k (by omega)
      have na := getD_mem_size sa k
      have H := hid (names_step hf)
      clear hf qa sa
      generalize n.getD k ByteArray.empty = s at *
      go_wp2_with fail
      refine (foldLabel_any s _ na).mono ?_
      rintro e w1 ⟨rfl, hb1⟩
      have hrow1 := hrow.of_block (hb1.block _ hrow.lt)
      have hbel1 := hbel.trans (hb1.mono hbel.size)
      have c1 := hrow1.cell h1
      have c2 := hrow1.frozen k
      clear hb1 hrow hbel fa na
      go_wp2_with fail
      exact ⟨⟨k + 1, _, by omega, by go_num, hrow1.set k _, H.out, hbel1.setCell (Nat.le_refl _) _⟩, by simp [intOf]; omega⟩
    · have H := hid (names_done hl h.2.2.1 hrow (fun j hj => hf j (by omega)))
      clear hf
      go_wp2
      go_ret
      exact ⟨rfl, H.out, hbel⟩

end Go.Proofs.YtbngafofmgcngaaDoor
