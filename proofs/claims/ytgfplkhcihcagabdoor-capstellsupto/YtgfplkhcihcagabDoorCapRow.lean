/-
  How a slice of bools among the arguments is opened, and one of texts with the bulk of its letters.
-/
import Derived.Test.YtgfplkhcihcagabDoorRow
import Derived.Test.YtgfplkhcihcagabDoorCapAt
import Derived.Deep.Grids
namespace Go.Proofs.YtgfplkhcihcagabDoor
open Go.ChangeShapes Go.WideShapes Go.ChangeAt Go.RowKit Go.Deep

theorem cells_bool : Tryd.prog.cellsOf 4 = 1 := by kernel_rfl
theorem bytes_bool : Tryd.prog.bytesOf 4 = 1 := by kernel_rfl

theorem bools_of {H : Type} {enc : TypeId × Value → H} {W : World} {x : Option Addr} {len cap fuel : Nat} {d : DataW H} {p : List MemPlace}
    (hf : DataW.trod enc Tryd.prog W 0 (fun _ => true) true fuel 23 [Value.slice x len cap] = some (d, p)) (hz : ∀ n ∈ d.weights Tryd.prog 23, n ≤ reachBytes) :
    ∃ bs : List Bool, bs.length = len ∧ Bols W x cap bs := by
  rcases open_bools Tryd.underlying23 Tryd.underlying4 cells_bool hf with ⟨hcs, _⟩ | ⟨a, l, c, B, hcs, _, hl, hm, hx, hcell⟩
  · simp only [List.cons.injEq, Value.slice.injEq, and_true] at hcs
    obtain ⟨rfl, rfl, rfl⟩ := hcs
    exact ⟨[], rfl, Nat.le_refl _, by simp, Or.inl rfl⟩
  · simp only [List.cons.injEq, Value.slice.injEq, and_true] at hcs
    obtain ⟨rfl, rfl, rfl⟩ := hcs
    simp only [Prod.mk.injEq] at hx
    obtain ⟨rfl, _⟩ := hx
    have hr := reachBytes_lt
    have hw : (len + (cap - len)) * 1 ≤ reachBytes := by
      refine hz _ ?_
      simp only [boolRow, DataW.weights, Tryd.underlying23, List.length_map, List.length_range, bytes_bool]
      exact List.mem_cons_self
    refine ⟨(List.range len).map B, by simp, by simpa using hl, by simp; omega, ?_⟩
    rcases Nat.eq_zero_or_pos len with h0 | h0
    · left; subst h0; rfl
    · right
      obtain ⟨b, off, spot⟩ := a
      have h1 := hcell 0 (by omega)
      have hspot : spot = none := by simpa [Addr.add] using World.cell?_spot h1
      subst hspot
      refine ⟨b, off, rfl, ?_, fun i hi => ?_⟩
      · simpa [Addr.add] using lt_of_cell h1
      · rw [List.length_map, List.length_range] at hi
        have := hcell i (by omega)
        rw [List.getD_eq_getElem?_getD, List.getElem?_map, List.getElem?_range hi]
        rw [add_plain] at this
        exact this

theorem bulk_texts {H : Type} (f : Nat → ByteArray) : ∀ l : List Nat, (labs (l.map f)).flatten.length ≤ Rows.uptoBulkAll (H := H) (l.map fun i => .lit (.string (f i).data.toList))
  | [] => Nat.le_refl _
  | i :: l => by
    have := bulk_texts (H := H) f l
    simp only [List.map_cons, labs, List.flatten_cons, List.length_append, Rows.uptoBulkAll, Rows.uptoBulk]
    have e : (Nm.bs (f i)).length = (f i).data.toList.length := by simp [Nm.bs]
    unfold labs at this
    omega

theorem strs_bulk {H : Type} {enc : TypeId × Value → H} {W : World} {x : Option Addr} {len cap fuel : Nat} {d : DataW H} {p : List MemPlace}
    (hf : DataW.trod enc Tryd.prog W 0 (fun _ => true) true fuel 22 [Value.slice x len cap] = some (d, p)) (hz : ∀ n ∈ d.weights Tryd.prog 22, n ≤ reachBytes) :
    ∃ ss : List ByteArray, ss.length = len ∧ Strs W x cap ss ∧ (labs ss).flatten.length ≤ Rows.uptoBulk d := by
  obtain ⟨ss, h1, h2⟩ := strs_of hf hz
  rcases open_strs Tryd.underlying22 Tryd.underlying9 cells_string hf with ⟨hcs, _⟩ | ⟨a, l, c, m, Sx, hcs, _, hl, hm, hmm, hx, hcell⟩
  · simp only [List.cons.injEq, Value.slice.injEq, and_true] at hcs
    obtain ⟨rfl, rfl, rfl⟩ := hcs
    have : ss = [] := List.length_eq_zero_iff.1 h1
    subst this
    exact ⟨[], rfl, h2, Nat.zero_le _⟩
  · simp only [List.cons.injEq, Value.slice.injEq, and_true] at hcs
    obtain ⟨rfl, rfl, rfl⟩ := hcs
    have hmc : m = cap := by simpa using hmm
    subst hmc
    simp only [Prod.mk.injEq] at hx
    obtain ⟨rfl, _⟩ := hx
    refine ⟨ss, h1, h2, ?_⟩
    have e : ss = (List.range len).map Sx := by
      apply List.ext_getElem (by simp [h1])
      intro i g1 g2
      have hi : i < len := by omega
      obtain ⟨_, _, _, h4⟩ := h2
      rcases h4 with h4 | ⟨b, off, hx, _, hc⟩
      · rw [h4] at g1; simp at g1
      · cases hx
        have q1 := hc i g1
        have q2 := (hcell i (by omega)).1
        rw [add_plain, q1] at q2
        have q3 : ss.getD i ByteArray.empty = Sx i := by simpa using q2
        rw [List.getD_eq_getElem?_getD, List.getElem?_eq_getElem g1, Option.getD_some] at q3
        simpa using q3
    rw [e]
    have := bulk_texts (H := H) Sx (List.range len)
    simp only [Rows.uptoBulk]
    omega

end Go.Proofs.YtgfplkhcihcagabDoor
