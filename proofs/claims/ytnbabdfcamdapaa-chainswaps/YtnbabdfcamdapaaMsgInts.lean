/-
  A slice of numbers in memory; and how a slice of bytes, and one of numbers, among the arguments is opened.
-/
import Derived.Test.YtnbabdfcamdapaaRow
import Derived.Test.YtnbabdfcamdapaaMsg
import Derived.ChangeSlices
namespace Go.Proofs.Ytnbabdfcamdapaa
open Go.ChangeShapes Go.WideShapes Go.ChangeAt Go.RowKit Go.Deep

/-- A slice leads to these numbers. -/
def Ints (w : World) (x : Option Addr) (c : Nat) (zs : List Int) : Prop :=
  zs.length ≤ c ∧ zs.length ≤ 17592186044416 ∧ (∀ z ∈ zs, -9223372036854775808 ≤ z ∧ z ≤ 9223372036854775807) ∧
    (zs = [] ∨ ∃ b off, x = some ⟨b, off, none⟩ ∧ b < w.heap.size ∧ ∀ i, i < zs.length → w.cell? ⟨b, off + i, none⟩ = some (.int .i64 (zs.getD i 0)))

theorem Ints.below {w w' : World} {x : Option Addr} {c : Nat} {zs : List Int} (h : Ints w x c zs) (k : Below w.heap.size w w') : Ints w' x c zs := by
  obtain ⟨h1, h2, h3, h4⟩ := h
  refine ⟨h1, h2, h3, ?_⟩
  rcases h4 with h4 | ⟨b, off, hx, hb, hc⟩
  · exact Or.inl h4
  · exact Or.inr ⟨b, off, hx, Nat.lt_of_lt_of_le hb k.size, fun i hi => by rw [k.cell (p := ⟨b, off + i, none⟩) hb]; exact hc i hi⟩

theorem Ints.nil (w : World) (x : Option Addr) (c : Nat) : Ints w x c [] := ⟨Nat.zero_le _, by simp, fun s hs => by simp at hs, Or.inl rfl⟩

theorem getD_int {zs : List Int} (h : ∀ z ∈ zs, -9223372036854775808 ≤ z ∧ z ≤ 9223372036854775807) (i : Nat) : -9223372036854775808 ≤ zs.getD i 0 ∧ zs.getD i 0 ≤ 9223372036854775807 := by
  rw [List.getD_eq_getElem?_getD]
  cases e : zs[i]? with
  | none => simp
  | some s => exact h s (List.mem_of_getElem? e)

theorem cells_byte : Try.prog.cellsOf 5 = 1 := by kernel_rfl
theorem cells_int : Try.prog.cellsOf 3 = 1 := by kernel_rfl
theorem bytes_byte : Try.prog.bytesOf 5 = 1 := by kernel_rfl
theorem bytes_int : Try.prog.bytesOf 3 = 8 := by kernel_rfl

theorem wf_u8 {n : Int} (h : (Lit.int .u8 n).wf = true) : 0 ≤ n ∧ n ≤ 255 := by
  exact bounds_u8 h
theorem wf_i64 {n : Int} (h : (Lit.int .i64 n).wf = true) : -9223372036854775808 ≤ n ∧ n ≤ 9223372036854775807 := by
  exact bounds_i64 h

theorem bulk_lits {H : Type} (k : IntKind) (zs : List Int) : Rows.uptoBulkAll (H := H) (lits k zs) = zs.length := by
  induction zs with
  | nil => rfl
  | cons z zs ih =>
    have e : lits (H := H) k (z :: zs) = .lit (.int k z) :: lits k zs := rfl
    rw [e, Rows.uptoBulkAll, ih, Rows.uptoBulk, List.length_cons]
    · omega
    · intro b q; cases q

theorem bys_of {H : Type} {enc : TypeId × Value → H} {W : World} {x : Option Addr} {len cap fuel : Nat} {d : DataW H} {p : List MemPlace}
    (hf : DataW.trod enc Try.prog W 0 (fun _ => true) true fuel 27 [Value.slice x len cap] = some (d, p)) (hz : ∀ n ∈ d.weights Try.prog 27, n ≤ reachBytes) :
    ∃ ms : List Int, ms.length = len ∧ Bys W x cap ms ∧ ms.length ≤ 140737488351232 ∧ (x = none → cap = 0) ∧ ms.length ≤ Rows.uptoBulk d := by
  rcases open_ints Try.underlying27 Try.underlying5 cells_byte hf with ⟨hcs, _⟩ | ⟨a, l, c, zs, hcs, _, hl, hm, hzl, hx, hcell, hwf⟩
  · simp only [List.cons.injEq, Value.slice.injEq, and_true] at hcs
    obtain ⟨rfl, rfl, rfl⟩ := hcs
    exact ⟨[], rfl, Bys.nil W none 0, by simp, fun _ => rfl, by simp⟩
  · simp only [List.cons.injEq, Value.slice.injEq, and_true] at hcs
    obtain ⟨rfl, rfl, rfl⟩ := hcs
    have hzc : zs.length = cap := by simpa using hzl
    simp only [Prod.mk.injEq] at hx
    obtain ⟨rfl, _⟩ := hx
    have hr : reachBytes = 140737488351232 := by decide
    have hw : (len + (cap - len)) * 1 ≤ reachBytes := by
      refine hz _ ?_
      simp only [DataW.weights, Try.underlying27, bytes_byte]
      have e1 : (lits (H := H) .u8 (zs.take len)).length = len := by simp [lits]; omega
      have e2 : (lits (H := H) .u8 (zs.drop len)).length = cap - len := by simp [lits]; omega
      rw [e1, e2]
      exact List.mem_cons_self
    have hlt : (zs.take len).length = len := by rw [List.length_take]; omega
    have hg : ∀ i, i < len → (zs.take len).getD i 0 = zs.getD i 0 := by
      intro i hi
      rw [List.getD_eq_getElem?_getD, List.getD_eq_getElem?_getD, List.getElem?_take_of_lt hi]
    refine ⟨zs.take len, hlt, ⟨by omega, by omega, fun b hb => wf_u8 (hwf b (List.mem_of_mem_take hb)), ?_⟩, by omega, (fun q => by cases q), ?_⟩
    · rcases Nat.eq_zero_or_pos len with h0 | h0
      · left; subst h0; rfl
      · right
        obtain ⟨b, off, spot⟩ := a
        have h1 := hcell 0 (by omega)
        have hspot : spot = none := by simpa [Addr.add] using World.cell?_spot h1
        subst hspot
        refine ⟨b, off, rfl, ?_, fun i hi => ?_⟩
        · simpa [Addr.add] using lt_of_cell h1
        · rw [hlt] at hi
          have := hcell i (by omega)
          rw [add_plain] at this
          rw [hg i hi]
          exact this
    · rw [Rows.uptoBulk, bulk_lits, bulk_lits]; omega

end Go.Proofs.Ytnbabdfcamdapaa
