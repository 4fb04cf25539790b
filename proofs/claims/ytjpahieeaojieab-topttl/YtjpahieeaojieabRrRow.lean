/-
  How a record among the arguments is opened.
-/
import Derived.Test.YtjpahieeaojieabMsgInts
import Derived.Test.YtjpahieeaojieabRr
namespace Go.Proofs.Ytjpahieeaojieab
open Go.ChangeShapes Go.WideShapes Go.ChangeAt Go.RowKit Go.Deep

theorem cells_record : Try.prog.cellsOf 31 = 5 := by kernel_rfl
theorem cells_strings : Try.prog.cellsOf 28 = 1 := by kernel_rfl
theorem cells_bytes : Try.prog.cellsOf 29 = 1 := by kernel_rfl

theorem list5 {α : Type} {l : List α} (h : l.length = 5) : ∃ a0 a1 a2 a3 a4, l = [a0, a1, a2, a3, a4] := by
  match l, h with
  | [a0, a1, a2, a3, a4], _ => exact ⟨a0, a1, a2, a3, a4, rfl⟩

theorem in_some {α : Type} {l : List α} {n i : Nat} (h : l.length = n) (hi : i < n) : ∃ y, l[i]? = some y := ⟨l[i], List.getElem?_eq_getElem (by omega)⟩

theorem first_cell {a b : Value} {l : List Value} (h : l.take 1 = [b]) (hl : l.head? = some a) : a = b := by
  match l, h, hl with
  | x :: _, h, hl => simp at h hl; rw [← hl, h]

theorem slice_cell {H : Type} {enc : TypeId × Value → H} {W : World} {t e : TypeId} {fuel : Nat} {a : Value} {x : DataW H × List MemPlace} (ht : Try.prog.underlying t = some (.slice e)) (h : DataW.trod enc Try.prog W 0 (fun _ => true) true fuel t [a] = some x) : ∃ y n q, a = .slice y n q := by
  rcases DataW.trod_slice ht h with ⟨hc, _⟩ | ⟨ad, len, cap, _, _, _, _, hc, _⟩
  · simp at hc; exact ⟨_, _, _, hc⟩
  · simp at hc; exact ⟨_, _, _, hc⟩

theorem record_of {H : Type} {enc : TypeId × Value → H} {W : World} {fuel : Nat} {cs : List Value} {d : DataW H} {p : List MemPlace}
    (hf : DataW.trod enc Try.prog W 0 (fun _ => true) true fuel 31 cs = some (d, p)) (hz : ∀ n ∈ d.weights Try.prog 31, n ≤ reachBytes) :
    ∃ (y z : Option Addr) (q r : Nat) (ty cl ttl : Int) (N : List ByteArray) (D : List Int), cs = [.slice y N.length q, .int .i64 ty, .int .i64 cl, .int .i64 ttl, .slice z D.length r] ∧ Strs W y q N ∧ Bys W z r D ∧ (z = none → r = 0) ∧ D.length ≤ 140737488351232 ∧
      (-9223372036854775808 ≤ ty ∧ ty ≤ 9223372036854775807) ∧ (-9223372036854775808 ≤ cl ∧ cl ≤ 9223372036854775807) ∧ (-9223372036854775808 ≤ ttl ∧ ttl ≤ 9223372036854775807) := by
  obtain ⟨xs, n, _, hd, hsz, hx, hF⟩ := DataW.trod_struct Try.underlying31 hf
  rw [cells_record] at hsz
  obtain ⟨a0, a1, a2, a3, a4, rfl⟩ := list5 hsz
  simp only [Prod.mk.injEq] at hd
  obtain ⟨rfl, _⟩ := hd
  have hx5 : xs.length = 5 := hx
  obtain ⟨y0, y1, y2, y3, y4, rfl⟩ := list5 hx5
  have f0 : DataW.trod enc Try.prog W 0 (fun _ => true) true n 28 (([a0, a1, a2, a3, a4].drop 0).take (Try.prog.cellsOf 28)) = some y0 := hF 0 _ rfl
  have f1 : DataW.trod enc Try.prog W 0 (fun _ => true) true n 3 (([a0, a1, a2, a3, a4].drop 1).take (Try.prog.cellsOf 3)) = some y1 := hF 1 _ rfl
  have f2 : DataW.trod enc Try.prog W 0 (fun _ => true) true n 3 (([a0, a1, a2, a3, a4].drop 2).take (Try.prog.cellsOf 3)) = some y2 := hF 2 _ rfl
  have f3 : DataW.trod enc Try.prog W 0 (fun _ => true) true n 3 (([a0, a1, a2, a3, a4].drop 3).take (Try.prog.cellsOf 3)) = some y3 := hF 3 _ rfl
  have f4 : DataW.trod enc Try.prog W 0 (fun _ => true) true n 29 (([a0, a1, a2, a3, a4].drop 4).take (Try.prog.cellsOf 29)) = some y4 := hF 4 _ rfl
  rw [cells_strings] at f0
  rw [cells_bytes] at f4
  have f0' : DataW.trod enc Try.prog W 0 (fun _ => true) true n 28 [a0] = some y0 := f0
  have f4' : DataW.trod enc Try.prog W 0 (fun _ => true) true n 29 [a4] = some y4 := f4
  clear f0 f4
  obtain ⟨n1, e1, _, w1⟩ := DataW.trod_int Try.underlying3 f1
  rw [cells_int] at e1
  obtain rfl := first_cell e1 rfl
  obtain ⟨n2, e2, _, w2⟩ := DataW.trod_int Try.underlying3 f2
  rw [cells_int] at e2
  obtain rfl := first_cell e2 rfl
  obtain ⟨n3, e3, _, w3⟩ := DataW.trod_int Try.underlying3 f3
  rw [cells_int] at e3
  obtain rfl := first_cell e3 rfl
  obtain ⟨s0, s1, s2, rfl⟩ := slice_cell Try.underlying28 f0'
  obtain ⟨u0, u1, u2, rfl⟩ := slice_cell Try.underlying29 f4'
  obtain ⟨d0, p0⟩ := y0
  obtain ⟨d4, p4⟩ := y4
  have hw : ∀ m ∈ DataW.weightsEach Try.prog [28, 3, 3, 3, 29] [d0, y1.1, y2.1, y3.1, d4], m ≤ reachBytes := fun m hm => hz m (by
    simp only [DataW.weights, Try.underlying31]
    exact hm)
  obtain ⟨N, hN, hS⟩ := strs_of f0' (fun m hm => hw m (DataW.weights_mem_each (j := 0) (t := 28) rfl rfl m hm))
  obtain ⟨D, hD, hB, hl, hzr, _⟩ := bys_of f4' (fun m hm => hw m (DataW.weights_mem_each (j := 4) (t := 29) rfl rfl m hm))
  subst hN hD
  exact ⟨s0, u0, s2, u2, n1, n2, n3, N, D, rfl, hS, hB, hzr, hl, wf_i64 w1, wf_i64 w2, wf_i64 w3⟩

end Go.Proofs.Ytjpahieeaojieab
