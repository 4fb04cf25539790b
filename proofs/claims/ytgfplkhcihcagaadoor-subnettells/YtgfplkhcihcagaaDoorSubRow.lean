/-
  How a subnet among the arguments is opened.
-/
import Derived.Test.YtgfplkhcihcagaaDoorMsgInts
import Derived.Test.YtgfplkhcihcagaaDoorSub
namespace Go.Proofs.YtgfplkhcihcagaaDoor
open Go.ChangeShapes Go.WideShapes Go.ChangeAt Go.RowKit Go.Deep

theorem cells_subnet : Tryd.prog.cellsOf 61 = 4 := by kernel_rfl
theorem cells_bytes_ : Tryd.prog.cellsOf 22 = 1 := by kernel_rfl

theorem list4 {α : Type} {l : List α} (h : l.length = 4) : ∃ a0 a1 a2 a3, l = [a0, a1, a2, a3] := by
  match l, h with
  | [a0, a1, a2, a3], _ => exact ⟨a0, a1, a2, a3, rfl⟩

theorem first_cell_ {a b : Value} {l : List Value} (h : l.take 1 = [b]) (hl : l.head? = some a) : a = b := by
  match l, h, hl with
  | x :: _, h, hl => simp at h hl; rw [← hl, h]

theorem slice_cell_ {H : Type} {enc : TypeId × Value → H} {W : World} {t e : TypeId} {fuel : Nat} {a : Value} {x : DataW H × List MemPlace} (ht : Tryd.prog.underlying t = some (.slice e)) (h : DataW.trod enc Tryd.prog W 0 (fun _ => true) true fuel t [a] = some x) : ∃ y n q, a = .slice y n q := by
  rcases DataW.trod_slice ht h with ⟨hc, _⟩ | ⟨ad, len, cap, _, _, _, _, hc, _⟩
  · simp at hc; exact ⟨_, _, _, hc⟩
  · simp at hc; exact ⟨_, _, _, hc⟩

theorem subnet_of {H : Type} {enc : TypeId × Value → H} {W : World} {fuel : Nat} {cs : List Value} {d : DataW H} {p : List MemPlace}
    (hf : DataW.trod enc Tryd.prog W 0 (fun _ => true) true fuel 61 cs = some (d, p)) (hz : ∀ n ∈ d.weights Tryd.prog 61, n ≤ reachBytes) :
    ∃ (x : Option Addr) (c : Nat) (s : Sn), cs = [.int .i64 s.fam, .int .i64 s.src, .int .i64 s.scp, .slice x s.A.length c] ∧ Bys W x c s.A ∧ (x = none → c = 0) ∧ s.A.length ≤ 140737488351232 ∧
      (-9223372036854775808 ≤ s.fam ∧ s.fam ≤ 9223372036854775807) ∧ (-9223372036854775808 ≤ s.src ∧ s.src ≤ 9223372036854775807) ∧ (-9223372036854775808 ≤ s.scp ∧ s.scp ≤ 9223372036854775807) := by
  obtain ⟨xs, n, _, hd, hsz, hx, hF⟩ := DataW.trod_struct Tryd.underlying61 hf
  rw [cells_subnet] at hsz
  obtain ⟨a0, a1, a2, a3, rfl⟩ := list4 hsz
  simp only [Prod.mk.injEq] at hd
  obtain ⟨rfl, _⟩ := hd
  have hx4 : xs.length = 4 := hx
  obtain ⟨y0, y1, y2, y3, rfl⟩ := list4 hx4
  have f0 : DataW.trod enc Tryd.prog W 0 (fun _ => true) true n 3 (([a0, a1, a2, a3].drop 0).take (Tryd.prog.cellsOf 3)) = some y0 := hF 0 _ rfl
  have f1 : DataW.trod enc Tryd.prog W 0 (fun _ => true) true n 3 (([a0, a1, a2, a3].drop 1).take (Tryd.prog.cellsOf 3)) = some y1 := hF 1 _ rfl
  have f2 : DataW.trod enc Tryd.prog W 0 (fun _ => true) true n 3 (([a0, a1, a2, a3].drop 2).take (Tryd.prog.cellsOf 3)) = some y2 := hF 2 _ rfl
  have f3 : DataW.trod enc Tryd.prog W 0 (fun _ => true) true n 22 (([a0, a1, a2, a3].drop 3).take (Tryd.prog.cellsOf 22)) = some y3 := hF 3 _ rfl
  rw [cells_bytes_] at f3
  have f3' : DataW.trod enc Tryd.prog W 0 (fun _ => true) true n 22 [a3] = some y3 := f3
  clear f3
  obtain ⟨n0, e0, _, w0⟩ := DataW.trod_int Tryd.underlying3 f0
  rw [cells_int] at e0
  obtain rfl := first_cell_ e0 rfl
  obtain ⟨n1, e1, _, w1⟩ := DataW.trod_int Tryd.underlying3 f1
  rw [cells_int] at e1
  obtain rfl := first_cell_ e1 rfl
  obtain ⟨n2, e2, _, w2⟩ := DataW.trod_int Tryd.underlying3 f2
  rw [cells_int] at e2
  obtain rfl := first_cell_ e2 rfl
  obtain ⟨u0, u1, u2, rfl⟩ := slice_cell_ Tryd.underlying22 f3'
  obtain ⟨d3, p3⟩ := y3
  have hw : ∀ m ∈ DataW.weightsEach Tryd.prog [3, 3, 3, 22] [y0.1, y1.1, y2.1, d3], m ≤ reachBytes := fun m hm => hz m (by
    simp only [DataW.weights, Tryd.underlying61]
    exact hm)
  obtain ⟨D, hD, hB, hl, hzr, _⟩ := bys_of f3' (fun m hm => hw m (DataW.weights_mem_each (j := 3) (t := 22) rfl rfl m hm))
  subst hD
  exact ⟨u0, u2, ⟨n0, n1, n2, D⟩, rfl, hB, hzr, hl, wf_i64 w0, wf_i64 w1, wf_i64 w2⟩

end Go.Proofs.YtgfplkhcihcagaaDoor
