/-
  How a bucket among the arguments is opened.
-/
import Derived.Test.YtlmhcjkkdgdbjaaDoorMsgInts
import Derived.Test.YtlmhcjkkdgdbjaaDoorBk
namespace Go.Proofs.YtlmhcjkkdgdbjaaDoor
open Go.ChangeShapes Go.WideShapes Go.ChangeAt Go.RowKit Go.Deep

theorem cells_bucket : Tryd.prog.cellsOf 23 = 4 := by kernel_rfl

theorem list4b {α : Type} {l : List α} (h : l.length = 4) : ∃ a0 a1 a2 a3, l = [a0, a1, a2, a3] := by
  match l, h with
  | [a0, a1, a2, a3], _ => exact ⟨a0, a1, a2, a3, rfl⟩

theorem first_cell_b {a b : Value} {l : List Value} (h : l.take 1 = [b]) (hl : l.head? = some a) : a = b := by
  match l, h, hl with
  | x :: _, h, hl => simp at h hl; rw [← hl, h]

/-- A word. -/
def wd (n : Int) : Prop := -9223372036854775808 ≤ n ∧ n ≤ 9223372036854775807

/-- Four words. -/
def Wds (b : Bu.Bk) : Prop := wd b.rate ∧ wd b.burst ∧ wd b.has ∧ wd b.at'

theorem bucket_of {H : Type} {enc : TypeId × Value → H} {W : World} {fuel : Nat} {cs : List Value} {d : DataW H} {p : List MemPlace}
    (hf : DataW.trod enc Tryd.prog W 0 (fun _ => true) true fuel 23 cs = some (d, p)) (hz : ∀ n ∈ d.weights Tryd.prog 23, n ≤ reachBytes) :
    ∃ (b : Bu.Bk), cs = [.int .i64 b.rate, .int .i64 b.burst, .int .i64 b.has, .int .i64 b.at'] ∧ Wds b := by
  obtain ⟨xs, n, _, hd, hsz, hx, hF⟩ := DataW.trod_struct Tryd.underlying23 hf
  rw [cells_bucket] at hsz
  obtain ⟨a0, a1, a2, a3, rfl⟩ := list4b hsz
  simp only [Prod.mk.injEq] at hd
  obtain ⟨rfl, _⟩ := hd
  have hx4 : xs.length = 4 := hx
  obtain ⟨y0, y1, y2, y3, rfl⟩ := list4b hx4
  have f0 : DataW.trod enc Tryd.prog W 0 (fun _ => true) true n 3 (([a0, a1, a2, a3].drop 0).take (Tryd.prog.cellsOf 3)) = some y0 := hF 0 _ rfl
  have f1 : DataW.trod enc Tryd.prog W 0 (fun _ => true) true n 3 (([a0, a1, a2, a3].drop 1).take (Tryd.prog.cellsOf 3)) = some y1 := hF 1 _ rfl
  have f2 : DataW.trod enc Tryd.prog W 0 (fun _ => true) true n 3 (([a0, a1, a2, a3].drop 2).take (Tryd.prog.cellsOf 3)) = some y2 := hF 2 _ rfl
  have f3 : DataW.trod enc Tryd.prog W 0 (fun _ => true) true n 3 (([a0, a1, a2, a3].drop 3).take (Tryd.prog.cellsOf 3)) = some y3 := hF 3 _ rfl
  obtain ⟨n0, e0, _, w0⟩ := DataW.trod_int Tryd.underlying3 f0
  rw [cells_int] at e0
  obtain rfl := first_cell_b e0 rfl
  obtain ⟨n1, e1, _, w1⟩ := DataW.trod_int Tryd.underlying3 f1
  rw [cells_int] at e1
  obtain rfl := first_cell_b e1 rfl
  obtain ⟨n2, e2, _, w2⟩ := DataW.trod_int Tryd.underlying3 f2
  rw [cells_int] at e2
  obtain rfl := first_cell_b e2 rfl
  obtain ⟨n3, e3, _, w3⟩ := DataW.trod_int Tryd.underlying3 f3
  rw [cells_int] at e3
  obtain rfl := first_cell_b e3 rfl
  exact ⟨⟨n0, n1, n2, n3⟩, rfl, wf_i64 w0, wf_i64 w1, wf_i64 w2, wf_i64 w3⟩

end Go.Proofs.YtlmhcjkkdgdbjaaDoor
