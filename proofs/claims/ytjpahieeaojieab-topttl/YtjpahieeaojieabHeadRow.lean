/-
  How a header among the arguments is opened.
-/
import Derived.Test.YtjpahieeaojieabMsgInts
import Derived.Test.YtjpahieeaojieabHeadRead
namespace Go.Proofs.Ytjpahieeaojieab
open Go.ChangeShapes Go.WideShapes Go.ChangeAt Go.RowKit Go.Deep

theorem cells_bool : Try.prog.cellsOf 4 = 1 := by kernel_rfl
theorem cells_header : Try.prog.cellsOf 23 = 11 := by kernel_rfl

theorem list11 {α : Type} {l : List α} (h : l.length = 11) : ∃ a0 a1 a2 a3 a4 a5 a6 a7 a8 a9 a10, l = [a0, a1, a2, a3, a4, a5, a6, a7, a8, a9, a10] := by
  match l, h with
  | [a0, a1, a2, a3, a4, a5, a6, a7, a8, a9, a10], _ => exact ⟨a0, a1, a2, a3, a4, a5, a6, a7, a8, a9, a10, rfl⟩

theorem at_some {α : Type} {l : List α} {n i : Nat} (h : l.length = n) (hi : i < n) : ∃ y, l[i]? = some y := ⟨l[i], List.getElem?_eq_getElem (by omega)⟩

theorem one_cell {a b : Value} {l : List Value} (h : l.take 1 = [b]) (hl : l.head? = some a) : a = b := by
  match l, h, hl with
  | x :: _, h, hl => simp at h hl; rw [← hl, h]

set_option maxRecDepth 100000 in
theorem header_of {H : Type} {enc : TypeId × Value → H} {W : World} {r : Reach} {base fuel : Nat} {v : Value} {d : DataW H} {p : List MemPlace} (hv : Value.okWide Try.prog W r base 23 v)
    (hf : DataW.trod enc Try.prog W 0 (fun _ => true) true fuel 23 v.cells.toList = some (d, p)) :
    ∃ (id op code : Int) (an aa tc rd ra z ad cd : Bool), v = .agg #[.int .i64 id, .bool an, .int .i64 op, .bool aa, .bool tc, .bool rd, .bool ra, .bool z, .bool ad, .bool cd, .int .i64 code] ∧ (-9223372036854775808 ≤ id ∧ id ≤ 9223372036854775807) ∧ (-9223372036854775808 ≤ op ∧ op ≤ 9223372036854775807) ∧ (-9223372036854775808 ≤ code ∧ code ≤ 9223372036854775807) := by
  obtain ⟨cs, rfl, hsz⟩ := okWide_struct Try.underlying23 hv
  rw [cells_header] at hsz
  obtain ⟨cl⟩ := cs
  obtain ⟨a0, a1, a2, a3, a4, a5, a6, a7, a8, a9, a10, rfl⟩ := list11 hsz
  obtain ⟨xs, n, _, _, _, hx, hF⟩ := DataW.trod_struct Try.underlying23 hf
  obtain ⟨y0, g0⟩ := at_some (i := 0) hx (by decide)
  have f0 : DataW.trod enc Try.prog W 0 (fun _ => true) true n 3 (([a0, a1, a2, a3, a4, a5, a6, a7, a8, a9, a10].drop 0).take (Try.prog.cellsOf 3)) = some y0 := (hF 0 _ rfl).trans g0
  obtain ⟨y1, g1⟩ := at_some (i := 1) hx (by decide)
  have f1 : DataW.trod enc Try.prog W 0 (fun _ => true) true n 4 (([a0, a1, a2, a3, a4, a5, a6, a7, a8, a9, a10].drop 1).take (Try.prog.cellsOf 4)) = some y1 := (hF 1 _ rfl).trans g1
  obtain ⟨y2, g2⟩ := at_some (i := 2) hx (by decide)
  have f2 : DataW.trod enc Try.prog W 0 (fun _ => true) true n 3 (([a0, a1, a2, a3, a4, a5, a6, a7, a8, a9, a10].drop 2).take (Try.prog.cellsOf 3)) = some y2 := (hF 2 _ rfl).trans g2
  obtain ⟨y3, g3⟩ := at_some (i := 3) hx (by decide)
  have f3 : DataW.trod enc Try.prog W 0 (fun _ => true) true n 4 (([a0, a1, a2, a3, a4, a5, a6, a7, a8, a9, a10].drop 3).take (Try.prog.cellsOf 4)) = some y3 := (hF 3 _ rfl).trans g3
  obtain ⟨y4, g4⟩ := at_some (i := 4) hx (by decide)
  have f4 : DataW.trod enc Try.prog W 0 (fun _ => true) true n 4 (([a0, a1, a2, a3, a4, a5, a6, a7, a8, a9, a10].drop 4).take (Try.prog.cellsOf 4)) = some y4 := (hF 4 _ rfl).trans g4
  obtain ⟨y5, g5⟩ := at_some (i := 5) hx (by decide)
  have f5 : DataW.trod enc Try.prog W 0 (fun _ => true) true n 4 (([a0, a1, a2, a3, a4, a5, a6, a7, a8, a9, a10].drop 5).take (Try.prog.cellsOf 4)) = some y5 := (hF 5 _ rfl).trans g5
  obtain ⟨y6, g6⟩ := at_some (i := 6) hx (by decide)
  have f6 : DataW.trod enc Try.prog W 0 (fun _ => true) true n 4 (([a0, a1, a2, a3, a4, a5, a6, a7, a8, a9, a10].drop 6).take (Try.prog.cellsOf 4)) = some y6 := (hF 6 _ rfl).trans g6
  obtain ⟨y7, g7⟩ := at_some (i := 7) hx (by decide)
  have f7 : DataW.trod enc Try.prog W 0 (fun _ => true) true n 4 (([a0, a1, a2, a3, a4, a5, a6, a7, a8, a9, a10].drop 7).take (Try.prog.cellsOf 4)) = some y7 := (hF 7 _ rfl).trans g7
  obtain ⟨y8, g8⟩ := at_some (i := 8) hx (by decide)
  have f8 : DataW.trod enc Try.prog W 0 (fun _ => true) true n 4 (([a0, a1, a2, a3, a4, a5, a6, a7, a8, a9, a10].drop 8).take (Try.prog.cellsOf 4)) = some y8 := (hF 8 _ rfl).trans g8
  obtain ⟨y9, g9⟩ := at_some (i := 9) hx (by decide)
  have f9 : DataW.trod enc Try.prog W 0 (fun _ => true) true n 4 (([a0, a1, a2, a3, a4, a5, a6, a7, a8, a9, a10].drop 9).take (Try.prog.cellsOf 4)) = some y9 := (hF 9 _ rfl).trans g9
  obtain ⟨y10, g10⟩ := at_some (i := 10) hx (by decide)
  have f10 : DataW.trod enc Try.prog W 0 (fun _ => true) true n 3 (([a0, a1, a2, a3, a4, a5, a6, a7, a8, a9, a10].drop 10).take (Try.prog.cellsOf 3)) = some y10 := (hF 10 _ rfl).trans g10
  obtain ⟨n0, e0, _, w0⟩ := DataW.trod_int Try.underlying3 f0
  rw [cells_int] at e0
  obtain rfl := one_cell e0 rfl
  obtain ⟨n1, e1, _⟩ := DataW.trod_bool Try.underlying4 f1
  rw [cells_bool] at e1
  obtain rfl := one_cell e1 rfl
  obtain ⟨n2, e2, _, w2⟩ := DataW.trod_int Try.underlying3 f2
  rw [cells_int] at e2
  obtain rfl := one_cell e2 rfl
  obtain ⟨n3, e3, _⟩ := DataW.trod_bool Try.underlying4 f3
  rw [cells_bool] at e3
  obtain rfl := one_cell e3 rfl
  obtain ⟨n4, e4, _⟩ := DataW.trod_bool Try.underlying4 f4
  rw [cells_bool] at e4
  obtain rfl := one_cell e4 rfl
  obtain ⟨n5, e5, _⟩ := DataW.trod_bool Try.underlying4 f5
  rw [cells_bool] at e5
  obtain rfl := one_cell e5 rfl
  obtain ⟨n6, e6, _⟩ := DataW.trod_bool Try.underlying4 f6
  rw [cells_bool] at e6
  obtain rfl := one_cell e6 rfl
  obtain ⟨n7, e7, _⟩ := DataW.trod_bool Try.underlying4 f7
  rw [cells_bool] at e7
  obtain rfl := one_cell e7 rfl
  obtain ⟨n8, e8, _⟩ := DataW.trod_bool Try.underlying4 f8
  rw [cells_bool] at e8
  obtain rfl := one_cell e8 rfl
  obtain ⟨n9, e9, _⟩ := DataW.trod_bool Try.underlying4 f9
  rw [cells_bool] at e9
  obtain rfl := one_cell e9 rfl
  obtain ⟨n10, e10, _, w10⟩ := DataW.trod_int Try.underlying3 f10
  rw [cells_int] at e10
  obtain rfl := one_cell e10 rfl
  exact ⟨_, _, _, _, _, _, _, _, _, _, _, rfl, wf_i64 w0, wf_i64 w2, wf_i64 w10⟩

end Go.Proofs.Ytjpahieeaojieab
