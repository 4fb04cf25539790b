/-
  How a record among the arguments is opened. How a header among the arguments is opened. How a message among the arguments is opened: its header, its questions, its records. What the tied list of one variable (what the library keeps of the type of errors) gives a walk: that variable's cell; and a start that meets it: the heap that the door's own run leaves.
-/
import Derived.Test.YtbbgabdiikdjpaaDoorMsgInts
import Derived.Test.YtbbgabdiikdjpaaDoorRr
import Derived.Test.YtbbgabdiikdjpaaDoorHeadRead
import Derived.Test.YtbbgabdiikdjpaaDoorMgHead
import Derived.Test.YtbbgabdiikdjpaaDoorJR
import Derived.Test.YtbbgabdiikdjpaaDoorRow
import Derived.ChangeSame
import Derived.ChangeVars
import Derived.JoinedOf
import Derived.LaidLaws
import Derived.LaidHandle
import Derived.LaidMore
import Derived.Stop.Joined
namespace Go.Proofs.YtbbgabdiikdjpaaDoor
open Go.ChangeShapes Go.WideShapes Go.ChangeAt Go.RowKit Go.Deep

theorem cells_record : Tryd.prog.cellsOf 67 = 5 := by kernel_rfl
theorem cells_strings : Tryd.prog.cellsOf 60 = 1 := by kernel_rfl
theorem cells_bytes : Tryd.prog.cellsOf 22 = 1 := by kernel_rfl

theorem list5 {α : Type} {l : List α} (h : l.length = 5) : ∃ a0 a1 a2 a3 a4, l = [a0, a1, a2, a3, a4] := by
  match l, h with
  | [a0, a1, a2, a3, a4], _ => exact ⟨a0, a1, a2, a3, a4, rfl⟩

theorem in_some {α : Type} {l : List α} {n i : Nat} (h : l.length = n) (hi : i < n) : ∃ y, l[i]? = some y := ⟨l[i], List.getElem?_eq_getElem (by omega)⟩

theorem first_cell {a b : Value} {l : List Value} (h : l.take 1 = [b]) (hl : l.head? = some a) : a = b := by
  match l, h, hl with
  | x :: _, h, hl => simp at h hl; rw [← hl, h]

theorem slice_cell {H : Type} {enc : TypeId × Value → H} {W : World} {t e : TypeId} {fuel : Nat} {a : Value} {x : DataW H × List MemPlace} (ht : Tryd.prog.underlying t = some (.slice e)) (h : DataW.trod enc Tryd.prog W 0 (fun _ => true) true fuel t [a] = some x) : ∃ y n q, a = .slice y n q := by
  rcases DataW.trod_slice ht h with ⟨hc, _⟩ | ⟨ad, len, cap, _, _, _, _, hc, _⟩
  · simp at hc; exact ⟨_, _, _, hc⟩
  · simp at hc; exact ⟨_, _, _, hc⟩

theorem record_of {H : Type} {enc : TypeId × Value → H} {W : World} {fuel : Nat} {cs : List Value} {d : DataW H} {p : List MemPlace}
    (hf : DataW.trod enc Tryd.prog W 0 (fun _ => true) true fuel 67 cs = some (d, p)) (hz : ∀ n ∈ d.weights Tryd.prog 67, n ≤ reachBytes) :
    ∃ (y z : Option Addr) (q r : Nat) (ty cl ttl : Int) (N : List ByteArray) (D : List Int), cs = [.slice y N.length q, .int .i64 ty, .int .i64 cl, .int .i64 ttl, .slice z D.length r] ∧ Strs W y q N ∧ Bys W z r D ∧ (z = none → r = 0) ∧ D.length ≤ 140737488351232 ∧
      (-9223372036854775808 ≤ ty ∧ ty ≤ 9223372036854775807) ∧ (-9223372036854775808 ≤ cl ∧ cl ≤ 9223372036854775807) ∧ (-9223372036854775808 ≤ ttl ∧ ttl ≤ 9223372036854775807) := by
  obtain ⟨xs, n, _, hd, hsz, hx, hF⟩ := DataW.trod_struct Tryd.underlying67 hf
  rw [cells_record] at hsz
  obtain ⟨a0, a1, a2, a3, a4, rfl⟩ := list5 hsz
  simp only [Prod.mk.injEq] at hd
  obtain ⟨rfl, _⟩ := hd
  have hx5 : xs.length = 5 := hx
  obtain ⟨y0, y1, y2, y3, y4, rfl⟩ := list5 hx5
  have f0 : DataW.trod enc Tryd.prog W 0 (fun _ => true) true n 60 (([a0, a1, a2, a3, a4].drop 0).take (Tryd.prog.cellsOf 60)) = some y0 := hF 0 _ rfl
  have f1 : DataW.trod enc Tryd.prog W 0 (fun _ => true) true n 3 (([a0, a1, a2, a3, a4].drop 1).take (Tryd.prog.cellsOf 3)) = some y1 := hF 1 _ rfl
  have f2 : DataW.trod enc Tryd.prog W 0 (fun _ => true) true n 3 (([a0, a1, a2, a3, a4].drop 2).take (Tryd.prog.cellsOf 3)) = some y2 := hF 2 _ rfl
  have f3 : DataW.trod enc Tryd.prog W 0 (fun _ => true) true n 3 (([a0, a1, a2, a3, a4].drop 3).take (Tryd.prog.cellsOf 3)) = some y3 := hF 3 _ rfl
  have f4 : DataW.trod enc Tryd.prog W 0 (fun _ => true) true n 22 (([a0, a1, a2, a3, a4].drop 4).take (Tryd.prog.cellsOf 22)) = some y4 := hF 4 _ rfl
  rw [cells_strings] at f0
  rw [cells_bytes] at f4
  have f0' : DataW.trod enc Tryd.prog W 0 (fun _ => true) true n 60 [a0] = some y0 := f0
  have f4' : DataW.trod enc Tryd.prog W 0 (fun _ => true) true n 22 [a4] = some y4 := f4
  clear f0 f4
  obtain ⟨n1, e1, _, w1⟩ := DataW.trod_int Tryd.underlying3 f1
  rw [cells_int] at e1
  obtain rfl := first_cell e1 rfl
  obtain ⟨n2, e2, _, w2⟩ := DataW.trod_int Tryd.underlying3 f2
  rw [cells_int] at e2
  obtain rfl := first_cell e2 rfl
  obtain ⟨n3, e3, _, w3⟩ := DataW.trod_int Tryd.underlying3 f3
  rw [cells_int] at e3
  obtain rfl := first_cell e3 rfl
  obtain ⟨s0, s1, s2, rfl⟩ := slice_cell Tryd.underlying60 f0'
  obtain ⟨u0, u1, u2, rfl⟩ := slice_cell Tryd.underlying22 f4'
  obtain ⟨d0, p0⟩ := y0
  obtain ⟨d4, p4⟩ := y4
  have hw : ∀ m ∈ DataW.weightsEach Tryd.prog [60, 3, 3, 3, 22] [d0, y1.1, y2.1, y3.1, d4], m ≤ reachBytes := fun m hm => hz m (by
    simp only [DataW.weights, Tryd.underlying67]
    exact hm)
  obtain ⟨N, hN, hS⟩ := strs_of f0' (fun m hm => hw m (DataW.weights_mem_each (j := 0) (t := 60) rfl rfl m hm))
  obtain ⟨D, hD, hB, hl, hzr, _⟩ := bys_of f4' (fun m hm => hw m (DataW.weights_mem_each (j := 4) (t := 22) rfl rfl m hm))
  subst hN hD
  exact ⟨s0, u0, s2, u2, n1, n2, n3, N, D, rfl, hS, hB, hzr, hl, wf_i64 w1, wf_i64 w2, wf_i64 w3⟩

end Go.Proofs.YtbbgabdiikdjpaaDoor

namespace Go.Proofs.YtbbgabdiikdjpaaDoor
open Go.ChangeShapes Go.WideShapes Go.ChangeAt Go.RowKit Go.Deep

theorem cells_bool : Tryd.prog.cellsOf 4 = 1 := by kernel_rfl
theorem cells_header : Tryd.prog.cellsOf 24 = 11 := by kernel_rfl

theorem list11 {α : Type} {l : List α} (h : l.length = 11) : ∃ a0 a1 a2 a3 a4 a5 a6 a7 a8 a9 a10, l = [a0, a1, a2, a3, a4, a5, a6, a7, a8, a9, a10] := by
  match l, h with
  | [a0, a1, a2, a3, a4, a5, a6, a7, a8, a9, a10], _ => exact ⟨a0, a1, a2, a3, a4, a5, a6, a7, a8, a9, a10, rfl⟩

theorem at_some {α : Type} {l : List α} {n i : Nat} (h : l.length = n) (hi : i < n) : ∃ y, l[i]? = some y := ⟨l[i], List.getElem?_eq_getElem (by omega)⟩

theorem one_cell {a b : Value} {l : List Value} (h : l.take 1 = [b]) (hl : l.head? = some a) : a = b := by
  match l, h, hl with
  | x :: _, h, hl => simp at h hl; rw [← hl, h]

set_option maxRecDepth 100000 in
theorem header_of {H : Type} {enc : TypeId × Value → H} {W : World} {r : Reach} {base fuel : Nat} {v : Value} {d : DataW H} {p : List MemPlace} (hv : Value.okWide Tryd.prog W r base 24 v)
    (hf : DataW.trod enc Tryd.prog W 0 (fun _ => true) true fuel 24 v.cells.toList = some (d, p)) :
    ∃ (id op code : Int) (an aa tc rd ra z ad cd : Bool), v = .agg #[.int .i64 id, .bool an, .int .i64 op, .bool aa, .bool tc, .bool rd, .bool ra, .bool z, .bool ad, .bool cd, .int .i64 code] ∧ (-9223372036854775808 ≤ id ∧ id ≤ 9223372036854775807) ∧ (-9223372036854775808 ≤ op ∧ op ≤ 9223372036854775807) ∧ (-9223372036854775808 ≤ code ∧ code ≤ 9223372036854775807) := by
  obtain ⟨cs, rfl, hsz⟩ := okWide_struct Tryd.underlying24 hv
  rw [cells_header] at hsz
  obtain ⟨cl⟩ := cs
  obtain ⟨a0, a1, a2, a3, a4, a5, a6, a7, a8, a9, a10, rfl⟩ := list11 hsz
  obtain ⟨xs, n, _, _, _, hx, hF⟩ := DataW.trod_struct Tryd.underlying24 hf
  obtain ⟨y0, g0⟩ := at_some (i := 0) hx (by decide)
  have f0 : DataW.trod enc Tryd.prog W 0 (fun _ => true) true n 3 (([a0, a1, a2, a3, a4, a5, a6, a7, a8, a9, a10].drop 0).take (Tryd.prog.cellsOf 3)) = some y0 := (hF 0 _ rfl).trans g0
  obtain ⟨y1, g1⟩ := at_some (i := 1) hx (by decide)
  have f1 : DataW.trod enc Tryd.prog W 0 (fun _ => true) true n 4 (([a0, a1, a2, a3, a4, a5, a6, a7, a8, a9, a10].drop 1).take (Tryd.prog.cellsOf 4)) = some y1 := (hF 1 _ rfl).trans g1
  obtain ⟨y2, g2⟩ := at_some (i := 2) hx (by decide)
  have f2 : DataW.trod enc Tryd.prog W 0 (fun _ => true) true n 3 (([a0, a1, a2, a3, a4, a5, a6, a7, a8, a9, a10].drop 2).take (Tryd.prog.cellsOf 3)) = some y2 := (hF 2 _ rfl).trans g2
  obtain ⟨y3, g3⟩ := at_some (i := 3) hx (by decide)
  have f3 : DataW.trod enc Tryd.prog W 0 (fun _ => true) true n 4 (([a0, a1, a2, a3, a4, a5, a6, a7, a8, a9, a10].drop 3).take (Tryd.prog.cellsOf 4)) = some y3 := (hF 3 _ rfl).trans g3
  obtain ⟨y4, g4⟩ := at_some (i := 4) hx (by decide)
  have f4 : DataW.trod enc Tryd.prog W 0 (fun _ => true) true n 4 (([a0, a1, a2, a3, a4, a5, a6, a7, a8, a9, a10].drop 4).take (Tryd.prog.cellsOf 4)) = some y4 := (hF 4 _ rfl).trans g4
  obtain ⟨y5, g5⟩ := at_some (i := 5) hx (by decide)
  have f5 : DataW.trod enc Tryd.prog W 0 (fun _ => true) true n 4 (([a0, a1, a2, a3, a4, a5, a6, a7, a8, a9, a10].drop 5).take (Tryd.prog.cellsOf 4)) = some y5 := (hF 5 _ rfl).trans g5
  obtain ⟨y6, g6⟩ := at_some (i := 6) hx (by decide)
  have f6 : DataW.trod enc Tryd.prog W 0 (fun _ => true) true n 4 (([a0, a1, a2, a3, a4, a5, a6, a7, a8, a9, a10].drop 6).take (Tryd.prog.cellsOf 4)) = some y6 := (hF 6 _ rfl).trans g6
  obtain ⟨y7, g7⟩ := at_some (i := 7) hx (by decide)
  have f7 : DataW.trod enc Tryd.prog W 0 (fun _ => true) true n 4 (([a0, a1, a2, a3, a4, a5, a6, a7, a8, a9, a10].drop 7).take (Tryd.prog.cellsOf 4)) = some y7 := (hF 7 _ rfl).trans g7
  obtain ⟨y8, g8⟩ := at_some (i := 8) hx (by decide)
  have f8 : DataW.trod enc Tryd.prog W 0 (fun _ => true) true n 4 (([a0, a1, a2, a3, a4, a5, a6, a7, a8, a9, a10].drop 8).take (Tryd.prog.cellsOf 4)) = some y8 := (hF 8 _ rfl).trans g8
  obtain ⟨y9, g9⟩ := at_some (i := 9) hx (by decide)
  have f9 : DataW.trod enc Tryd.prog W 0 (fun _ => true) true n 4 (([a0, a1, a2, a3, a4, a5, a6, a7, a8, a9, a10].drop 9).take (Tryd.prog.cellsOf 4)) = some y9 := (hF 9 _ rfl).trans g9
  obtain ⟨y10, g10⟩ := at_some (i := 10) hx (by decide)
  have f10 : DataW.trod enc Tryd.prog W 0 (fun _ => true) true n 3 (([a0, a1, a2, a3, a4, a5, a6, a7, a8, a9, a10].drop 10).take (Tryd.prog.cellsOf 3)) = some y10 := (hF 10 _ rfl).trans g10
  obtain ⟨n0, e0, _, w0⟩ := DataW.trod_int Tryd.underlying3 f0
  rw [cells_int] at e0
  obtain rfl := one_cell e0 rfl
  obtain ⟨n1, e1, _⟩ := DataW.trod_bool Tryd.underlying4 f1
  rw [cells_bool] at e1
  obtain rfl := one_cell e1 rfl
  obtain ⟨n2, e2, _, w2⟩ := DataW.trod_int Tryd.underlying3 f2
  rw [cells_int] at e2
  obtain rfl := one_cell e2 rfl
  obtain ⟨n3, e3, _⟩ := DataW.trod_bool Tryd.underlying4 f3
  rw [cells_bool] at e3
  obtain rfl := one_cell e3 rfl
  obtain ⟨n4, e4, _⟩ := DataW.trod_bool Tryd.underlying4 f4
  rw [cells_bool] at e4
  obtain rfl := one_cell e4 rfl
  obtain ⟨n5, e5, _⟩ := DataW.trod_bool Tryd.underlying4 f5
  rw [cells_bool] at e5
  obtain rfl := one_cell e5 rfl
  obtain ⟨n6, e6, _⟩ := DataW.trod_bool Tryd.underlying4 f6
  rw [cells_bool] at e6
  obtain rfl := one_cell e6 rfl
  obtain ⟨n7, e7, _⟩ := DataW.trod_bool Tryd.underlying4 f7
  rw [cells_bool] at e7
  obtain rfl := one_cell e7 rfl
  obtain ⟨n8, e8, _⟩ := DataW.trod_bool Tryd.underlying4 f8
  rw [cells_bool] at e8
  obtain rfl := one_cell e8 rfl
  obtain ⟨n9, e9, _⟩ := DataW.trod_bool Tryd.underlying4 f9
  rw [cells_bool] at e9
  obtain rfl := one_cell e9 rfl
  obtain ⟨n10, e10, _, w10⟩ := DataW.trod_int Tryd.underlying3 f10
  rw [cells_int] at e10
  obtain rfl := one_cell e10 rfl
  exact ⟨_, _, _, _, _, _, _, _, _, _, _, rfl, wf_i64 w0, wf_i64 w2, wf_i64 w10⟩

end Go.Proofs.YtbbgabdiikdjpaaDoor

namespace Go.Proofs.YtbbgabdiikdjpaaDoor
open Go.ChangeShapes Go.WideShapes Go.ChangeAt Go.RowKit Go.Deep

theorem cells_question : Tryd.prog.cellsOf 65 = 3 := by kernel_rfl
theorem cells_message : Tryd.prog.cellsOf 28 = 15 := by kernel_rfl
theorem cells_questions : Tryd.prog.cellsOf 25 = 1 := by kernel_rfl
theorem cells_records : Tryd.prog.cellsOf 26 = 1 := by kernel_rfl
theorem bytes_question : Tryd.prog.bytesOf 65 = 40 := by kernel_rfl
theorem bytes_record : Tryd.prog.bytesOf 67 = 72 := by kernel_rfl

theorem list3 {α : Type} {l : List α} (h : l.length = 3) : ∃ a0 a1 a2, l = [a0, a1, a2] := by
  match l, h with
  | [a0, a1, a2], _ => exact ⟨a0, a1, a2, rfl⟩

theorem weights_at {H : Type} {P : Program} {e : TypeId} (L : List (DataW H)) (i : Nat) (d : DataW H) (hi : L[i]? = some d) : ∀ n ∈ d.weights P e, n ∈ DataW.weightsAll P e L := by
  induction L generalizing i with
  | nil => simp at hi
  | cons d' l ih =>
    intro n hn
    simp only [DataW.weightsAll, List.mem_append]
    cases i with
    | zero => simp only [List.getElem?_cons_zero, Option.some.injEq] at hi; subst hi; left; exact hn
    | succ j => right; exact ih j (by simpa using hi) n hn

theorem list_of {α : Type} {P : Nat → α → Prop} : ∀ n : Nat, (∀ i, i < n → ∃ x, P i x) → ∃ l : List α, l.length = n ∧ ∀ i (h : i < l.length), P i l[i] := by
  intro n
  induction n with
  | zero => intro _; exact ⟨[], rfl, fun i h => by simp at h⟩
  | succ n ih =>
    intro h
    obtain ⟨l, hl, hp⟩ := ih fun i hi => h i (by omega)
    obtain ⟨x, hx⟩ := h n (by omega)
    refine ⟨l ++ [x], by simp [hl], fun i hi => ?_⟩
    rw [List.length_append, List.length_singleton] at hi
    by_cases c : i < l.length
    · rw [List.getElem_append_left c]; exact hp i c
    · have e : i = n := by omega
      subst e
      rw [List.getElem_append_right (by omega)]
      simpa [hl] using hx

theorem question_of {H : Type} {enc : TypeId × Value → H} {W : World} {fuel : Nat} {cs : List Value} {d : DataW H} {p : List MemPlace}
    (hf : DataW.trod enc Tryd.prog W 0 (fun _ => true) true fuel 65 cs = some (d, p)) (hz : ∀ n ∈ d.weights Tryd.prog 65, n ≤ reachBytes) :
    ∃ (y : Option Addr) (s : Nat) (q : Qn), cs = [.slice y q.N.length s, .int .i64 q.ty, .int .i64 q.cl] ∧ Strs W y s q.N := by
  obtain ⟨xs, n, _, hd, hsz, hx, hF⟩ := DataW.trod_struct Tryd.underlying65 hf
  rw [cells_question] at hsz
  obtain ⟨a0, a1, a2, rfl⟩ := list3 hsz
  simp only [Prod.mk.injEq] at hd
  obtain ⟨rfl, _⟩ := hd
  have hx3 : xs.length = 3 := hx
  obtain ⟨y0, y1, y2, rfl⟩ := list3 hx3
  have f0 : DataW.trod enc Tryd.prog W 0 (fun _ => true) true n 60 (([a0, a1, a2].drop 0).take (Tryd.prog.cellsOf 60)) = some y0 := hF 0 _ rfl
  have f1 : DataW.trod enc Tryd.prog W 0 (fun _ => true) true n 3 (([a0, a1, a2].drop 1).take (Tryd.prog.cellsOf 3)) = some y1 := hF 1 _ rfl
  have f2 : DataW.trod enc Tryd.prog W 0 (fun _ => true) true n 3 (([a0, a1, a2].drop 2).take (Tryd.prog.cellsOf 3)) = some y2 := hF 2 _ rfl
  rw [cells_strings] at f0
  have f0' : DataW.trod enc Tryd.prog W 0 (fun _ => true) true n 60 [a0] = some y0 := f0
  clear f0
  obtain ⟨n1, e1, _, w1⟩ := DataW.trod_int Tryd.underlying3 f1
  rw [cells_int] at e1
  obtain rfl := first_cell e1 rfl
  obtain ⟨n2, e2, _, w2⟩ := DataW.trod_int Tryd.underlying3 f2
  rw [cells_int] at e2
  obtain rfl := first_cell e2 rfl
  obtain ⟨s0, s1, s2, rfl⟩ := slice_cell Tryd.underlying60 f0'
  obtain ⟨d0, p0⟩ := y0
  have hw : ∀ m ∈ DataW.weightsEach Tryd.prog [60, 3, 3] [d0, y1.1, y2.1], m ≤ reachBytes := fun m hm => hz m (by
    simp only [DataW.weights, Tryd.underlying65]
    exact hm)
  obtain ⟨N, hN, hS⟩ := strs_of f0' (fun m hm => hw m (DataW.weights_mem_each (j := 0) (t := 60) rfl rfl m hm))
  subst hN
  exact ⟨s0, s2, ⟨N, n1, n2⟩, rfl, hS⟩

theorem questions_of {H : Type} {enc : TypeId × Value → H} {W : World} {x : Option Addr} {len cap fuel : Nat} {d : DataW H} {p : List MemPlace}
    (hf : DataW.trod enc Tryd.prog W 0 (fun _ => true) true fuel 25 [Value.slice x len cap] = some (d, p)) (hz : ∀ n ∈ d.weights Tryd.prog 25, n ≤ reachBytes) :
    ∃ qs : List Qn, qs.length = len ∧ Qs W 0 x cap qs := by
  rcases DataW.trod_slice Tryd.underlying25 hf with ⟨hc, _⟩ | ⟨a, l, c, elems, rest, n, _, hc, hd, _, hlc, _, hel, hE, hR, _⟩
  · simp only [List.cons.injEq, Value.slice.injEq, and_true] at hc
    obtain ⟨rfl, rfl, rfl⟩ := hc
    exact ⟨[], rfl, Qs.nil W 0 none 0⟩
  · simp only [List.cons.injEq, Value.slice.injEq, and_true] at hc
    obtain ⟨rfl, rfl, rfl⟩ := hc
    simp only [Prod.mk.injEq] at hd
    obtain ⟨rfl, _⟩ := hd
    have hr : reachBytes = 140737488351232 := by decide
    have hw : (len + rest.length) * 40 ≤ reachBytes := by
      refine hz _ ?_
      simp only [DataW.weights, Tryd.underlying25, bytes_question, List.length_map, hel]
      exact List.mem_cons_self
    rw [cells_question] at hE
    have hall : ∀ i, i < len → ∃ q : Qn, ∃ y s, W.cell? ((a.add (i * 3)).add 0) = some (.slice y q.N.length s) ∧ W.cell? ((a.add (i * 3)).add 1) = some (.int .i64 q.ty) ∧ W.cell? ((a.add (i * 3)).add 2) = some (.int .i64 q.cl) ∧ Strs W y s q.N := by
      intro i hi
      have h1 := hE i hi
      have he : elems[i]? = some elems[i] := List.getElem?_eq_getElem (by omega)
      rw [he] at h1
      cases hcs : W.cells? 0 (a.add (i * 3)) 3 with
      | none => rw [hcs] at h1; cases h1
      | some cs =>
        rw [hcs] at h1
        have h2 : DataW.trod enc Tryd.prog W 0 (fun _ => true) true n 65 cs = some (elems[i].1, elems[i].2) := h1
        obtain ⟨y, s, q, rfl, hS⟩ := question_of h2 (fun m hm => hz m (by
          simp only [DataW.weights, Tryd.underlying25]
          refine List.mem_cons_of_mem _ (List.mem_append_left _ (weights_at _ i elems[i].1 ?_ m hm))
          rw [List.getElem?_map, he]
          rfl))
        have hc := (World.cells?_some hcs).2.2
        exact ⟨q, y, s, hc 0 (by decide), hc 1 (by decide), hc 2 (by decide), hS⟩
    obtain ⟨qs, hq, hp⟩ := list_of len hall
    refine ⟨qs, hq, by omega, by omega, ?_⟩
    rcases Nat.eq_zero_or_pos len with h0 | h0
    · left; exact List.length_eq_zero_iff.1 (by omega)
    · right
      obtain ⟨b, off, spot⟩ := a
      obtain ⟨y, s, k1, _⟩ := hp 0 (by omega)
      have hspot : spot = none := by simpa [Addr.add] using World.cell?_spot k1
      subst hspot
      refine ⟨b, off, rfl, ?_, Nat.zero_le _, fun i hi => ?_⟩
      · simpa [Addr.add] using lt_of_cell k1
      · obtain ⟨y, s, k1, k2, k3, k4⟩ := hp i hi
        simp only [add_plain, Nat.add_zero] at k1 k2 k3
        exact ⟨y, s, k1, k2, k3, k4, fun a _ => Nat.zero_le _⟩

theorem records_of2 {H : Type} {enc : TypeId × Value → H} {W : World} {x : Option Addr} {len cap fuel : Nat} {d : DataW H} {p : List MemPlace}
    (hf : DataW.trod enc Tryd.prog W 0 (fun _ => true) true fuel 26 [Value.slice x len cap] = some (d, p)) (hz : ∀ n ∈ d.weights Tryd.prog 26, n ≤ reachBytes) :
    ∃ qs : List Rn, qs.length = len ∧ Rs W 0 x cap qs ∧ qs.length * 72 ≤ 140737488351232 := by
  rcases DataW.trod_slice Tryd.underlying26 hf with ⟨hc, _⟩ | ⟨a, l, c, elems, rest, n, _, hc, hd, _, hlc, _, hel, hE, hR, _⟩
  · simp only [List.cons.injEq, Value.slice.injEq, and_true] at hc
    obtain ⟨rfl, rfl, rfl⟩ := hc
    exact ⟨[], rfl, Rs.nil W 0 none 0, by simp⟩
  · simp only [List.cons.injEq, Value.slice.injEq, and_true] at hc
    obtain ⟨rfl, rfl, rfl⟩ := hc
    simp only [Prod.mk.injEq] at hd
    obtain ⟨rfl, _⟩ := hd
    have hr : reachBytes = 140737488351232 := by decide
    have hw : (len + rest.length) * 72 ≤ reachBytes := by
      refine hz _ ?_
      simp only [DataW.weights, Tryd.underlying26, bytes_record, List.length_map, hel]
      exact List.mem_cons_self
    rw [cells_record] at hE
    have hall : ∀ i, i < len → ∃ q : Rn, ∃ y s z t, W.cell? ((a.add (i * 5)).add 0) = some (.slice y q.N.length s) ∧ W.cell? ((a.add (i * 5)).add 1) = some (.int .i64 q.ty) ∧ W.cell? ((a.add (i * 5)).add 2) = some (.int .i64 q.cl) ∧ W.cell? ((a.add (i * 5)).add 3) = some (.int .i64 q.ttl) ∧ W.cell? ((a.add (i * 5)).add 4) = some (.slice z q.D.length t) ∧ Strs W y s q.N ∧ Bys W z t q.D ∧ (z = none → t = 0) := by
      intro i hi
      have h1 := hE i hi
      have he : elems[i]? = some elems[i] := List.getElem?_eq_getElem (by omega)
      rw [he] at h1
      cases hcs : W.cells? 0 (a.add (i * 5)) 5 with
      | none => rw [hcs] at h1; cases h1
      | some cs =>
        rw [hcs] at h1
        have h2 : DataW.trod enc Tryd.prog W 0 (fun _ => true) true n 67 cs = some (elems[i].1, elems[i].2) := h1
        obtain ⟨y, z, s, t, ty, cl, ttl, N, D, rfl, hS, hB, hzt, _⟩ := record_of h2 (fun m hm => hz m (by
          simp only [DataW.weights, Tryd.underlying26]
          refine List.mem_cons_of_mem _ (List.mem_append_left _ (weights_at _ i elems[i].1 ?_ m hm))
          rw [List.getElem?_map, he]
          rfl))
        have hc := (World.cells?_some hcs).2.2
        exact ⟨⟨N, ty, cl, ttl, D⟩, y, s, z, t, hc 0 (by decide), hc 1 (by decide), hc 2 (by decide), hc 3 (by decide), hc 4 (by decide), hS, hB, hzt⟩
    obtain ⟨qs, hq, hp⟩ := list_of len hall
    refine ⟨qs, hq, ⟨by omega, by omega, ?_⟩, by omega⟩
    rcases Nat.eq_zero_or_pos len with h0 | h0
    · left; exact List.length_eq_zero_iff.1 (by omega)
    · right
      obtain ⟨b, off, spot⟩ := a
      obtain ⟨y, s, z, t, k1, _⟩ := hp 0 (by omega)
      have hspot : spot = none := by simpa [Addr.add] using World.cell?_spot k1
      subst hspot
      refine ⟨b, off, rfl, ?_, Nat.zero_le _, fun i hi => ?_⟩
      · simpa [Addr.add] using lt_of_cell k1
      · obtain ⟨y, s, z, t, k1, k2, k3, k4, k5, k6, k7, k8⟩ := hp i hi
        simp only [add_plain, Nat.add_zero] at k1 k2 k3 k4 k5
        exact ⟨y, s, z, t, k1, k2, k3, k4, k5, k6, k7, k8, fun a _ => Nat.zero_le _, fun a _ => Nat.zero_le _⟩

set_option maxRecDepth 100000 in
theorem header_cells {H : Type} {enc : TypeId × Value → H} {W : World} {fuel : Nat} {cs : List Value} {x : DataW H × List MemPlace} (hf : DataW.trod enc Tryd.prog W 0 (fun _ => true) true fuel 24 cs = some x) : ∃ h : Hd, cs = [.int .i64 h.id, .bool h.an, .int .i64 h.op, .bool h.aa, .bool h.tc, .bool h.rd, .bool h.ra, .bool h.z, .bool h.ad, .bool h.cd, .int .i64 h.code] := by
  obtain ⟨xs, n, _, _, hsz, hx, hF⟩ := DataW.trod_struct Tryd.underlying24 hf
  rw [cells_header] at hsz
  obtain ⟨a0, a1, a2, a3, a4, a5, a6, a7, a8, a9, a10, rfl⟩ := list11 hsz
  obtain ⟨y0, g0⟩ := at_some (i := 0) hx (by decide)
  have f0 : DataW.trod enc Tryd.prog W 0 (fun _ => true) true n 3 (([a0, a1, a2, a3, a4, a5, a6, a7, a8, a9, a10].drop 0).take (Tryd.prog.cellsOf 3)) = some y0 := (hF 0 _ rfl).trans g0
  obtain ⟨y1, g1⟩ := at_some (i := 1) hx (by decide)
  have f1 : DataW.trod enc Tryd.prog W 0 (fun _ => true) true n 4 (([a0, a1, a2, a3, a4, a5, a6, a7, a8, a9, a10].drop 1).take (Tryd.prog.cellsOf 4)) = some y1 := (hF 1 _ rfl).trans g1
  obtain ⟨y2, g2⟩ := at_some (i := 2) hx (by decide)
  have f2 : DataW.trod enc Tryd.prog W 0 (fun _ => true) true n 3 (([a0, a1, a2, a3, a4, a5, a6, a7, a8, a9, a10].drop 2).take (Tryd.prog.cellsOf 3)) = some y2 := (hF 2 _ rfl).trans g2
  obtain ⟨y3, g3⟩ := at_some (i := 3) hx (by decide)
  have f3 : DataW.trod enc Tryd.prog W 0 (fun _ => true) true n 4 (([a0, a1, a2, a3, a4, a5, a6, a7, a8, a9, a10].drop 3).take (Tryd.prog.cellsOf 4)) = some y3 := (hF 3 _ rfl).trans g3
  obtain ⟨y4, g4⟩ := at_some (i := 4) hx (by decide)
  have f4 : DataW.trod enc Tryd.prog W 0 (fun _ => true) true n 4 (([a0, a1, a2, a3, a4, a5, a6, a7, a8, a9, a10].drop 4).take (Tryd.prog.cellsOf 4)) = some y4 := (hF 4 _ rfl).trans g4
  obtain ⟨y5, g5⟩ := at_some (i := 5) hx (by decide)
  have f5 : DataW.trod enc Tryd.prog W 0 (fun _ => true) true n 4 (([a0, a1, a2, a3, a4, a5, a6, a7, a8, a9, a10].drop 5).take (Tryd.prog.cellsOf 4)) = some y5 := (hF 5 _ rfl).trans g5
  obtain ⟨y6, g6⟩ := at_some (i := 6) hx (by decide)
  have f6 : DataW.trod enc Tryd.prog W 0 (fun _ => true) true n 4 (([a0, a1, a2, a3, a4, a5, a6, a7, a8, a9, a10].drop 6).take (Tryd.prog.cellsOf 4)) = some y6 := (hF 6 _ rfl).trans g6
  obtain ⟨y7, g7⟩ := at_some (i := 7) hx (by decide)
  have f7 : DataW.trod enc Tryd.prog W 0 (fun _ => true) true n 4 (([a0, a1, a2, a3, a4, a5, a6, a7, a8, a9, a10].drop 7).take (Tryd.prog.cellsOf 4)) = some y7 := (hF 7 _ rfl).trans g7
  obtain ⟨y8, g8⟩ := at_some (i := 8) hx (by decide)
  have f8 : DataW.trod enc Tryd.prog W 0 (fun _ => true) true n 4 (([a0, a1, a2, a3, a4, a5, a6, a7, a8, a9, a10].drop 8).take (Tryd.prog.cellsOf 4)) = some y8 := (hF 8 _ rfl).trans g8
  obtain ⟨y9, g9⟩ := at_some (i := 9) hx (by decide)
  have f9 : DataW.trod enc Tryd.prog W 0 (fun _ => true) true n 4 (([a0, a1, a2, a3, a4, a5, a6, a7, a8, a9, a10].drop 9).take (Tryd.prog.cellsOf 4)) = some y9 := (hF 9 _ rfl).trans g9
  obtain ⟨y10, g10⟩ := at_some (i := 10) hx (by decide)
  have f10 : DataW.trod enc Tryd.prog W 0 (fun _ => true) true n 3 (([a0, a1, a2, a3, a4, a5, a6, a7, a8, a9, a10].drop 10).take (Tryd.prog.cellsOf 3)) = some y10 := (hF 10 _ rfl).trans g10
  obtain ⟨n0, e0, _, _⟩ := DataW.trod_int Tryd.underlying3 f0
  rw [cells_int] at e0
  obtain rfl := one_cell e0 rfl
  obtain ⟨n1, e1, _⟩ := DataW.trod_bool Tryd.underlying4 f1
  rw [cells_bool] at e1
  obtain rfl := one_cell e1 rfl
  obtain ⟨n2, e2, _, _⟩ := DataW.trod_int Tryd.underlying3 f2
  rw [cells_int] at e2
  obtain rfl := one_cell e2 rfl
  obtain ⟨n3, e3, _⟩ := DataW.trod_bool Tryd.underlying4 f3
  rw [cells_bool] at e3
  obtain rfl := one_cell e3 rfl
  obtain ⟨n4, e4, _⟩ := DataW.trod_bool Tryd.underlying4 f4
  rw [cells_bool] at e4
  obtain rfl := one_cell e4 rfl
  obtain ⟨n5, e5, _⟩ := DataW.trod_bool Tryd.underlying4 f5
  rw [cells_bool] at e5
  obtain rfl := one_cell e5 rfl
  obtain ⟨n6, e6, _⟩ := DataW.trod_bool Tryd.underlying4 f6
  rw [cells_bool] at e6
  obtain rfl := one_cell e6 rfl
  obtain ⟨n7, e7, _⟩ := DataW.trod_bool Tryd.underlying4 f7
  rw [cells_bool] at e7
  obtain rfl := one_cell e7 rfl
  obtain ⟨n8, e8, _⟩ := DataW.trod_bool Tryd.underlying4 f8
  rw [cells_bool] at e8
  obtain rfl := one_cell e8 rfl
  obtain ⟨n9, e9, _⟩ := DataW.trod_bool Tryd.underlying4 f9
  rw [cells_bool] at e9
  obtain rfl := one_cell e9 rfl
  obtain ⟨n10, e10, _, _⟩ := DataW.trod_int Tryd.underlying3 f10
  rw [cells_int] at e10
  obtain rfl := one_cell e10 rfl
  exact ⟨⟨n0, n1, n2, n3, n4, n5, n6, n7, n8, n9, n10⟩, rfl⟩

theorem list15 {α : Type} {l : List α} (h : l.length = 15) : ∃ a0 a1 a2 a3 a4 a5 a6 a7 a8 a9 a10 a11 a12 a13 a14, l = [a0, a1, a2, a3, a4, a5, a6, a7, a8, a9, a10, a11, a12, a13, a14] := by
  match l, h with
  | [a0, a1, a2, a3, a4, a5, a6, a7, a8, a9, a10, a11, a12, a13, a14], _ => exact ⟨a0, a1, a2, a3, a4, a5, a6, a7, a8, a9, a10, a11, a12, a13, a14, rfl⟩

theorem records_of {H : Type} {enc : TypeId × Value → H} {W : World} {x : Option Addr} {len cap fuel : Nat} {d : DataW H} {p : List MemPlace}
    (hf : DataW.trod enc Tryd.prog W 0 (fun _ => true) true fuel 26 [Value.slice x len cap] = some (d, p)) (hz : ∀ n ∈ d.weights Tryd.prog 26, n ≤ reachBytes) :
    ∃ qs : List Rn, qs.length = len ∧ Rs W 0 x cap qs := by
  obtain ⟨qs, h1, h2, _⟩ := records_of2 hf hz
  exact ⟨qs, h1, h2⟩

set_option maxRecDepth 100000 in
theorem message_of3 {H : Type} {enc : TypeId × Value → H} {W : World} {r : Reach} {base fuel : Nat} {v : Value} {d : DataW H} {p : List MemPlace} (hv : Value.okWide Tryd.prog W r base 28 v)
    (hf : DataW.trod enc Tryd.prog W 0 (fun _ => true) true fuel 28 v.cells.toList = some (d, p)) (hz : ∀ n ∈ d.weights Tryd.prog 28, n ≤ reachBytes) :
    ∃ (h : Hd) (xq x1 x2 x3 : Option Addr) (cq c1 c2 c3 : Nat) (qs : List Qn) (r1 r2 r3 : List Rn), v = .agg #[.int .i64 h.id, .bool h.an, .int .i64 h.op, .bool h.aa, .bool h.tc, .bool h.rd, .bool h.ra, .bool h.z, .bool h.ad, .bool h.cd, .int .i64 h.code, .slice xq qs.length cq, .slice x1 r1.length c1, .slice x2 r2.length c2, .slice x3 r3.length c3] ∧ Qs W 0 xq cq qs ∧ Rs W 0 x1 c1 r1 ∧ Rs W 0 x2 c2 r2 ∧ Rs W 0 x3 c3 r3 ∧ r1.length * 72 ≤ 140737488351232 ∧ r2.length * 72 ≤ 140737488351232 ∧ r3.length * 72 ≤ 140737488351232 := by
  obtain ⟨cs, rfl, hsz⟩ := okWide_struct Tryd.underlying28 hv
  rw [cells_message] at hsz
  obtain ⟨cl⟩ := cs
  obtain ⟨a0, a1, a2, a3, a4, a5, a6, a7, a8, a9, a10, a11, a12, a13, a14, rfl⟩ := list15 hsz
  obtain ⟨xs, n, _, hd, _, hx, hF⟩ := DataW.trod_struct Tryd.underlying28 hf
  simp only [Prod.mk.injEq] at hd
  obtain ⟨rfl, _⟩ := hd
  have hx5 : xs.length = 5 := hx
  obtain ⟨y0, y1, y2, y3, y4, rfl⟩ := list5 hx5
  have f0 : DataW.trod enc Tryd.prog W 0 (fun _ => true) true n 24 (([a0, a1, a2, a3, a4, a5, a6, a7, a8, a9, a10, a11, a12, a13, a14].drop 0).take (Tryd.prog.cellsOf 24)) = some y0 := hF 0 _ rfl
  have f1 : DataW.trod enc Tryd.prog W 0 (fun _ => true) true n 25 (([a0, a1, a2, a3, a4, a5, a6, a7, a8, a9, a10, a11, a12, a13, a14].drop 11).take (Tryd.prog.cellsOf 25)) = some y1 := hF 1 _ rfl
  have f2 : DataW.trod enc Tryd.prog W 0 (fun _ => true) true n 26 (([a0, a1, a2, a3, a4, a5, a6, a7, a8, a9, a10, a11, a12, a13, a14].drop 12).take (Tryd.prog.cellsOf 26)) = some y2 := hF 2 _ rfl
  have f3 : DataW.trod enc Tryd.prog W 0 (fun _ => true) true n 26 (([a0, a1, a2, a3, a4, a5, a6, a7, a8, a9, a10, a11, a12, a13, a14].drop 13).take (Tryd.prog.cellsOf 26)) = some y3 := hF 3 _ rfl
  have f4 : DataW.trod enc Tryd.prog W 0 (fun _ => true) true n 26 (([a0, a1, a2, a3, a4, a5, a6, a7, a8, a9, a10, a11, a12, a13, a14].drop 14).take (Tryd.prog.cellsOf 26)) = some y4 := hF 4 _ rfl
  rw [cells_header] at f0
  rw [cells_questions] at f1
  rw [cells_records] at f2 f3 f4
  have f0' : DataW.trod enc Tryd.prog W 0 (fun _ => true) true n 24 [a0, a1, a2, a3, a4, a5, a6, a7, a8, a9, a10] = some y0 := f0
  have f1' : DataW.trod enc Tryd.prog W 0 (fun _ => true) true n 25 [a11] = some y1 := f1
  have f2' : DataW.trod enc Tryd.prog W 0 (fun _ => true) true n 26 [a12] = some y2 := f2
  have f3' : DataW.trod enc Tryd.prog W 0 (fun _ => true) true n 26 [a13] = some y3 := f3
  have f4' : DataW.trod enc Tryd.prog W 0 (fun _ => true) true n 26 [a14] = some y4 := f4
  clear f0 f1 f2 f3 f4
  obtain ⟨h, hh⟩ := header_cells f0'
  simp only [List.cons.injEq, and_true] at hh
  obtain ⟨rfl, rfl, rfl, rfl, rfl, rfl, rfl, rfl, rfl, rfl, rfl⟩ := hh
  obtain ⟨s0, s1, s2, rfl⟩ := slice_cell Tryd.underlying25 f1'
  obtain ⟨t0, t1, t2, rfl⟩ := slice_cell Tryd.underlying26 f2'
  obtain ⟨u0, u1, u2, rfl⟩ := slice_cell Tryd.underlying26 f3'
  obtain ⟨v0, v1, v2, rfl⟩ := slice_cell Tryd.underlying26 f4'
  obtain ⟨d1, p1⟩ := y1
  obtain ⟨d2, p2⟩ := y2
  obtain ⟨d3, p3⟩ := y3
  obtain ⟨d4, p4⟩ := y4
  have hw : ∀ m ∈ DataW.weightsEach Tryd.prog [24, 25, 26, 26, 26] [y0.1, d1, d2, d3, d4], m ≤ reachBytes := fun m hm => hz m (by
    simp only [DataW.weights, Tryd.underlying28]
    exact hm)
  obtain ⟨qs, hq, hQ⟩ := questions_of f1' (fun m hm => hw m (DataW.weights_mem_each (j := 1) (t := 25) rfl rfl m hm))
  obtain ⟨r1, h1, hR1, hB1⟩ := records_of2 f2' (fun m hm => hw m (DataW.weights_mem_each (j := 2) (t := 26) rfl rfl m hm))
  obtain ⟨r2, h2, hR2, hB2⟩ := records_of2 f3' (fun m hm => hw m (DataW.weights_mem_each (j := 3) (t := 26) rfl rfl m hm))
  obtain ⟨r3, h3, hR3, hB3⟩ := records_of2 f4' (fun m hm => hw m (DataW.weights_mem_each (j := 4) (t := 26) rfl rfl m hm))
  subst hq h1 h2 h3
  exact ⟨h, s0, t0, u0, v0, s2, t2, u2, v2, qs, r1, r2, r3, rfl, hQ, hR1, hR2, hR3, hB1, hB2, hB3⟩

set_option maxRecDepth 100000 in
theorem message_of2 {H : Type} {enc : TypeId × Value → H} {W : World} {r : Reach} {base fuel : Nat} {v : Value} {d : DataW H} {p : List MemPlace} (hv : Value.okWide Tryd.prog W r base 28 v)
    (hf : DataW.trod enc Tryd.prog W 0 (fun _ => true) true fuel 28 v.cells.toList = some (d, p)) (hz : ∀ n ∈ d.weights Tryd.prog 28, n ≤ reachBytes) :
    ∃ (h : Hd) (xq x1 x2 x3 : Option Addr) (cq c1 c2 c3 : Nat) (qs : List Qn) (r1 r2 r3 : List Rn), v = .agg #[.int .i64 h.id, .bool h.an, .int .i64 h.op, .bool h.aa, .bool h.tc, .bool h.rd, .bool h.ra, .bool h.z, .bool h.ad, .bool h.cd, .int .i64 h.code, .slice xq qs.length cq, .slice x1 r1.length c1, .slice x2 r2.length c2, .slice x3 r3.length c3] ∧ Qs W 0 xq cq qs ∧ Rs W 0 x1 c1 r1 ∧ Rs W 0 x2 c2 r2 ∧ Rs W 0 x3 c3 r3 ∧ r3.length * 72 ≤ 140737488351232 := by
  obtain ⟨h, xq, x1, x2, x3, cq, c1, c2, c3, qs, r1, r2, r3, h1, h2, h3, h4, h5, _, _, h6⟩ := message_of3 hv hf hz
  exact ⟨h, xq, x1, x2, x3, cq, c1, c2, c3, qs, r1, r2, r3, h1, h2, h3, h4, h5, h6⟩

set_option maxRecDepth 100000 in
theorem message_of {H : Type} {enc : TypeId × Value → H} {W : World} {r : Reach} {base fuel : Nat} {v : Value} {d : DataW H} {p : List MemPlace} (hv : Value.okWide Tryd.prog W r base 28 v)
    (hf : DataW.trod enc Tryd.prog W 0 (fun _ => true) true fuel 28 v.cells.toList = some (d, p)) (hz : ∀ n ∈ d.weights Tryd.prog 28, n ≤ reachBytes) :
    ∃ (h : Hd) (xq x1 x2 x3 : Option Addr) (cq c1 c2 c3 : Nat) (qs : List Qn) (r1 r2 r3 : List Rn), v = .agg #[.int .i64 h.id, .bool h.an, .int .i64 h.op, .bool h.aa, .bool h.tc, .bool h.rd, .bool h.ra, .bool h.z, .bool h.ad, .bool h.cd, .int .i64 h.code, .slice xq qs.length cq, .slice x1 r1.length c1, .slice x2 r2.length c2, .slice x3 r3.length c3] ∧ Qs W 0 xq cq qs ∧ Rs W 0 x1 c1 r1 ∧ Rs W 0 x2 c2 r2 ∧ Rs W 0 x3 c3 r3 := by
  obtain ⟨h, xq, x1, x2, x3, cq, c1, c2, c3, qs, r1, r2, r3, h1, h2, h3, h4, h5, _⟩ := message_of2 hv hf hz
  exact ⟨h, xq, x1, x2, x3, cq, c1, c2, c3, qs, r1, r2, r3, h1, h2, h3, h4, h5⟩

end Go.Proofs.YtbbgabdiikdjpaaDoor

namespace Go.Proofs.YtbbgabdiikdjpaaDoor
open Go.ChangeShapes Go.WideShapes Go.ChangeAt Go.RowKit Go.Deep

theorem Laid.et : Tryd.prog.globalNamed "errors.errorType" = some 0 := by kernel_rfl
theorem Laid.rt : (Tryd.prog.cutTypes.find? (·.1 == "internal/reflectlite.rtype")).map (·.2) = some 175 := by kernel_rfl
theorem Laid.oneRow : ((List.range 218).filter fun t => Tryd.prog.rowNamed t [101, 114, 114, 111, 114]) = [33] := by kernel_rfl
theorem Laid.size : Tryd.prog.types.size = 218 := by kernel_rfl

theorem glob_of_laid {W : World} (h : laidMetH Tryd.prog [("errors.errorType", Rows.laid_errors_errorType)] W) : Glob W := by
  have h' : laidMet Tryd.prog [] W ∧ handlesMet Tryd.prog [("errors.errorType", Rows.laid_errors_errorType)] W := h
  obtain ⟨name, u, ty, e1, e2, e3, e4, e5⟩ := h'.2 _ (List.mem_singleton.2 rfl)
  have en : name = [101, 114, 114, 111, 114] := (Option.some.inj e1).symm
  subst en
  obtain rfl := Option.some.inj (Laid.rt.symm.trans e2)
  have hm : ty ∈ (List.range 218).filter fun t => Tryd.prog.rowNamed t [101, 114, 114, 111, 114] := List.mem_filter.2 ⟨List.mem_range.2 (by rw [← Laid.size]; exact e3), e4⟩
  rw [Laid.oneRow] at hm
  obtain rfl := List.mem_singleton.1 hm
  have hh : typeHandle Tryd.prog 33 = .pointer (some ⟨1, 33, none⟩) := by kernel_rfl
  rw [hh] at e5
  unfold Glob
  simpa using World.var?_cell Laid.et e5 0

theorem door_met (os : Os) (args : Array Value) : laidMetH Tryd.prog [("errors.errorType", Rows.laid_errors_errorType)] ((World.doorLaid Tryd.prog 400 os).forCall (fun _ _ => 0) ⟨#[], args, []⟩).memory :=
  laidMetH_of_parts3 (fuel := 8) (laidMet_of_run' 8 (by kernel_rfl) (by kernel_rfl)) (by kernel_rfl) (by kernel_rfl)

end Go.Proofs.YtbbgabdiikdjpaaDoor
