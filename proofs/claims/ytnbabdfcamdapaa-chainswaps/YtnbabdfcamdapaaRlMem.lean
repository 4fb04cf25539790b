/-
  A rule and a query in memory; how they are opened among the arguments.
-/
import Derived.Test.YtnbabdfcamdapaaMsgInts
import Derived.Test.YtnbabdfcamdapaaMsgAt
import Derived.Test.YtnbabdfcamdapaaRr
import Derived.Test.YtnbabdfcamdapaaRl
namespace Go.Proofs.Ytnbabdfcamdapaa.Ru
open Go.ChangeShapes Go.WideShapes Go.ChangeAt Go.RowKit Go.Deep

theorem rlTwo (t t2 : TypeId) (w : World) (C D : Array Value) : Bl t ((w.alloc (.cells C t)).alloc (.cells D t2)) w.heap.size C ∧ Bl t2 ((w.alloc (.cells C t)).alloc (.cells D t2)) (w.heap.size + 1) D ∧ Below w.heap.size w ((w.alloc (.cells C t)).alloc (.cells D t2)) := by
  refine ⟨(Bl.new t w C).below ((Below.refl _ _).alloc (Nat.le_refl _) _), ?_, ((Below.refl _ w).alloc (Nat.le_refl _) _).alloc (by simp) _⟩
  have := Bl.new t2 (w.alloc (.cells C t)) D
  rwa [World.size_alloc] at this

theorem bl4 {t : TypeId} {w : World} {b : Nat} {v0 v1 v2 v3 : Value} (h : Bl t w b #[v0, v1, v2, v3]) : w.cell? ⟨b, 0, none⟩ = some v0 ∧ w.cell? ⟨b, 1, none⟩ = some v1 ∧ w.cell? ⟨b, 2, none⟩ = some v2 ∧ w.cell? ⟨b, 3, none⟩ = some v3 :=
  ⟨h.cell (i := 0) rfl, h.cell (i := 1) rfl, h.cell (i := 2) rfl, h.cell (i := 3) rfl⟩

theorem bl6 {t : TypeId} {w : World} {b : Nat} {v0 v1 v2 v3 v4 v5 : Value} (h : Bl t w b #[v0, v1, v2, v3, v4, v5]) : w.cell? ⟨b, 0, none⟩ = some v0 ∧ w.cell? ⟨b, 1, none⟩ = some v1 ∧ w.cell? ⟨b, 2, none⟩ = some v2 ∧ w.cell? ⟨b, 3, none⟩ = some v3 ∧ w.cell? ⟨b, 4, none⟩ = some v4 ∧ w.cell? ⟨b, 5, none⟩ = some v5 :=
  ⟨h.cell (i := 0) rfl, h.cell (i := 1) rfl, h.cell (i := 2) rfl, h.cell (i := 3) rfl, h.cell (i := 4) rfl, h.cell (i := 5) rfl⟩

/-- Worlds in which all old blocks stay. -/
structure Od (w : World) where
  val : World
  keeps : Below w.heap.size w val

/-- A node stands at a place of a block. -/
def MCell (w : World) (b o : Nat) (m : Mt) : Prop :=
  ∃ y s z t, w.cell? ⟨b, o, none⟩ = some (.int .i64 m.op) ∧ w.cell? ⟨b, o + 1, none⟩ = some (.int .i64 m.n) ∧ w.cell? ⟨b, o + 2, none⟩ = some (.slice y m.N.length s) ∧ w.cell? ⟨b, o + 3, none⟩ = some (.slice z m.A.length t) ∧ Strs w y s m.N ∧ Bys w z t m.A ∧ (z = none → t = 0)

/-- A slice leads to these nodes. -/
def Mats (w : World) (x : Option Addr) (c : Nat) (ms : List Mt) : Prop :=
  ms.length ≤ c ∧ ms.length ≤ 4000000000000 ∧ (∀ m ∈ ms, -9223372036854775808 ≤ m.op ∧ m.op ≤ 9223372036854775807 ∧ -9223372036854775808 ≤ m.n ∧ m.n ≤ 9223372036854775807) ∧
    (ms = [] ∨ ∃ b off, x = some ⟨b, off, none⟩ ∧ b < w.heap.size ∧ ∀ i (h : i < ms.length), MCell w b (off + i * 4) ms[i])

theorem MCell.below {w w' : World} {b o : Nat} {m : Mt} (h : MCell w b o m) (hb : b < w.heap.size) (k : Below w.heap.size w w') : MCell w' b o m := by
  obtain ⟨y, s, z, t, h1, h2, h3, h4, h5, h6, h7⟩ := h
  exact ⟨y, s, z, t, by rw [k.cell (p := ⟨b, o, none⟩) hb]; exact h1, by rw [k.cell (p := ⟨b, o + 1, none⟩) hb]; exact h2, by rw [k.cell (p := ⟨b, o + 2, none⟩) hb]; exact h3, by rw [k.cell (p := ⟨b, o + 3, none⟩) hb]; exact h4, h5.below k, h6.below k, h7⟩

theorem Mats.below {w w' : World} {x : Option Addr} {c : Nat} {ms : List Mt} (h : Mats w x c ms) (k : Below w.heap.size w w') : Mats w' x c ms := by
  obtain ⟨h1, h2, h3, h4⟩ := h
  refine ⟨h1, h2, h3, ?_⟩
  rcases h4 with h4 | ⟨b, off, hx, hb, hc⟩
  · exact Or.inl h4
  · exact Or.inr ⟨b, off, hx, Nat.lt_of_lt_of_le hb k.size, fun i hi => (hc i hi).below hb k⟩

theorem Mats.nil (w : World) (x : Option Addr) (c : Nat) : Mats w x c [] := ⟨Nat.zero_le _, by simp, fun m hm => by simp at hm, Or.inl rfl⟩

/-- A query as a value whose parts lie in memory. -/
def QyIs (w : World) (q : Qy) (y : Option Addr) (s : Nat) (z : Option Addr) (t : Nat) : Prop := Strs w y s q.N ∧ Bys w z t q.F ∧ (-9223372036854775808 ≤ q.ty ∧ q.ty ≤ 9223372036854775807) ∧ (-9223372036854775808 ≤ q.cl ∧ q.cl ≤ 9223372036854775807) ∧ (-9223372036854775808 ≤ q.opc ∧ q.opc ≤ 9223372036854775807) ∧ (z = none → t = 0)

theorem QyIs.below {w w' : World} {q : Qy} {y : Option Addr} {s : Nat} {z : Option Addr} {t : Nat} (h : QyIs w q y s z t) (k : Below w.heap.size w w') : QyIs w' q y s z t := ⟨h.1.below k, h.2.1.below k, h.2.2⟩

theorem cells_match : Try.prog.cellsOf 41 = 4 := by kernel_rfl

theorem bytes_match : Try.prog.bytesOf 41 = 64 := by kernel_rfl

theorem cells_query : Try.prog.cellsOf 29 = 6 := by kernel_rfl

theorem cells_strings' : Try.prog.cellsOf 26 = 1 := by kernel_rfl

theorem cells_bytes' : Try.prog.cellsOf 27 = 1 := by kernel_rfl

theorem cells_bool' : Try.prog.cellsOf 4 = 1 := by kernel_rfl

theorem four {α : Type} {l : List α} (h : l.length = 4) : ∃ a0 a1 a2 a3, l = [a0, a1, a2, a3] := by
  match l, h with
  | [a0, a1, a2, a3], _ => exact ⟨a0, a1, a2, a3, rfl⟩

theorem six {α : Type} {l : List α} (h : l.length = 6) : ∃ a0 a1 a2 a3 a4 a5, l = [a0, a1, a2, a3, a4, a5] := by
  match l, h with
  | [a0, a1, a2, a3, a4, a5], _ => exact ⟨a0, a1, a2, a3, a4, a5, rfl⟩

theorem one_cell {a b : Value} {l : List Value} (h : l.take 1 = [b]) (hl : l.head? = some a) : a = b := by
  match l, h, hl with
  | x :: _, h, hl => simp at h hl; rw [← hl, h]

theorem a_slice {H : Type} {enc : TypeId × Value → H} {W : World} {t e : TypeId} {fuel : Nat} {a : Value} {x : DataW H × List MemPlace} (ht : Try.prog.underlying t = some (.slice e)) (h : DataW.trod enc Try.prog W 0 (fun _ => true) true fuel t [a] = some x) : ∃ y n q, a = .slice y n q := by
  rcases DataW.trod_slice ht h with ⟨hc, _⟩ | ⟨ad, len, cap, _, _, _, _, hc, _⟩
  · simp at hc; exact ⟨_, _, _, hc⟩
  · simp at hc; exact ⟨_, _, _, hc⟩

theorem weights_in {H : Type} {P : Program} {e : TypeId} (L : List (DataW H)) (i : Nat) (d : DataW H) (hi : L[i]? = some d) : ∀ n ∈ d.weights P e, n ∈ DataW.weightsAll P e L := by
  induction L generalizing i with
  | nil => simp at hi
  | cons d' l ih =>
    intro n hn
    simp only [DataW.weightsAll, List.mem_append]
    cases i with
    | zero => simp only [List.getElem?_cons_zero, Option.some.injEq] at hi; subst hi; left; exact hn
    | succ j => right; exact ih j (by simpa using hi) n hn

theorem a_list {α : Type} {P : Nat → α → Prop} : ∀ n : Nat, (∀ i, i < n → ∃ x, P i x) → ∃ l : List α, l.length = n ∧ ∀ i (h : i < l.length), P i l[i] := by
  intro n
  induction n with
  | zero => intro _; exact ⟨[], rfl, fun i h => by simp at h⟩
  | succ n ih =>
    intro h
    obtain ⟨l, hl, hp⟩ := ih fun i hi => h i (by omega)
    obtain ⟨x, hx⟩ := h n (by omega)
    refine ⟨l ++ [x], by simp [hl], fun i hi => ?_⟩
    rw [List.length_append, List.length_singleton] at hi
    by_cases c : i < l.length
    · rw [List.getElem_append_left c]; exact hp i c
    · have e : i = n := by omega
      subst e
      rw [List.getElem_append_right (by omega)]
      simpa [hl] using hx

theorem match_of {H : Type} {enc : TypeId × Value → H} {W : World} {fuel : Nat} {cs : List Value} {d : DataW H} {p : List MemPlace}
    (hf : DataW.trod enc Try.prog W 0 (fun _ => true) true fuel 41 cs = some (d, p)) (hz : ∀ n ∈ d.weights Try.prog 41, n ≤ reachBytes) :
    ∃ (y z : Option Addr) (s t : Nat) (m : Mt), cs = [.int .i64 m.op, .int .i64 m.n, .slice y m.N.length s, .slice z m.A.length t] ∧ Strs W y s m.N ∧ Bys W z t m.A ∧ (z = none → t = 0) ∧ (-9223372036854775808 ≤ m.op ∧ m.op ≤ 9223372036854775807) ∧ (-9223372036854775808 ≤ m.n ∧ m.n ≤ 9223372036854775807) := by
  obtain ⟨xs, n, _, hd, hsz, hx, hF⟩ := DataW.trod_struct Try.underlying41 hf
  rw [cells_match] at hsz
  obtain ⟨a0, a1, a2, a3, rfl⟩ := four hsz
  simp only [Prod.mk.injEq] at hd
  obtain ⟨rfl, _⟩ := hd
  have hx4 : xs.length = 4 := hx
  obtain ⟨y0, y1, y2, y3, rfl⟩ := four hx4
  have f0 : DataW.trod enc Try.prog W 0 (fun _ => true) true n 3 (([a0, a1, a2, a3].drop 0).take (Try.prog.cellsOf 3)) = some y0 := hF 0 _ rfl
  have f1 : DataW.trod enc Try.prog W 0 (fun _ => true) true n 3 (([a0, a1, a2, a3].drop 1).take (Try.prog.cellsOf 3)) = some y1 := hF 1 _ rfl
  have f2 : DataW.trod enc Try.prog W 0 (fun _ => true) true n 26 (([a0, a1, a2, a3].drop 2).take (Try.prog.cellsOf 26)) = some y2 := hF 2 _ rfl
  have f3 : DataW.trod enc Try.prog W 0 (fun _ => true) true n 27 (([a0, a1, a2, a3].drop 3).take (Try.prog.cellsOf 27)) = some y3 := hF 3 _ rfl
  rw [cells_strings'] at f2
  rw [cells_bytes'] at f3
  have f2' : DataW.trod enc Try.prog W 0 (fun _ => true) true n 26 [a2] = some y2 := f2
  have f3' : DataW.trod enc Try.prog W 0 (fun _ => true) true n 27 [a3] = some y3 := f3
  clear f2 f3
  obtain ⟨n0, e0, _, w0⟩ := DataW.trod_int Try.underlying3 f0
  rw [cells_int] at e0
  obtain rfl := one_cell e0 rfl
  obtain ⟨n1, e1, _, w1⟩ := DataW.trod_int Try.underlying3 f1
  rw [cells_int] at e1
  obtain rfl := one_cell e1 rfl
  obtain ⟨s0, s1, s2, rfl⟩ := a_slice Try.underlying26 f2'
  obtain ⟨u0, u1, u2, rfl⟩ := a_slice Try.underlying27 f3'
  obtain ⟨d2, p2⟩ := y2
  obtain ⟨d3, p3⟩ := y3
  have hw : ∀ m ∈ DataW.weightsEach Try.prog [3, 3, 26, 27] [y0.1, y1.1, d2, d3], m ≤ reachBytes := fun m hm => hz m (by
    simp only [DataW.weights, Try.underlying41]
    exact hm)
  obtain ⟨N, hN, hS⟩ := strs_of f2' (fun m hm => hw m (DataW.weights_mem_each (j := 2) (t := 26) rfl rfl m hm))
  obtain ⟨D, hD, hB, hl, hzr, _⟩ := bys_of f3' (fun m hm => hw m (DataW.weights_mem_each (j := 3) (t := 27) rfl rfl m hm))
  subst hN hD
  exact ⟨s0, u0, s2, u2, ⟨n0, n1, N, D⟩, rfl, hS, hB, hzr, wf_i64 w0, wf_i64 w1⟩

theorem query_of {H : Type} {enc : TypeId × Value → H} {W : World} {fuel : Nat} {cs : List Value} {d : DataW H} {p : List MemPlace}
    (hf : DataW.trod enc Try.prog W 0 (fun _ => true) true fuel 29 cs = some (d, p)) (hz : ∀ n ∈ d.weights Try.prog 29, n ≤ reachBytes) :
    ∃ (y z : Option Addr) (s t : Nat) (q : Qy), cs = [.slice y q.N.length s, .int .i64 q.ty, .int .i64 q.cl, .int .i64 q.opc, .bool q.rd, .slice z q.F.length t] ∧ QyIs W q y s z t := by
  obtain ⟨xs, n, _, hd, hsz, hx, hF⟩ := DataW.trod_struct Try.underlying29 hf
  rw [cells_query] at hsz
  obtain ⟨a0, a1, a2, a3, a4, a5, rfl⟩ := six hsz
  simp only [Prod.mk.injEq] at hd
  obtain ⟨rfl, _⟩ := hd
  have hx6 : xs.length = 6 := hx
  obtain ⟨y0, y1, y2, y3, y4, y5, rfl⟩ := six hx6
  have f0 : DataW.trod enc Try.prog W 0 (fun _ => true) true n 26 (([a0, a1, a2, a3, a4, a5].drop 0).take (Try.prog.cellsOf 26)) = some y0 := hF 0 _ rfl
  have f1 : DataW.trod enc Try.prog W 0 (fun _ => true) true n 3 (([a0, a1, a2, a3, a4, a5].drop 1).take (Try.prog.cellsOf 3)) = some y1 := hF 1 _ rfl
  have f2 : DataW.trod enc Try.prog W 0 (fun _ => true) true n 3 (([a0, a1, a2, a3, a4, a5].drop 2).take (Try.prog.cellsOf 3)) = some y2 := hF 2 _ rfl
  have f3 : DataW.trod enc Try.prog W 0 (fun _ => true) true n 3 (([a0, a1, a2, a3, a4, a5].drop 3).take (Try.prog.cellsOf 3)) = some y3 := hF 3 _ rfl
  have f4 : DataW.trod enc Try.prog W 0 (fun _ => true) true n 4 (([a0, a1, a2, a3, a4, a5].drop 4).take (Try.prog.cellsOf 4)) = some y4 := hF 4 _ rfl
  have f5 : DataW.trod enc Try.prog W 0 (fun _ => true) true n 27 (([a0, a1, a2, a3, a4, a5].drop 5).take (Try.prog.cellsOf 27)) = some y5 := hF 5 _ rfl
  rw [cells_strings'] at f0
  rw [cells_bytes'] at f5
  have f0' : DataW.trod enc Try.prog W 0 (fun _ => true) true n 26 [a0] = some y0 := f0
  have f5' : DataW.trod enc Try.prog W 0 (fun _ => true) true n 27 [a5] = some y5 := f5
  clear f0 f5
  obtain ⟨n1, e1, _, w1⟩ := DataW.trod_int Try.underlying3 f1
  rw [cells_int] at e1
  obtain rfl := one_cell e1 rfl
  obtain ⟨n2, e2, _, w2⟩ := DataW.trod_int Try.underlying3 f2
  rw [cells_int] at e2
  obtain rfl := one_cell e2 rfl
  obtain ⟨n3, e3, _, w3⟩ := DataW.trod_int Try.underlying3 f3
  rw [cells_int] at e3
  obtain rfl := one_cell e3 rfl
  obtain ⟨b4, e4, _⟩ := DataW.trod_bool Try.underlying4 f4
  rw [cells_bool'] at e4
  obtain rfl := one_cell e4 rfl
  obtain ⟨s0, s1, s2, rfl⟩ := a_slice Try.underlying26 f0'
  obtain ⟨u0, u1, u2, rfl⟩ := a_slice Try.underlying27 f5'
  obtain ⟨d0, p0⟩ := y0
  obtain ⟨d5, p5⟩ := y5
  have hw : ∀ m ∈ DataW.weightsEach Try.prog [26, 3, 3, 3, 4, 27] [d0, y1.1, y2.1, y3.1, y4.1, d5], m ≤ reachBytes := fun m hm => hz m (by
    simp only [DataW.weights, Try.underlying29]
    exact hm)
  obtain ⟨N, hN, hS⟩ := strs_of f0' (fun m hm => hw m (DataW.weights_mem_each (j := 0) (t := 26) rfl rfl m hm))
  obtain ⟨D, hD, hB, hl, hzr, _⟩ := bys_of f5' (fun m hm => hw m (DataW.weights_mem_each (j := 5) (t := 27) rfl rfl m hm))
  subst hN hD
  exact ⟨s0, u0, s2, u2, ⟨N, n1, n2, n3, b4, D⟩, rfl, hS, hB, wf_i64 w1, wf_i64 w2, wf_i64 w3, hzr⟩

theorem matches_of {H : Type} {enc : TypeId × Value → H} {W : World} {x : Option Addr} {len cap fuel : Nat} {d : DataW H} {p : List MemPlace}
    (hf : DataW.trod enc Try.prog W 0 (fun _ => true) true fuel 23 [Value.slice x len cap] = some (d, p)) (hz : ∀ n ∈ d.weights Try.prog 23, n ≤ reachBytes) :
    ∃ ms : List Mt, ms.length = len ∧ Mats W x cap ms ∧ ms.length * 64 ≤ 140737488351232 := by
  rcases DataW.trod_slice Try.underlying23 hf with ⟨hc, _⟩ | ⟨a, l, c, elems, rest, n, _, hc, hd, _, hlc, _, hel, hE, hR, _⟩
  · simp only [List.cons.injEq, Value.slice.injEq, and_true] at hc
    obtain ⟨rfl, rfl, rfl⟩ := hc
    exact ⟨[], rfl, Mats.nil W none 0, by simp⟩
  · simp only [List.cons.injEq, Value.slice.injEq, and_true] at hc
    obtain ⟨rfl, rfl, rfl⟩ := hc
    simp only [Prod.mk.injEq] at hd
    obtain ⟨rfl, _⟩ := hd
    have hr : reachBytes = 140737488351232 := by decide
    have hw : (len + rest.length) * 64 ≤ reachBytes := by
      refine hz _ ?_
      simp only [DataW.weights, Try.underlying23, bytes_match, List.length_map, hel]
      exact List.mem_cons_self
    rw [cells_match] at hE
    have hall : ∀ i, i < len → ∃ m : Mt, (-9223372036854775808 ≤ m.op ∧ m.op ≤ 9223372036854775807 ∧ -9223372036854775808 ≤ m.n ∧ m.n ≤ 9223372036854775807) ∧ ∃ y s z t, W.cell? ((a.add (i * 4)).add 0) = some (.int .i64 m.op) ∧ W.cell? ((a.add (i * 4)).add 1) = some (.int .i64 m.n) ∧ W.cell? ((a.add (i * 4)).add 2) = some (.slice y m.N.length s) ∧ W.cell? ((a.add (i * 4)).add 3) = some (.slice z m.A.length t) ∧ Strs W y s m.N ∧ Bys W z t m.A ∧ (z = none → t = 0) := by
      intro i hi
      have h1 := hE i hi
      have he : elems[i]? = some elems[i] := List.getElem?_eq_getElem (by omega)
      rw [he] at h1
      cases hcs : W.cells? 0 (a.add (i * 4)) 4 with
      | none => rw [hcs] at h1; cases h1
      | some cs =>
        rw [hcs] at h1
        have h2 : DataW.trod enc Try.prog W 0 (fun _ => true) true n 41 cs = some (elems[i].1, elems[i].2) := h1
        obtain ⟨y, z, s, t, m, rfl, hS, hB, hzt, w0, w1⟩ := match_of h2 (fun m hm => hz m (by
          simp only [DataW.weights, Try.underlying23]
          refine List.mem_cons_of_mem _ (List.mem_append_left _ (weights_in _ i elems[i].1 ?_ m hm))
          rw [List.getElem?_map, he]
          rfl))
        have hc := (World.cells?_some hcs).2.2
        exact ⟨m, ⟨w0.1, w0.2, w1.1, w1.2⟩, y, s, z, t, hc 0 (by decide), hc 1 (by decide), hc 2 (by decide), hc 3 (by decide), hS, hB, hzt⟩
    obtain ⟨qs, hq, hp⟩ := a_list len hall
    refine ⟨qs, hq, ⟨by omega, by omega, ?_, ?_⟩, by omega⟩
    · intro m hm
      obtain ⟨i, hi, rfl⟩ := List.getElem_of_mem hm
      exact (hp i hi).1
    rcases Nat.eq_zero_or_pos len with h0 | h0
    · left; exact List.length_eq_zero_iff.1 (by omega)
    · right
      obtain ⟨b, off, spot⟩ := a
      obtain ⟨_, y, s, z, t, k1, _⟩ := hp 0 (by omega)
      have hspot : spot = none := by simpa [Addr.add] using World.cell?_spot k1
      subst hspot
      refine ⟨b, off, rfl, ?_, fun i hi => ?_⟩
      · simpa [Addr.add] using lt_of_cell k1
      · obtain ⟨_, y, s, z, t, k1, k2, k3, k4, k5, k6, k7⟩ := hp i hi
        simp only [add_plain, Nat.add_zero] at k1 k2 k3 k4
        exact ⟨y, s, z, t, k1, k2, k3, k4, k5, k6, k7⟩

end Go.Proofs.Ytnbabdfcamdapaa.Ru
