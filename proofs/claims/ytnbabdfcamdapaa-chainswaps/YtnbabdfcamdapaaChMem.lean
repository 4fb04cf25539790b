/-
  Rules in a row, in memory; how they are opened among the arguments.
-/
import Derived.Test.YtnbabdfcamdapaaRlMem
import Derived.Test.YtnbabdfcamdapaaCh
namespace Go.Proofs.Ytnbabdfcamdapaa.Ru
open Go.ChangeShapes Go.WideShapes Go.ChangeAt Go.RowKit Go.Deep

/-- A rule of a row: what it asks, and what it does. -/
structure Ra where
  ms : List Mt
  act : Int

/-- A rule stands at a place of a block. -/
def RaCell (w : World) (b o : Nat) (r : Ra) : Prop :=
  ∃ x c, w.cell? ⟨b, o, none⟩ = some (.slice x r.ms.length c) ∧ w.cell? ⟨b, o + 1, none⟩ = some (.int .i64 r.act) ∧ Mats w x c r.ms

/-- A slice leads to these rules. -/
def Ras (w : World) (x : Option Addr) (c : Nat) (rs : List Ra) : Prop :=
  rs.length ≤ c ∧ rs.length ≤ 5000000000000 ∧ (∀ r ∈ rs, -9223372036854775808 ≤ r.act ∧ r.act ≤ 9223372036854775807) ∧
    (rs = [] ∨ ∃ b off, x = some ⟨b, off, none⟩ ∧ b < w.heap.size ∧ ∀ i (h : i < rs.length), RaCell w b (off + i * 2) rs[i])

theorem RaCell.below {w w' : World} {b o : Nat} {r : Ra} (h : RaCell w b o r) (hb : b < w.heap.size) (k : Below w.heap.size w w') : RaCell w' b o r := by
  obtain ⟨x, c, h1, h2, h3⟩ := h
  exact ⟨x, c, by rw [k.cell (p := ⟨b, o, none⟩) hb]; exact h1, by rw [k.cell (p := ⟨b, o + 1, none⟩) hb]; exact h2, h3.below k⟩

theorem Ras.below {w w' : World} {x : Option Addr} {c : Nat} {rs : List Ra} (h : Ras w x c rs) (k : Below w.heap.size w w') : Ras w' x c rs := by
  obtain ⟨h1, h2, h3, h4⟩ := h
  refine ⟨h1, h2, h3, ?_⟩
  rcases h4 with h4 | ⟨b, off, hx, hb, hc⟩
  · exact Or.inl h4
  · exact Or.inr ⟨b, off, hx, Nat.lt_of_lt_of_le hb k.size, fun i hi => (hc i hi).below hb k⟩

theorem Ras.nil (w : World) (x : Option Addr) (c : Nat) : Ras w x c [] := ⟨Nat.zero_le _, by simp, fun m hm => by simp at hm, Or.inl rfl⟩

theorem Ras.here {w : World} {x : Option Addr} {c : Nat} {rs : List Ra} (h : Ras w x c rs) {i : Nat} (hi : i < rs.length) : ∃ b off, x = some ⟨b, off, none⟩ ∧ b < w.heap.size ∧ RaCell w b (off + i * 2) rs[i] := by
  rcases h.2.2.2 with q | ⟨b, off, e, hb, q⟩
  · rw [q] at hi; simp at hi
  · exact ⟨b, off, e, hb, q i hi⟩

theorem cells_rule : Try.prog.cellsOf 25 = 2 := by kernel_rfl

theorem bytes_rule : Try.prog.bytesOf 25 = 32 := by kernel_rfl

theorem cells_matches : Try.prog.cellsOf 23 = 1 := by kernel_rfl

theorem two {α : Type} {l : List α} (h : l.length = 2) : ∃ a0 a1, l = [a0, a1] := by
  match l, h with
  | [a0, a1], _ => exact ⟨a0, a1, rfl⟩

theorem rule_of {H : Type} {enc : TypeId × Value → H} {W : World} {fuel : Nat} {cs : List Value} {d : DataW H} {p : List MemPlace}
    (hf : DataW.trod enc Try.prog W 0 (fun _ => true) true fuel 25 cs = some (d, p)) (hz : ∀ n ∈ d.weights Try.prog 25, n ≤ reachBytes) :
    ∃ (x : Option Addr) (c : Nat) (r : Ra), cs = [.slice x r.ms.length c, .int .i64 r.act] ∧ Mats W x c r.ms ∧ (-9223372036854775808 ≤ r.act ∧ r.act ≤ 9223372036854775807) := by
  obtain ⟨xs, n, _, hd, hsz, hx, hF⟩ := DataW.trod_struct Try.underlying25 hf
  rw [cells_rule] at hsz
  obtain ⟨a0, a1, rfl⟩ := two hsz
  simp only [Prod.mk.injEq] at hd
  obtain ⟨rfl, _⟩ := hd
  have hx2 : xs.length = 2 := hx
  obtain ⟨y0, y1, rfl⟩ := two hx2
  have f0 : DataW.trod enc Try.prog W 0 (fun _ => true) true n 23 (([a0, a1].drop 0).take (Try.prog.cellsOf 23)) = some y0 := hF 0 _ rfl
  have f1 : DataW.trod enc Try.prog W 0 (fun _ => true) true n 3 (([a0, a1].drop 1).take (Try.prog.cellsOf 3)) = some y1 := hF 1 _ rfl
  rw [cells_matches] at f0
  have f0' : DataW.trod enc Try.prog W 0 (fun _ => true) true n 23 [a0] = some y0 := f0
  clear f0
  obtain ⟨n1, e1, _, w1⟩ := DataW.trod_int Try.underlying3 f1
  rw [cells_int] at e1
  obtain rfl := one_cell e1 rfl
  obtain ⟨s0, s1, s2, rfl⟩ := a_slice Try.underlying23 f0'
  obtain ⟨d0, p0⟩ := y0
  have hw : ∀ m ∈ DataW.weightsEach Try.prog [23, 3] [d0, y1.1], m ≤ reachBytes := fun m hm => hz m (by
    simp only [DataW.weights, Try.underlying25]
    exact hm)
  obtain ⟨M, hM, hS, _⟩ := matches_of f0' (fun m hm => hw m (DataW.weights_mem_each (j := 0) (t := 23) rfl rfl m hm))
  subst hM
  exact ⟨s0, s2, ⟨M, n1⟩, rfl, hS, wf_i64 w1⟩

theorem rules_of {H : Type} {enc : TypeId × Value → H} {W : World} {x : Option Addr} {len cap fuel : Nat} {d : DataW H} {p : List MemPlace}
    (hf : DataW.trod enc Try.prog W 0 (fun _ => true) true fuel 22 [Value.slice x len cap] = some (d, p)) (hz : ∀ n ∈ d.weights Try.prog 22, n ≤ reachBytes) :
    ∃ rs : List Ra, rs.length = len ∧ Ras W x cap rs ∧ rs.length * 32 ≤ 140737488351232 := by
  rcases DataW.trod_slice Try.underlying22 hf with ⟨hc, _⟩ | ⟨a, l, c, elems, rest, n, _, hc, hd, _, hlc, _, hel, hE, hR, _⟩
  · simp only [List.cons.injEq, Value.slice.injEq, and_true] at hc
    obtain ⟨rfl, rfl, rfl⟩ := hc
    exact ⟨[], rfl, Ras.nil W none 0, by simp⟩
  · simp only [List.cons.injEq, Value.slice.injEq, and_true] at hc
    obtain ⟨rfl, rfl, rfl⟩ := hc
    simp only [Prod.mk.injEq] at hd
    obtain ⟨rfl, _⟩ := hd
    have hr : reachBytes = 140737488351232 := by decide
    have hw : (len + rest.length) * 32 ≤ reachBytes := by
      refine hz _ ?_
      simp only [DataW.weights, Try.underlying22, bytes_rule, List.length_map, hel]
      exact List.mem_cons_self
    rw [cells_rule] at hE
    have hall : ∀ i, i < len → ∃ r : Ra, (-9223372036854775808 ≤ r.act ∧ r.act ≤ 9223372036854775807) ∧ ∃ y s, W.cell? ((a.add (i * 2)).add 0) = some (.slice y r.ms.length s) ∧ W.cell? ((a.add (i * 2)).add 1) = some (.int .i64 r.act) ∧ Mats W y s r.ms := by
      intro i hi
      have h1 := hE i hi
      have he : elems[i]? = some elems[i] := List.getElem?_eq_getElem (by omega)
      rw [he] at h1
      cases hcs : W.cells? 0 (a.add (i * 2)) 2 with
      | none => rw [hcs] at h1; cases h1
      | some cs =>
        rw [hcs] at h1
        have h2 : DataW.trod enc Try.prog W 0 (fun _ => true) true n 25 cs = some (elems[i].1, elems[i].2) := h1
        obtain ⟨y, s, r, rfl, hS, w0⟩ := rule_of h2 (fun m hm => hz m (by
          simp only [DataW.weights, Try.underlying22]
          refine List.mem_cons_of_mem _ (List.mem_append_left _ (weights_in _ i elems[i].1 ?_ m hm))
          rw [List.getElem?_map, he]
          rfl))
        have hc := (World.cells?_some hcs).2.2
        exact ⟨r, w0, y, s, hc 0 (by decide), hc 1 (by decide), hS⟩
    obtain ⟨qs, hq, hp⟩ := a_list len hall
    refine ⟨qs, hq, ⟨by omega, by omega, ?_, ?_⟩, by omega⟩
    · intro m hm
      obtain ⟨i, hi, rfl⟩ := List.getElem_of_mem hm
      exact (hp i hi).1
    rcases Nat.eq_zero_or_pos len with h0 | h0
    · left; exact List.length_eq_zero_iff.1 (by omega)
    · right
      obtain ⟨b, off, spot⟩ := a
      obtain ⟨_, y, s, k1, _⟩ := hp 0 (by omega)
      have hspot : spot = none := by simpa [Addr.add] using World.cell?_spot k1
      subst hspot
      refine ⟨b, off, rfl, ?_, fun i hi => ?_⟩
      · simpa [Addr.add] using lt_of_cell k1
      · obtain ⟨_, y, s, k1, k2, k3⟩ := hp i hi
        simp only [add_plain, Nat.add_zero] at k1 k2
        exact ⟨y, s, k1, k2, k3⟩

end Go.Proofs.Ytnbabdfcamdapaa.Ru
