/-
  The walk of subnet.Encode.
-/
import Derived.Test.YtoakpkpdipgfoaaSubIn
namespace Go.Proofs.Ytoakpkpdipgfoaa
open Go.RowKit Go.Deep

theorem rowb_fresh {w : World} {B : Nat} {v : Value} {xs : List Int} (h : Rowb w B v xs) (hp : 0 < xs.length) (hl : xs.length ≤ 200000000000000) (hb : ∀ b ∈ xs, 0 ≤ b ∧ b ≤ 255) :
    ∃ b o c, v = .slice (some ⟨b, o, none⟩) xs.length c ∧ Bys w (some ⟨b, o, none⟩) c xs ∧ B ≤ b := by
  have h0 := h
  rcases h.2 with ⟨rfl, h4⟩ | ⟨g, cap, cur, rfl, hg, _⟩
  · omega
  · obtain ⟨x, c, e, hs⟩ := rowb_bys h0 hl hb
    cases e
    exact ⟨_, _, _, rfl, hs, hg⟩

theorem rowb_under {w w' : World} {B : Nat} {v : Value} {xs : List Int} (h : Rowb w B v xs) (k : Below w.heap.size w w') : Rowb w' B v xs := by
  have g : w.grownBy w' none := ⟨k.os, k.tape, k.output, k.size, fun j hj _ => k.block j hj⟩
  refine World.ownsRow.kept h g ?_
  cases v.ownBlock
  · exact Or.inl rfl
  · right; intro q; cases q

/-- Bytes appended to a row of the call's own, as a step of a region that draws. -/
theorem step_append_bys {w : World} {ops : Array Oper} {o : Oper} {a : Act} {K : Act → World → Prop} {Q : Exit → Act → World → Prop} {E : Prop} (hgd : o.guard = none) (sl x : Operand)
    (ho : o.op = .call { callee := .builtin .append, args := #[sl, x], argTypes := #[34, 34] }) (B : Nat) (v : Value) (xs : List Int) (hs : a.eval sl = v) (hown : Rowb w B v xs) (ad : Addr) (m c : Nat) (D : List Int) (hm : D.length = m) (hx : a.eval x = .slice (some ad) m c)
    (hn : ∀ j u, (D.map (Value.int .u8))[j]? = some u → w.cell? (ad.add j) = some u) (hl : xs.length + D.length ≤ 200000000000000) (hB : B ≤ w.heap.size)
    (h : ∀ v' w', Rowb w' B v' (xs ++ D) → w.grownBy w' v.ownBlock → K (a.put o.dst v') w') :
    if Region.wanted o (yielded ops a.tmps) = true then Oper.wp Try.prog o a w K Q else E := by
  have hw : Region.wanted o (yielded ops a.tmps) = true := by simp [Region.wanted, hgd]
  rw [if_pos hw]
  obtain ⟨i0, hi, hz0, hz1, hz2⟩ := info_of_byte
  subst hm
  obtain ⟨v', w', hr, hown', hgr, _⟩ := run_append_own_wide (P := Try.prog) w B 34 o.type 5 i0 (.int .u8 0) 1 1 Try.underlying34 hi hz0 hz1 hz2 rfl (by decide) v xs.length (xs.map (Value.int .u8)) hown ad D.length c (D.map (Value.int .u8)) (by simp) hn (one_cells D) (by unfold maxLen; omega) (by omega) hB
  unfold Oper.wp execOp
  simp only [ho, resolve, invoke, builtin, Sem.run_bind, Sem.run_pure, Result.andThen_ok, List.map_toArray, List.map_cons, List.map_nil, hs, hx, hr]
  exact h v' w' (Rowb.of hown' (by simp) (by simp)) hgr

/-- What Encode hands back. -/
def EncP (s : Sn) (w : World) (e : Ending) (w' : World) : Prop :=
  ∃ b o c, e = .returned (.tuple #[.slice (some ⟨b, o, none⟩) (encB s).length c, .nilIface]) ∧ Bys w' (some ⟨b, o, none⟩) c (encB s) ∧ w.heap.size ≤ b ∧ Below w.heap.size w w'

theorem encB_bytes {s : Sn} (h : snE s = 0) (hb : ∀ b ∈ s.A, 0 ≤ b ∧ b ≤ 255) : ∀ b ∈ encB s, 0 ≤ b ∧ b ≤ 255 := by
  obtain ⟨hfam, _, hf⟩ := snE_zero h
  have h1 := hf.1
  have h2 := hf.2
  intro b hm
  unfold encB at hm
  rw [List.mem_append, List.mem_append] at hm
  rcases hm with (hm | hm) | hm
  · simp only [twoN, List.mem_cons, List.not_mem_nil, or_false] at hm
    rcases hm with rfl | rfl <;> omega
  · simp only [List.mem_cons, List.not_mem_nil, or_false] at hm
    rcases hm with rfl | rfl <;> omega
  · exact maskN_bytes _ hb b (List.mem_of_mem_take hm)

theorem EncP.of {s : Sn} {w w' : World} {B : Nat} {v r : Value} (hb : ∀ b ∈ encB s, 0 ≤ b ∧ b ≤ 255) (h : Rowb w' B v (encB s)) (hB : w.heap.size ≤ B) (hw : Below w.heap.size w w') (hr : r = .tuple #[v, .nilIface]) (hl : (encB s).length ≤ 200000000000000) : EncP s w (.returned r) w' := by
  obtain ⟨b, o, c, rfl, hs, hBb⟩ := rowb_fresh h (by unfold encB; simp [twoN]) hl hb
  exact ⟨b, o, c, by rw [hr], hs, by omega, hw⟩

end Go.Proofs.Ytoakpkpdipgfoaa
