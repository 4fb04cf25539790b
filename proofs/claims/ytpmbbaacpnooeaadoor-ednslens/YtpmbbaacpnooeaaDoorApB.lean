/-
  Bytes appended to a row of the call's own.
-/
import Derived.Test.YtpmbbaacpnooeaaDoorMgAll
namespace Go.Proofs.YtpmbbaacpnooeaaDoor
open Go.RowKit Go.Deep

/-- Bytes appended to a row of the call's own. -/
theorem wpList_append_bys {w : World} {B : Nat} {v : Value} {xs ys : List Int} {y : Option Addr} {c : Nat} {ops : Array Oper} {rest : List Oper} {o : Oper} {a : Act} {Q : Exit → Act → World → Prop} (hgd : o.guard = none) (sl x : Operand)
    (ho : o.op = .call { callee := .builtin .append, args := #[sl, x], argTypes := #[22, 22] }) (hs : a.eval sl = v) (hx : a.eval x = .slice y ys.length c) (hr : Rowb w B v xs) (hy : Bys w y c ys) (hl : xs.length + ys.length ≤ 100000000000000) (hB : B ≤ w.heap.size)
    (hK : ∀ v' w', Rowb w' B v' (xs ++ ys) → w.grownBy w' v.ownBlock → wpList Tryd.prog ops Q rest (a.put o.dst v') w') : wpList Tryd.prog ops Q (o :: rest) a w := by
  obtain ⟨i0, hi, hz0, hz1, hz2⟩ := info_of_byte
  cases y with
  | none =>
    have hn : ys = [] := by
      rcases hy.2.2.2 with q | ⟨b, off, q, _⟩
      · exact q
      · cases q
    subst hn
    refine wpList_plain hgd fun K hK' => ?_
    have hv : ∃ base cap, v = .slice base xs.length cap ∧ xs.length ≤ cap := by
      rcases hr.2 with ⟨e, e2⟩ | ⟨g, cap, cur, e, _, _, hn, _⟩
      · exact ⟨none, 0, by rw [e, e2], by omega⟩
      · exact ⟨_, cap, e, hn⟩
    obtain ⟨base, cap, rfl, hle⟩ := hv
    have hrun := run_append_nothing (P := Tryd.prog) w 22 22 o.type 5 i0 Tryd.underlying22 hi base xs.length cap hle _ (Src.ofNil w Tryd.underlying22 c)
    simp only [List.length_nil] at hx
    unfold Oper.wp execOp
    simp only [ho, resolve, invoke, builtin, Sem.run_bind, Sem.run_pure, Result.andThen_ok, List.map_toArray, List.map_cons, List.map_nil, hs, hx, hrun]
    exact hK' _ _ (hK _ w (by rw [List.append_nil]; exact hr) ⟨rfl, rfl, rfl, Nat.le_refl _, fun k _ _ => rfl⟩)
  | some ad =>
    have hq : ∀ j u, (ys.map (Value.int .u8))[j]? = some u → w.cell? (ad.add j) = some u := by
      rcases hy.2.2.2 with q | ⟨b, off, q, _, q2⟩
      · subst q; simp
      · cases q; exact bys_news q2
    refine wpList_append_own _ hgd sl x 22 ho B 5 i0 (.int .u8 0) 1 1 Tryd.underlying22 hi hz0 hz1 hz2 rfl (by decide) v _ _ hs hr ad ys.length c (ys.map (Value.int .u8)) hx (by simp) hq (one_cells ys) (by unfold maxLen; omega) (by omega) hB ?_
    intro v' w1 hown hg _
    exact hK v' w1 (Rowb.of hown (by simp) (by simp)) hg

end Go.Proofs.YtpmbbaacpnooeaaDoor
