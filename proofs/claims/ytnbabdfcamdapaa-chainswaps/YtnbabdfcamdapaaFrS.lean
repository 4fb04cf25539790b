/-
  A copy of texts and of bytes (package fresh's list), for seats that know no records; the copy of a node of a rule.
-/
import Derived.Test.YtnbabdfcamdapaaRrFacts
import Derived.Test.YtnbabdfcamdapaaRlRow
import Derived.Deep.AppendSrc
import Derived.Deep.Upon
import Derived.Deep.Cut
namespace Go.Proofs.Ytnbabdfcamdapaa.Ru
open Go.RowKit Go.Deep

/-- A copy made by an append to nothing, whatever it is of. -/
theorem wpList_copy {w : World} {ops : Array Oper} {rest : List Oper} {o : Oper} {a : Act} {Q : Exit → Act → World → Prop} (t e : TypeId) (i0 : TypeInfo) (z : Value) (size bytes : Nat) (ht : Try.prog.underlying t = some (.slice e)) (hi : Try.prog.info? e = some i0) (hz0 : i0.zero = some z)
    (hz1 : i0.size = size) (hz2 : i0.bytes = bytes) (hzs : z.cells.size = size) (hsz : 0 < size) (hgd : o.guard = none) (x : Operand)
    (ho : o.op = .call { callee := .builtin .append, args := #[.const (.slice none 0 0), x], argTypes := #[t, t] }) (y : Option Addr) (m c : Nat) (news : List Value) (hx : a.eval x = .slice y m c) (hnil : y = none → m = 0) (hl : news.length = m * size)
    (hn : ∀ ad, y = some ad → ∀ j u, news[j]? = some u → w.cell? (ad.add j) = some u) (h1 : ∀ u ∈ news, u.oneCell' = true) (hm : m ≤ maxLen) (hb : (m + m / 4 + 192) * bytes ≤ 281474976710656)
    (hK : ∀ v' w', w'.ownsRow w.heap.size e size v' m news → w.grownBy w' none → wpList Try.prog ops Q rest (a.put o.dst v') w') : wpList Try.prog ops Q (o :: rest) a w := by
  refine wpList_plain hgd fun K hK' => ?_
  have hc : a.eval (.const (.slice none 0 0)) = .slice none 0 0 := rfl
  cases y with
  | none =>
    obtain rfl := hnil rfl
    have hn0 : news = [] := List.length_eq_zero_iff.1 (by rw [hl, Nat.zero_mul])
    subst hn0
    have hrun := run_append_nothing (P := Try.prog) w t t o.type e i0 ht hi none 0 0 (Nat.le_refl _) _ (Src.ofNil w ht c)
    unfold Oper.wp execOp
    simp only [ho, resolve, invoke, builtin, Sem.run_bind, Sem.run_pure, Result.andThen_ok, List.map_toArray, List.map_cons, List.map_nil, hx]
    rw [hc, hrun]
    exact hK' _ _ (hK _ w (World.ownsRow_nil _ _ _ _) ⟨rfl, rfl, rfl, Nat.le_refl _, fun k _ _ => rfl⟩)
  | some ad =>
    obtain ⟨v', w', hr, hown, hgr, _⟩ := run_append_own_wide (P := Try.prog) w w.heap.size t o.type e i0 z size bytes ht hi hz0 hz1 hz2 hzs hsz (.slice none 0 0) 0 [] (World.ownsRow_nil _ _ _ _) ad m c news hl (hn ad rfl) h1 (by omega) (by rw [Nat.zero_add]; exact hb) (Nat.le_refl _)
    unfold Oper.wp execOp
    simp only [ho, resolve, invoke, builtin, Sem.run_bind, Sem.run_pure, Result.andThen_ok, List.map_toArray, List.map_cons, List.map_nil, hx]
    rw [hc, hr]
    rw [Nat.zero_add, List.nil_append] at hown
    exact hK' _ _ (hK v' w' hown hgr)

theorem info_of_string2 : ∃ i, Try.prog.info? 9 = some i ∧ i.zero = some (.string ByteArray.empty) ∧ i.size = 1 ∧ i.bytes = 16 := info_parts info_string

theorem strs_news {w : World} {b off : Nat} {ms : List ByteArray} (q : ∀ i, i < ms.length → w.cell? ⟨b, off + i, none⟩ = some (.string (ms.getD i ByteArray.empty))) : ∀ j u, (ms.map Value.string)[j]? = some u → w.cell? ((⟨b, off, none⟩ : Addr).add j) = some u := by
  intro j u h
  rw [Go.WideShapes.add_plain]
  rw [List.getElem?_map] at h
  cases e : ms[j]? with
  | none => rw [e] at h; simp at h
  | some s =>
    rw [e] at h
    simp at h
    have hj : j < ms.length := by
      rcases Nat.lt_or_ge j ms.length with k | k
      · exact k
      · rw [List.getElem?_eq_none k] at e; simp at e
    rw [q j hj, List.getD_eq_getElem?_getD, e]
    simp [h]

theorem one_strs (xs : List ByteArray) : ∀ u ∈ xs.map Value.string, u.oneCell' = true := by
  intro u hu
  obtain ⟨x, _, rfl⟩ := List.mem_map.1 hu
  rfl

/-- A row of texts that the call owns is a slice of its own memory. -/
theorem rows_new {w : World} {B : Nat} {v : Value} {ss : List ByteArray} (h : w.ownsRow B 9 1 v ss.length (ss.map Value.string)) (hl : ss.length ≤ 8796093022208) (hb : ∀ s ∈ ss, s.size ≤ 140737488355328) :
    ∃ x c, v = .slice x ss.length c ∧ Strs w x c ss ∧ ∀ p, x = some p → B ≤ p.block := by
  have hc := fun (g : Nat) (hg : v.ownBlock = some g) => h.cells hg
  rcases h.2 with ⟨rfl, h4⟩ | ⟨g, cap, cur, rfl, hg, hh, hn, _⟩
  · have : ss = [] := List.length_eq_zero_iff.1 h4
    subst this
    exact ⟨none, 0, rfl, Strs.empty w, fun p q => by cases q⟩
  · refine ⟨_, cap, rfl, ⟨hn, hl, hb, Or.inr ⟨g, 0, rfl, ?_, fun i hi => ?_⟩⟩, fun p q => by cases q; exact hg⟩
    · rcases Nat.lt_or_ge g w.heap.size with q | q
      · exact q
      · rw [Array.getElem?_eq_none q] at hh; simp at hh
    · have := hc g rfl i (.string (ss.getD i ByteArray.empty)) (by rw [List.getElem?_map, List.getElem?_eq_getElem hi, List.getD_eq_getElem?_getD, List.getElem?_eq_getElem hi]; rfl)
      rw [Go.WideShapes.add_plain] at this
      exact this

theorem grown_below0 {w w' : World} (h : w.grownBy w' none) : Below w.heap.size w w' := (Below.refl _ w).grown h (Nat.le_refl _) (fun k hk => by cases hk)

theorem put4 {t : TypeId} {w : World} {b : Nat} {u0 u1 u2 u3 : Value} (h : Bl t w b #[u0, u1, u2, u3]) (v0 v1 v2 v3 : Value) :
    Bl t ((((w.setCell ⟨b, 0, none⟩ v0).setCell ⟨b, 1, none⟩ v1).setCell ⟨b, 2, none⟩ v2).setCell ⟨b, 3, none⟩ v3) b #[v0, v1, v2, v3] := (((h.set 0 v0).set 1 v1).set 2 v2).set 3 v3

theorem below4 {w0 w : World} {b : Nat} (h : Below w0.heap.size w0 w) (hb : w0.heap.size ≤ b) (v0 v1 v2 v3 : Value) :
    Below w0.heap.size w0 ((((w.setCell ⟨b, 0, none⟩ v0).setCell ⟨b, 1, none⟩ v1).setCell ⟨b, 2, none⟩ v2).setCell ⟨b, 3, none⟩ v3) := (((h.setCell hb v0).setCell hb v1).setCell hb v2).setCell hb v3

/-- A copy of a node: in memory of its own. -/
def MtCopy (m : Mt) (w : World) (e : Ending) (w' : World) : Prop :=
  ∃ y s z t, e = .returned (.agg #[.int .i64 m.op, .int .i64 m.n, .slice y m.N.length s, .slice z m.A.length t]) ∧ Strs w' y s m.N ∧ Bys w' z t m.A ∧ (z = none → t = 0) ∧ Below w.heap.size w w' ∧ (∀ a, y = some a → w.heap.size ≤ a.block) ∧ ∀ a, z = some a → w.heap.size ≤ a.block

end Go.Proofs.Ytnbabdfcamdapaa.Ru
