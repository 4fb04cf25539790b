/-
  Rules as trees in memory (package rule's tree), and a row of them that the call owns: how it is cut, how a tree is put behind it.
-/
import Derived.Test.YtnbabdfcamdapaaFrS
import Derived.Test.YtnbabdfcamdapaaForkT
namespace Go.Proofs.Ytnbabdfcamdapaa.Ru
open Go.RowKit Go.Deep

/-- A tree's values: its node's, and the slice of what it takes. -/
def tcells (e : Me) (x : Option Addr) (n c : Nat) : List Value := [.int .i64 e.m.op, .int .i64 e.m.n, .slice e.y e.m.N.length e.s, .slice e.z e.m.A.length e.t, .slice x n c]

/-- Values that are a tree: what it takes lies in blocks of which P holds; the nodes' parts lie in memory as it was in wp. -/
def TIs (wp w : World) (P : Nat → Prop) : T → List Value → Prop
  | .leaf m, cs => ∃ e x c, e.m = m ∧ cs = tcells e x 0 c ∧ MeIn wp e
  | .one m a, cs => ∃ e g c ca, e.m = m ∧ cs = tcells e (some ⟨g, 0, none⟩) 1 c ∧ MeIn wp e ∧ g < w.heap.size ∧ P g ∧ 1 ≤ c ∧ (∀ j u, ca[j]? = some u → w.cell? ⟨g, j, none⟩ = some u) ∧ TIs wp w P a ca
  | .two m a b, cs => ∃ e g c ca cb, e.m = m ∧ cs = tcells e (some ⟨g, 0, none⟩) 2 c ∧ MeIn wp e ∧ g < w.heap.size ∧ P g ∧ 2 ≤ c ∧ (∀ j u, (ca ++ cb)[j]? = some u → w.cell? ⟨g, j, none⟩ = some u) ∧ TIs wp w P a ca ∧ TIs wp w P b cb

/-- A tree's first node. -/
def root : T → Mt
  | .leaf m => m
  | .one m _ => m
  | .two m _ _ => m

theorem TIs.len {wp w : World} {P : Nat → Prop} {t : T} {cs : List Value} (h : TIs wp w P t cs) : cs.length = 5 := by
  cases t with
  | leaf m => obtain ⟨e, x, c, _, rfl, _⟩ := h; rfl
  | one m a => obtain ⟨e, g, c, ca, _, rfl, _⟩ := h; rfl
  | two m a b => obtain ⟨e, g, c, ca, cb, _, rfl, _⟩ := h; rfl

theorem TIs.ones {wp w : World} {P : Nat → Prop} {t : T} {cs : List Value} (h : TIs wp w P t cs) : ∀ u ∈ cs, u.oneCell' = true := by
  have key : ∀ (e : Me) x n c, ∀ u ∈ tcells e x n c, u.oneCell' = true := by
    intro e x n c u hu
    simp only [tcells, List.mem_cons, List.not_mem_nil, or_false] at hu
    rcases hu with rfl | rfl | rfl | rfl | rfl <;> rfl
  cases t with
  | leaf m => obtain ⟨e, x, c, _, rfl, _⟩ := h; exact key _ _ _ _
  | one m a => obtain ⟨e, g, c, ca, _, rfl, _⟩ := h; exact key _ _ _ _
  | two m a b => obtain ⟨e, g, c, ca, cb, _, rfl, _⟩ := h; exact key _ _ _ _

theorem TIs.mono {wp w w' : World} {P P' : Nat → Prop} (hs : w.heap.size ≤ w'.heap.size) (hk : ∀ k, k < w.heap.size → P k → P' k ∧ w'.heap[k]? = w.heap[k]?) : ∀ {t : T} {cs : List Value}, TIs wp w P t cs → TIs wp w' P' t cs
  | .leaf m, cs, h => h
  | .one m a, cs, h => by
    obtain ⟨e, g, c, ca, h1, h2, h3, h4, h5, h6, h7, h8⟩ := h
    obtain ⟨k1, k2⟩ := hk g h4 h5
    exact ⟨e, g, c, ca, h1, h2, h3, Nat.lt_of_lt_of_le h4 hs, k1, h6, fun j u hj => (World.cell?_of_block (a := ⟨g, j, none⟩) k2).trans (h7 j u hj), TIs.mono hs hk h8⟩
  | .two m a b, cs, h => by
    obtain ⟨e, g, c, ca, cb, h1, h2, h3, h4, h5, h6, h7, h8, h9⟩ := h
    obtain ⟨k1, k2⟩ := hk g h4 h5
    exact ⟨e, g, c, ca, cb, h1, h2, h3, Nat.lt_of_lt_of_le h4 hs, k1, h6, fun j u hj => (World.cell?_of_block (a := ⟨g, j, none⟩) k2).trans (h7 j u hj), TIs.mono hs hk h8, TIs.mono hs hk h9⟩

theorem TIs.below {wp w w' : World} {P : Nat → Prop} {t : T} {cs : List Value} (h : TIs wp w P t cs) (k : Below w.heap.size w w') : TIs wp w' P t cs :=
  h.mono k.size fun g hg hp => ⟨hp, k.block g hg⟩

theorem TIs.any {wp w : World} {P : Nat → Prop} {t : T} {cs : List Value} (h : TIs wp w P t cs) : TIs wp w (fun _ => True) t cs :=
  h.mono (Nat.le_refl _) fun _ _ _ => ⟨trivial, rfl⟩

/-- The nodes' parts may be looked for in a later world. -/
theorem TIs.later {wp wq w : World} {P : Nat → Prop} (k : Below wp.heap.size wp wq) : ∀ {t : T} {cs : List Value}, TIs wp w P t cs → TIs wq w P t cs
  | .leaf m, cs, h => by
    obtain ⟨e, x, c, h1, h2, h3⟩ := h
    exact ⟨e, x, c, h1, h2, h3.below k⟩
  | .one m a, cs, h => by
    obtain ⟨e, g, c, ca, h1, h2, h3, h4, h5, h6, h7, h8⟩ := h
    exact ⟨e, g, c, ca, h1, h2, h3.below k, h4, h5, h6, h7, TIs.later k h8⟩
  | .two m a b, cs, h => by
    obtain ⟨e, g, c, ca, cb, h1, h2, h3, h4, h5, h6, h7, h8, h9⟩ := h
    exact ⟨e, g, c, ca, cb, h1, h2, h3.below k, h4, h5, h6, h7, TIs.later k h8, TIs.later k h9⟩

/-- A row of trees that the call owns: in blocks from B on. -/
def TRow (wp : World) (B : Nat) (w : World) (v : Value) (ts : List T) : Prop :=
  ∃ L : List (List Value × T), L.map Prod.snd = ts ∧ w.ownsRow B 48 5 v L.length (L.flatMap Prod.fst) ∧ (∀ e ∈ L, TIs wp w (fun k => B ≤ k ∧ some k ≠ v.ownBlock) e.2 e.1) ∧ Below wp.heap.size wp w

theorem TRow.nil {wp w : World} (B : Nat) (k : Below wp.heap.size wp w) : TRow wp B w (.slice none 0 0) [] := ⟨[], rfl, ⟨rfl, Or.inl ⟨rfl, rfl⟩⟩, fun e he => by simp at he, k⟩

theorem TRow.stay {wp w w' : World} {B : Nat} {v : Value} {ts : List T} (h : TRow wp B w v ts) (k : Below w.heap.size w w') : TRow wp B w' v ts := by
  obtain ⟨L, h1, h2, h3, h4⟩ := h
  refine ⟨L, h1, World.ownsRow.kept h2 (row := none) ⟨k.os, k.tape, k.output, k.size, fun i hi _ => k.block i hi⟩ ?_, fun e he => (h3 e he).below k, h4.trans (k.mono h4.size)⟩
  cases v.ownBlock <;> simp

theorem TRow.slice {wp w : World} {B : Nat} {v : Value} {ts : List T} (h : TRow wp B w v ts) : (v = .slice none 0 0 ∧ ts = []) ∨ ∃ g c, v = .slice (some ⟨g, 0, none⟩) ts.length c ∧ B ≤ g ∧ g < w.heap.size ∧ ts.length ≤ c := by
  obtain ⟨L, rfl, h2, _⟩ := h
  rw [List.length_map]
  have hlt := World.ownsRow.lt h2
  rcases h2.2 with ⟨e, e2⟩ | ⟨g, cap, cur, rfl, hg, _, hn, _⟩
  · exact Or.inl ⟨e, by rw [List.length_eq_zero_iff.1 e2]; rfl⟩
  · exact Or.inr ⟨g, cap, rfl, hg, (hlt g rfl).2, hn⟩

theorem flat5_len {α : Type} {L : List (List Value × α)} (h : ∀ e ∈ L, e.1.length = 5) : (L.flatMap Prod.fst).length = L.length * 5 := by
  induction L with
  | nil => rfl
  | cons x L ih =>
    rw [List.flatMap_cons, List.length_append, ih (fun e he => h e (List.mem_cons_of_mem _ he)), h x List.mem_cons_self, List.length_cons, Nat.succ_mul]
    omega

/-- Its first ones. -/
theorem TRow.cut {wp w : World} {B c : Nat} {x : Option Addr} {ts : List T} (h : TRow wp B w (.slice x ts.length c) ts) (k : Nat) (hk : k ≤ ts.length) : TRow wp B w (.slice x k c) (ts.take k) := by
  obtain ⟨L, h1, h2, h3, h4⟩ := h
  have hl : L.length = ts.length := by rw [← h1, List.length_map]
  have h5 : ∀ e ∈ L, e.1.length = 5 := fun e he => (h3 e he).len
  have hk5 : (L.take k).length = k := by rw [List.length_take]; omega
  have hlen : ((L.take k).flatMap Prod.fst).length = k * 5 := by rw [flat5_len (fun e he => h5 e (List.mem_of_mem_take he)), hk5]
  have hpre : (L.take k).flatMap Prod.fst = (L.flatMap Prod.fst).take (k * 5) := by
    have e : L.flatMap Prod.fst = (L.take k).flatMap Prod.fst ++ (L.drop k).flatMap Prod.fst := by rw [← List.flatMap_append, List.take_append_drop]
    rw [e, ← hlen, List.take_left]
  refine ⟨L.take k, by rw [List.map_take, h1], ⟨by rw [hlen, hk5], ?_⟩, fun e he => ?_, h4⟩
  · rcases h2.2 with ⟨e, e2⟩ | ⟨g, cap, cur, e, hg, hh, hn, hc, hs, ht⟩
    · left
      simp only [Value.slice.injEq] at e
      obtain ⟨rfl, e3, rfl⟩ := e
      refine ⟨?_, by omega⟩
      have : k = 0 := by omega
      rw [this]
    · simp only [Value.slice.injEq] at e
      obtain ⟨rfl, e3, rfl⟩ := e
      right
      refine ⟨g, c, cur, by rw [hk5], hg, hh, by omega, hc, hs, ?_⟩
      rw [hk5, hpre, ← ht, List.take_take, Nat.min_eq_left (by omega)]
  · have e0 : (Value.slice x k c).ownBlock = (Value.slice x ts.length c).ownBlock := by cases x <;> rfl
    rw [e0]
    exact h3 e (List.mem_of_mem_take he)

/-- The last ones' values, where they lie. -/
theorem TRow.last {wp w : World} {B c g : Nat} {ts : List T} (h : TRow wp B w (.slice (some ⟨g, 0, none⟩) ts.length c) ts) (k : Nat) (hk : k ≤ ts.length) :
    ∃ M : List (List Value × T), M.map Prod.snd = ts.drop k ∧ (∀ e ∈ M, TIs wp w (fun b => B ≤ b ∧ some b ≠ some g) e.2 e.1) ∧ (M.flatMap Prod.fst).length = (ts.length - k) * 5 ∧ (∀ u ∈ M.flatMap Prod.fst, u.oneCell' = true) ∧ ∀ j u, (M.flatMap Prod.fst)[j]? = some u → w.cell? ((⟨g, k * 5, none⟩ : Addr).add j) = some u := by
  obtain ⟨L, h1, h2, h3, h4⟩ := h
  have hl : L.length = ts.length := by rw [← h1, List.length_map]
  have h5 : ∀ e ∈ L, e.1.length = 5 := fun e he => (h3 e he).len
  have hk5 : (L.take k).length = k := by rw [List.length_take]; omega
  have hlen : ((L.take k).flatMap Prod.fst).length = k * 5 := by rw [flat5_len (fun e he => h5 e (List.mem_of_mem_take he)), hk5]
  refine ⟨L.drop k, by rw [List.map_drop, h1], fun e he => h3 e (List.mem_of_mem_drop he), ?_, ?_, ?_⟩
  · rw [flat5_len (fun e he => h5 e (List.mem_of_mem_drop he)), List.length_drop, hl]
  · intro u hu
    obtain ⟨e, he, hu⟩ := List.mem_flatMap.1 hu
    exact (h3 e (List.mem_of_mem_drop he)).ones u hu
  · intro j u hj
    have e : L.flatMap Prod.fst = (L.take k).flatMap Prod.fst ++ (L.drop k).flatMap Prod.fst := by rw [← List.flatMap_append, List.take_append_drop]
    have := h2.cells (g := g) rfl (k * 5 + j) u (by rw [e, List.getElem?_append_right (by omega), hlen, Nat.add_sub_cancel_left]; exact hj)
    rw [Go.WideShapes.add_plain] at this ⊢
    simpa using this

theorem info_tree : (Try.prog.info? 48).map (fun i => (i.zero, i.size, i.bytes)) = some (some (.agg #[.int .i64 0, .int .i64 0, .slice none 0 0, .slice none 0 0, .slice none 0 0]), 5, 88) := by kernel_rfl

theorem info_of_tree : ∃ i, Try.prog.info? 48 = some i ∧ i.zero = some (.agg #[.int .i64 0, .int .i64 0, .slice none 0 0, .slice none 0 0, .slice none 0 0]) ∧ i.size = 5 ∧ i.bytes = 88 := info_parts info_tree

/-- A tree put behind a row of the call's own, as a step of a region that draws. -/
theorem wp_append_tree {wp w : World} {B c b : Nat} {v : Value} {ts : List T} {t : T} {cs : List Value} {o : Oper} {a : Act} {K : Act → World → Prop} {Q : Exit → Act → World → Prop} (sl x : Operand)
    (ho : o.op = .call { callee := .builtin .append, args := #[sl, x], argTypes := #[46, 46] }) (hs : a.eval sl = v) (hx : a.eval x = .slice (some ⟨b, 0, none⟩) 1 c) (hr : TRow wp B w v ts)
    (hy : ∀ j u, cs[j]? = some u → w.cell? ⟨b, j, none⟩ = some u) (hp : TIs wp w (fun k => B ≤ k ∧ some k ≠ v.ownBlock) t cs) (hl : ts.length ≤ 100000) (hB : wp.heap.size ≤ B) (hB2 : B ≤ w.heap.size)
    (hK : ∀ v' w', TRow wp B w' v' (ts ++ [t]) → w.grownBy w' v.ownBlock → Below B w w' → K (a.put o.dst v') w') : o.wp Try.prog a w K Q := by
  obtain ⟨i0, hi, hz0, hz1, hz2⟩ := info_of_tree
  obtain ⟨L, rfl, h2, h3, h4⟩ := hr
  rw [List.length_map] at hl
  obtain ⟨v', w', hrun, k2, k3, k4, k5⟩ := run_append_own_at (P := Try.prog) w B 46 o.type 48 i0 _ 5 88 Try.underlying46 hi hz0 hz1 hz2 rfl (by omega) v L.length (L.flatMap Prod.fst) h2 ⟨b, 0, none⟩ 1 c cs (by rw [hp.len]) (fun j u hj => by rw [Go.WideShapes.add_plain, Nat.zero_add]; exact hy j u hj) hp.ones (by unfold maxLen; omega) (by omega) hB2
  have hbel : Below B w w' := (Below.refl B w).grown k3 hB2 fun k hk => (World.ownsRow.lt h2 k hk).1
  have hkeep : ∀ k, k < w.heap.size → (B ≤ k ∧ some k ≠ v.ownBlock) → (B ≤ k ∧ some k ≠ v'.ownBlock) ∧ w'.heap[k]? = w.heap[k]? := by
    intro k h1 h2
    refine ⟨⟨h2.1, ?_⟩, k3.block k h1 h2.2⟩
    rcases k5 with e | e
    · rw [e]; exact h2.2
    · rw [e]; intro q; cases q; omega
  unfold Oper.wp execOp
  simp only [ho, resolve, invoke, builtin, Sem.run_bind, Sem.run_pure, Result.andThen_ok, List.map_toArray, List.map_cons, List.map_nil, hs, hx, hrun]
  refine hK v' w' ⟨L ++ [(cs, t)], by simp, ?_, fun e he => ?_, h4.trans (hbel.mono hB)⟩ k3 hbel
  · rw [List.length_append, List.flatMap_append]
    simpa using k2
  · rcases List.mem_append.1 he with he | he
    · exact (h3 e he).mono k3.size hkeep
    · rw [List.mem_singleton.1 he]; exact hp.mono k3.size hkeep

end Go.Proofs.Ytnbabdfcamdapaa.Ru
