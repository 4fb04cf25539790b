/-
  A rule as a row that the call owns: its nodes' names and addresses lie in older memory.
-/
import Derived.Test.YtnbabdfcamdapaaRlMem
import Derived.Maps.AppendAt
namespace Go.Proofs.Ytnbabdfcamdapaa.Ru
open Go.RowKit Go.Deep

theorem cell_in {w : World} {p : Addr} {v : Value} (h : w.cell? p = some v) : p.block < w.heap.size := by
  unfold World.cell? at h
  rcases Nat.lt_or_ge p.block w.heap.size with q | q
  · exact q
  · rw [Array.getElem?_eq_none q] at h; simp at h

/-- A node with where its name and its address lie. -/
structure Me where
  m : Mt
  y : Option Addr
  s : Nat
  z : Option Addr
  t : Nat

def mcells (e : Me) : List Value := [.int .i64 e.m.op, .int .i64 e.m.n, .slice e.y e.m.N.length e.s, .slice e.z e.m.A.length e.t]

/-- Its parts lie in memory. -/
def MeIn (w : World) (e : Me) : Prop := Strs w e.y e.s e.m.N ∧ Bys w e.z e.t e.m.A ∧ (e.z = none → e.t = 0) ∧ (-9223372036854775808 ≤ e.m.op ∧ e.m.op ≤ 9223372036854775807 ∧ -9223372036854775808 ≤ e.m.n ∧ e.m.n ≤ 9223372036854775807)

theorem MeIn.below {w w' : World} {e : Me} (h : MeIn w e) (k : Below w.heap.size w w') : MeIn w' e := ⟨h.1.below k, h.2.1.below k, h.2.2⟩

theorem mflat_len (L : List Me) : (L.flatMap mcells).length = L.length * 4 := by
  induction L with
  | nil => simp
  | cons x L ih => rw [List.flatMap_cons, List.length_append, ih, List.length_cons, Nat.succ_mul]; simp [mcells]; omega

theorem mflat_get : ∀ (L : List Me) (i j : Nat) (hi : i < L.length), j < 4 → (L.flatMap mcells)[i * 4 + j]? = (mcells L[i])[j]? := by
  intro L
  induction L with
  | nil => intro i j hi; simp at hi
  | cons x L ih =>
    intro i j hi hj
    rw [List.flatMap_cons]
    have hx : (mcells x).length = 4 := rfl
    cases i with
    | zero => rw [Nat.zero_mul, Nat.zero_add, List.getElem?_append_left (by rw [hx]; exact hj)]; rfl
    | succ i =>
      rw [List.getElem?_append_right (by rw [hx, Nat.succ_mul]; omega), hx]
      rw [show (i + 1) * 4 + j - 4 = i * 4 + j by rw [Nat.succ_mul]; omega, ih i j (by simpa using hi) hj]
      rfl

/-- A row of nodes that the call owns: in blocks from B on; its parts lie in memory as it was in wp. -/
def MRow (wp : World) (B : Nat) (w : World) (v : Value) (ms : List Mt) : Prop :=
  ∃ L : List Me, L.map (·.m) = ms ∧ w.ownsRow B 41 4 v L.length (L.flatMap mcells) ∧ (∀ e ∈ L, MeIn wp e) ∧ Below wp.heap.size wp w

theorem MRow.nil {wp w : World} (B : Nat) (k : Below wp.heap.size wp w) : MRow wp B w (.slice none 0 0) [] := ⟨[], rfl, ⟨rfl, Or.inl ⟨rfl, rfl⟩⟩, fun e he => by simp at he, k⟩

theorem MRow.stay {wp w w' : World} {B : Nat} {v : Value} {ms : List Mt} (h : MRow wp B w v ms) (k : Below w.heap.size w w') : MRow wp B w' v ms := by
  obtain ⟨L, h1, h2, h3, h4⟩ := h
  refine ⟨L, h1, World.ownsRow.kept h2 (row := none) ⟨k.os, k.tape, k.output, k.size, fun i hi _ => k.block i hi⟩ ?_, h3, h4.trans (k.mono h4.size)⟩
  cases v.ownBlock <;> simp

theorem MRow.slice {wp w : World} {B : Nat} {v : Value} {ms : List Mt} (h : MRow wp B w v ms) : ∃ x c, v = .slice x ms.length c := by
  obtain ⟨L, rfl, h2, _⟩ := h
  rw [List.length_map]
  rcases h2.2 with ⟨e, e2⟩ | ⟨g, cap, cur, e, _⟩
  · exact ⟨none, 0, by rw [e, e2]⟩
  · exact ⟨_, cap, e⟩

/-- A row of the call's own can be read. -/
theorem MRow.mats {wp w : World} {B : Nat} {v : Value} {ms : List Mt} (h : MRow wp B w v ms) (hl : ms.length ≤ 4000000000000) : ∃ x c, v = .slice x ms.length c ∧ Mats w x c ms := by
  obtain ⟨L, rfl, h2, h3, h4⟩ := h
  rw [List.length_map] at hl ⊢
  have hb : ∀ m ∈ L.map (·.m), -9223372036854775808 ≤ m.op ∧ m.op ≤ 9223372036854775807 ∧ -9223372036854775808 ≤ m.n ∧ m.n ≤ 9223372036854775807 := fun m hm => by
    obtain ⟨e, he, rfl⟩ := List.mem_map.1 hm
    exact (h3 e he).2.2.2
  have hc := fun (g : Nat) (hg : v.ownBlock = some g) => h2.cells hg
  rcases h2.2 with ⟨rfl, h5⟩ | ⟨g, cap, cur, rfl, hg, hh, hn, _⟩
  · have : L = [] := List.length_eq_zero_iff.1 h5
    subst this
    exact ⟨none, 0, rfl, Mats.nil w none 0⟩
  · refine ⟨_, cap, rfl, by rw [List.length_map]; exact hn, by rw [List.length_map]; exact hl, hb, Or.inr ⟨g, 0, rfl, ?_, fun i hi => ?_⟩⟩
    · rcases Nat.lt_or_ge g w.heap.size with q | q
      · exact q
      · rw [Array.getElem?_eq_none q] at hh; simp at hh
    · rw [List.length_map] at hi
      have c0 := hc g rfl (i * 4 + 0) _ (mflat_get L i 0 hi (by decide))
      have c1 := hc g rfl (i * 4 + 1) _ (mflat_get L i 1 hi (by decide))
      have c2 := hc g rfl (i * 4 + 2) _ (mflat_get L i 2 hi (by decide))
      have c3 := hc g rfl (i * 4 + 3) _ (mflat_get L i 3 hi (by decide))
      have hp := h3 L[i] (List.getElem_mem hi)
      simp only [Go.WideShapes.add_plain, Nat.zero_add, Nat.add_zero] at c0 c1 c2 c3 ⊢
      rw [List.getElem_map]
      exact ⟨_, _, _, _, c0, c1, c2, c3, hp.1.below h4, hp.2.1.below h4, hp.2.2.1⟩

theorem info_match : (Try.prog.info? 41).map (fun i => (i.zero, i.size, i.bytes)) = some (some (.agg #[.int .i64 0, .int .i64 0, .slice none 0 0, .slice none 0 0]), 4, 64) := by kernel_rfl

theorem info_of_match : ∃ i, Try.prog.info? 41 = some i ∧ i.zero = some (.agg #[.int .i64 0, .int .i64 0, .slice none 0 0, .slice none 0 0]) ∧ i.size = 4 ∧ i.bytes = 64 := info_parts info_match

theorem mcells_one (L : List Me) : ∀ u ∈ L.flatMap mcells, u.oneCell' = true := by
  intro u hu
  obtain ⟨e, _, he⟩ := List.mem_flatMap.1 hu
  simp only [mcells, List.mem_cons, List.not_mem_nil, or_false] at he
  rcases he with rfl | rfl | rfl | rfl <;> rfl

/-- Some nodes more behind a row of the call's own. -/
theorem wpList_append_mats {wp w : World} {B : Nat} {v : Value} {ms : List Mt} {ad : Addr} {n c : Nat} (L2 : List Me) {ops : Array Oper} {rest : List Oper} {o : Oper} {a : Act} {Q : Exit → Act → World → Prop} (hgd : o.guard = none) (sl x : Operand)
    (ho : o.op = .call { callee := .builtin .append, args := #[sl, x], argTypes := #[23, 23] }) (hs : a.eval sl = v) (hx : a.eval x = .slice (some ad) n c) (hr : MRow wp B w v ms) (hn : L2.length = n)
    (hy : ∀ j u, (L2.flatMap mcells)[j]? = some u → w.cell? (ad.add j) = some u) (hp : ∀ e ∈ L2, MeIn wp e) (hl : ms.length + n ≤ 100000) (hB : wp.heap.size ≤ B) (hB2 : B ≤ w.heap.size)
    (hK : ∀ v' w', MRow wp B w' v' (ms ++ L2.map (·.m)) → w.grownBy w' v.ownBlock → Below B w w' → (v'.ownBlock = v.ownBlock ∨ v'.ownBlock = some w.heap.size) → wpList Try.prog ops Q rest (a.put o.dst v') w') : wpList Try.prog ops Q (o :: rest) a w := by
  obtain ⟨i0, hi, hz0, hz1, hz2⟩ := info_of_match
  obtain ⟨L, rfl, h2, h3, h4⟩ := hr
  subst hn
  rw [List.length_map] at hl
  refine wpList_append_own_at w hgd sl x 23 ho B 41 i0 _ 4 64 Try.underlying23 hi hz0 hz1 hz2 rfl (by omega) v L.length (L.flatMap mcells) hs h2 ad L2.length c (L2.flatMap mcells) hx (mflat_len L2) hy (mcells_one L2) (by unfold maxLen; omega) (by omega) hB2 ?_
  intro v' w' k2 k3 k4 k5
  have hbel : Below B w w' := (Below.refl B w).grown k3 hB2 fun k hk => (World.ownsRow.lt h2 k hk).1
  refine hK v' w' ⟨L ++ L2, by simp, ?_, fun e he => ?_, h4.trans (hbel.mono hB)⟩ k3 hbel k5
  · rw [List.length_append, List.flatMap_append]; exact k2
  · rcases List.mem_append.1 he with he | he
    · exact h3 e he
    · exact hp e he

theorem blGrown {t : TypeId} {w w' : World} {b : Nat} {C : Array Value} {row : Option Nat} (h : Bl t w b C) (g : w.grownBy w' row) (hn : some b ≠ row) : Bl t w' b C := (g.block b h.lt hn).trans h

/-- The same as a step of a region that draws. -/
theorem wp_append_mats {wp w : World} {B : Nat} {v : Value} {ms : List Mt} {ad : Addr} {n c : Nat} (L2 : List Me) {o : Oper} {a : Act} {K : Act → World → Prop} {Q : Exit → Act → World → Prop} (sl x : Operand)
    (ho : o.op = .call { callee := .builtin .append, args := #[sl, x], argTypes := #[23, 23] }) (hs : a.eval sl = v) (hx : a.eval x = .slice (some ad) n c) (hr : MRow wp B w v ms) (hn : L2.length = n)
    (hy : ∀ j u, (L2.flatMap mcells)[j]? = some u → w.cell? (ad.add j) = some u) (hp : ∀ e ∈ L2, MeIn wp e) (hl : ms.length + n ≤ 100000) (hB : wp.heap.size ≤ B) (hB2 : B ≤ w.heap.size)
    (hK : ∀ v' w', MRow wp B w' v' (ms ++ L2.map (·.m)) → Below B w w' → w.grownBy w' v.ownBlock → K (a.put o.dst v') w') : o.wp Try.prog a w K Q := by
  obtain ⟨i0, hi, hz0, hz1, hz2⟩ := info_of_match
  obtain ⟨L, rfl, h2, h3, h4⟩ := hr
  subst hn
  rw [List.length_map] at hl
  obtain ⟨v', w', hrun, k2, k3, k4, k5⟩ := run_append_own_at (P := Try.prog) w B 23 o.type 41 i0 _ 4 64 Try.underlying23 hi hz0 hz1 hz2 rfl (by omega) v L.length (L.flatMap mcells) h2 ad L2.length c (L2.flatMap mcells) (mflat_len L2) hy (mcells_one L2) (by unfold maxLen; omega) (by omega) hB2
  have hbel : Below B w w' := (Below.refl B w).grown k3 hB2 fun k hk => (World.ownsRow.lt h2 k hk).1
  unfold Oper.wp execOp
  simp only [ho, resolve, invoke, builtin, Sem.run_bind, Sem.run_pure, Result.andThen_ok, List.map_toArray, List.map_cons, List.map_nil, hs, hx, hrun]
  refine hK v' w' ⟨L ++ L2, by simp, ?_, fun e he => ?_, h4.trans (hbel.mono hB)⟩ hbel k3
  · rw [List.length_append, List.flatMap_append]; exact k2
  · rcases List.mem_append.1 he with he | he
    · exact h3 e he
    · exact hp e he

/-- A rule in memory as nodes with their parts. -/
theorem mats_me {w : World} {x : Option Addr} {c : Nat} {ms : List Mt} (h : Mats w x c ms) (hp : 0 < ms.length) : ∃ (b off : Nat) (L : List Me), x = some ⟨b, off, none⟩ ∧ L.map Me.m = ms ∧ (∀ e ∈ L, MeIn w e) ∧ ∀ j u, (L.flatMap mcells)[j]? = some u → w.cell? ((⟨b, off, none⟩ : Addr).add j) = some u := by
  obtain ⟨_, _, hnum, h4⟩ := h
  rcases h4 with q | ⟨b, off, hx, hb, hc⟩
  · rw [q] at hp; simp at hp
  · obtain ⟨L, hl, hL⟩ := a_list (P := fun i (e : Me) => ∃ hi : i < ms.length, e.m = ms[i] ∧ MeIn w e ∧ w.cell? ⟨b, off + i * 4, none⟩ = some (.int .i64 e.m.op) ∧ w.cell? ⟨b, off + i * 4 + 1, none⟩ = some (.int .i64 e.m.n) ∧ w.cell? ⟨b, off + i * 4 + 2, none⟩ = some (.slice e.y e.m.N.length e.s) ∧ w.cell? ⟨b, off + i * 4 + 3, none⟩ = some (.slice e.z e.m.A.length e.t)) ms.length (fun i hi => by
      obtain ⟨y, s, z, t, k0, k1, k2, k3, k4, k5, k6⟩ := hc i hi
      exact ⟨⟨ms[i], y, s, z, t⟩, hi, rfl, ⟨k4, k5, k6, hnum _ (List.getElem_mem hi)⟩, k0, k1, k2, k3⟩)
    refine ⟨b, off, L, hx, ?_, ?_, ?_⟩
    · refine List.ext_getElem (by simp [hl]) fun i h1 h2 => ?_
      rw [List.getElem_map]
      exact (hL i (by simpa using h1)).2.1
    · intro e he
      obtain ⟨i, hi, rfl⟩ := List.getElem_of_mem he
      exact (hL i hi).2.2.1
    · intro j u hj
      have hj2 : j < L.length * 4 := by
        rw [← mflat_len]
        exact (List.getElem?_eq_some_iff.1 hj).1
      obtain ⟨d, r, hr4, rfl⟩ : ∃ d r, r < 4 ∧ j = d * 4 + r := ⟨j / 4, j % 4, by omega, by omega⟩
      have hi : d < L.length := by omega
      obtain ⟨_, _, _, k0, k1, k2, k3⟩ := hL d hi
      rw [mflat_get L d r hi hr4] at hj
      rw [Go.WideShapes.add_plain]
      rcases (show r = 0 ∨ r = 1 ∨ r = 2 ∨ r = 3 by omega) with rfl | rfl | rfl | rfl
      · simp [mcells] at hj; subst hj; simpa using k0
      · simp [mcells] at hj; subst hj; simpa [Nat.add_assoc] using k1
      · simp [mcells] at hj; subst hj; simpa [Nat.add_assoc] using k2
      · simp [mcells] at hj; subst hj; simpa [Nat.add_assoc] using k3

/-- The cells of a row of the call's own. -/
theorem MRow.own {wp w : World} {B : Nat} {v : Value} {ms : List Mt} (h : MRow wp B w v ms) (hp : 0 < ms.length) : ∃ (g c : Nat) (L : List Me), v = .slice (some ⟨g, 0, none⟩) ms.length c ∧ L.map Me.m = ms ∧ (∀ e ∈ L, MeIn wp e) ∧ g < w.heap.size ∧ B ≤ g ∧ ∀ j u, (L.flatMap mcells)[j]? = some u → w.cell? ((⟨g, 0, none⟩ : Addr).add j) = some u := by
  obtain ⟨L, rfl, h2, h3, h4⟩ := h
  rw [List.length_map] at hp ⊢
  have hc := fun (g : Nat) (hg : v.ownBlock = some g) => h2.cells hg
  have hlt := World.ownsRow.lt h2
  rcases h2.2 with ⟨e, e2⟩ | ⟨g, cap, cur, rfl, hg, _⟩
  · omega
  · exact ⟨g, cap, L, rfl, rfl, h3, (hlt g rfl).2, hg, fun j u hj => hc g rfl j u hj⟩

/-- A row that was laid at once. -/
theorem mrow_lit {wp w : World} {B : Nat} (L : List Me) (k : Below wp.heap.size wp w) (hB : B ≤ w.heap.size) (hp : ∀ e ∈ L, MeIn wp e) (hl : L.length ≤ 100000) : MRow wp B (w.alloc (.cells (L.flatMap mcells).toArray 41)) (.slice (some ⟨w.heap.size, 0, none⟩) L.length L.length) (L.map (·.m)) :=
  ⟨L, rfl, World.ownsRow_lit w (L.flatMap mcells).toArray L.length hB (by unfold maxLen; omega) (by simp only [List.size_toArray]; exact mflat_len L), hp, k.alloc k.size _⟩

theorem MRow.base {wp w : World} {B B' : Nat} {v : Value} {ms : List Mt} (h : MRow wp B w v ms) (hB : B' ≤ B) : MRow wp B' w v ms := by
  obtain ⟨L, h1, ⟨k1, k2⟩, h3⟩ := h
  refine ⟨L, h1, ⟨k1, ?_⟩, h3⟩
  rcases k2 with q | ⟨g, cap, cur, e, hg, r⟩
  · exact Or.inl q
  · exact Or.inr ⟨g, cap, cur, e, by omega, r⟩

theorem MRow.far {wp w : World} {B : Nat} {v : Value} {ms : List Mt} (h : MRow wp B w v ms) {p : Addr} (h1 : wp.heap.size ≤ p.block) (h2 : p.block < B) (u : Value) : MRow wp B (w.setCell p u) v ms := by
  obtain ⟨L, k1, k2, k3, k4⟩ := h
  have k := (Below.refl 0 w).setCell (p := p) (Nat.zero_le _) u
  refine ⟨L, k1, World.ownsRow.kept k2 (row := some p.block) ⟨k.os, k.tape, k.output, k.size, fun i hi hne => Below.heap_setCell w p u i (fun e => hne (by rw [e]))⟩ (Or.inr fun e => ?_), k3, k4.setCell h1 u⟩
  have := (World.ownsRow.lt k2 _ e).1
  omega

end Go.Proofs.Ytnbabdfcamdapaa.Ru
