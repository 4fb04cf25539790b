/-
  A row of questions that the call owns, the parts of which lie in memory beside it.
-/
import Derived.Test.YtdkpdlkcloaoeaaRlRow
namespace Go.Proofs.Ytdkpdlkcloaoeaa.Ru
open Go.RowKit Go.Deep

/-- A question's parts lie in other blocks than this one. -/
def MeOff (o : Option Nat) (e : Me) : Prop := (∀ a, e.y = some a → e.m.N = [] ∨ some a.block ≠ o) ∧ (∀ a, e.z = some a → e.m.A = [] ∨ some a.block ≠ o)

theorem strs_keep {w w' : World} {x : Option Addr} {c : Nat} {ss : List ByteArray} (h : Strs w x c ss) (hs : w.heap.size ≤ w'.heap.size) (hk : ∀ a, x = some a → ss = [] ∨ (a.block < w.heap.size → w'.heap[a.block]? = w.heap[a.block]?)) : Strs w' x c ss := by
  obtain ⟨h1, h2, h3, h4⟩ := h
  refine ⟨h1, h2, h3, ?_⟩
  rcases h4 with e | ⟨b, off, rfl, hb, hc⟩
  · exact Or.inl e
  · rcases hk _ rfl with e | k
    · exact Or.inl e
    · exact Or.inr ⟨b, off, rfl, Nat.lt_of_lt_of_le hb hs, fun i hi => (World.cell?_of_block (a := ⟨b, off + i, none⟩) (k hb)).trans (hc i hi)⟩

theorem bys_keep {w w' : World} {x : Option Addr} {c : Nat} {ms : List Int} (h : Bys w x c ms) (hs : w.heap.size ≤ w'.heap.size) (hk : ∀ a, x = some a → ms = [] ∨ (a.block < w.heap.size → w'.heap[a.block]? = w.heap[a.block]?)) : Bys w' x c ms := by
  obtain ⟨h1, h2, h3, h4⟩ := h
  refine ⟨h1, h2, h3, ?_⟩
  rcases h4 with e | ⟨b, off, rfl, hb, hc⟩
  · exact Or.inl e
  · rcases hk _ rfl with e | k
    · exact Or.inl e
    · exact Or.inr ⟨b, off, rfl, Nat.lt_of_lt_of_le hb hs, fun i hi => (World.cell?_of_block (a := ⟨b, off + i, none⟩) (k hb)).trans (hc i hi)⟩

theorem MeIn.kept {w w' : World} {row : Option Nat} {e : Me} (h : MeIn w e) (g : w.grownBy w' row) (k : MeOff row e) : MeIn w' e :=
  ⟨strs_keep h.1 g.size fun a ha => (k.1 a ha).imp_right fun q hb => g.block _ hb q, bys_keep h.2.1 g.size fun a ha => (k.2 a ha).imp_right fun q hb => g.block _ hb q, h.2.2⟩

theorem MeIn.off_new {w : World} {e : Me} (h : MeIn w e) {n : Nat} (hn : w.heap.size ≤ n) : MeOff (some n) e := by
  refine ⟨fun a ha => ?_, fun a ha => ?_⟩
  · rcases h.1.2.2.2 with q | ⟨b, off, q, hb, _⟩
    · exact Or.inl q
    · rw [ha] at q; cases q; right; intro q; have := Option.some.inj q; simp only at this; omega
  · rcases h.2.1.2.2.2 with q | ⟨b, off, q, hb, _⟩
    · exact Or.inl q
    · rw [ha] at q; cases q; right; intro q; have := Option.some.inj q; simp only at this; omega

/-- Parts from here on are not in an older block. -/
theorem meOff_above {n : Nat} {o : Option Nat} {e : Me} (h1 : ∀ a, e.y = some a → n ≤ a.block) (h2 : ∀ a, e.z = some a → n ≤ a.block) (ho : ∀ k, o = some k → k < n) : MeOff o e :=
  ⟨fun a ha => Or.inr fun q => by have := ho _ q.symm; have := h1 a ha; omega, fun a ha => Or.inr fun q => by have := ho _ q.symm; have := h2 a ha; omega⟩

/-- A row of nodes that the call owns, in blocks from B on; its parts lie beside it. -/
def PRow (B : Nat) (w : World) (v : Value) (ms : List Mt) : Prop :=
  ∃ L : List Me, L.map (·.m) = ms ∧ w.ownsRow B 36 4 v L.length (L.flatMap mcells) ∧ ∀ e ∈ L, MeIn w e ∧ MeOff v.ownBlock e

theorem PRow.nil (B : Nat) (w : World) : PRow B w (.slice none 0 0) [] := ⟨[], rfl, ⟨rfl, Or.inl ⟨rfl, rfl⟩⟩, fun e he => by simp at he⟩

theorem PRow.stay {w w' : World} {B : Nat} {v : Value} {ms : List Mt} (h : PRow B w v ms) (k : Below w.heap.size w w') : PRow B w' v ms := by
  obtain ⟨L, h1, h2, h3⟩ := h
  refine ⟨L, h1, World.ownsRow.kept h2 (row := none) ⟨k.os, k.tape, k.output, k.size, fun i hi _ => k.block i hi⟩ ?_, fun e he => ⟨(h3 e he).1.below k, (h3 e he).2⟩⟩
  cases v.ownBlock <;> simp

theorem PRow.toM {w : World} {B : Nat} {v : Value} {ms : List Mt} (h : PRow B w v ms) : MRow w B w v ms := by
  obtain ⟨L, h1, h2, h3⟩ := h
  exact ⟨L, h1, h2, fun e he => (h3 e he).1, Below.refl _ _⟩

theorem PRow.slice {w : World} {B : Nat} {v : Value} {ms : List Mt} (h : PRow B w v ms) : ∃ x c, v = .slice x ms.length c := h.toM.slice

theorem PRow.own {w : World} {B : Nat} {v : Value} {ms : List Mt} (h : PRow B w v ms) : ∀ k, v.ownBlock = some k → B ≤ k ∧ k < w.heap.size := by
  obtain ⟨L, h1, h2, h3⟩ := h
  exact World.ownsRow.lt h2

/-- What a row is behind an append. -/
theorem prow_more {w w' : World} {B : Nat} {v v' : Value} {ms : List Mt} {L : List Me} (L2 : List Me) (h1 : L.map (·.m) = ms) (h3 : ∀ e ∈ L, MeIn w e ∧ MeOff v.ownBlock e) (hp : ∀ e ∈ L2, MeIn w e ∧ MeOff v.ownBlock e)
    (k2 : w'.ownsRow B 36 4 v' (L.length + L2.length) (L.flatMap mcells ++ L2.flatMap mcells)) (k3 : w.grownBy w' v.ownBlock) (k5 : v'.ownBlock = v.ownBlock ∨ v'.ownBlock = some w.heap.size) : PRow B w' v' (ms ++ L2.map (·.m)) := by
  refine ⟨L ++ L2, by simp [h1], by rw [List.length_append, List.flatMap_append]; exact k2, fun e he => ?_⟩
  have q : MeIn w e ∧ MeOff v.ownBlock e := by
    rcases List.mem_append.1 he with he | he
    · exact h3 e he
    · exact hp e he
  refine ⟨q.1.kept k3 q.2, ?_⟩
  rcases k5 with e | e
  · rw [e]; exact q.2
  · rw [e]; exact q.1.off_new (Nat.le_refl _)

/-- What was there stays, but the row itself; the row lies where it was, or in memory of its own. -/
def Gr (w : World) (v v' : Value) (w' : World) : Prop := w.grownBy w' v.ownBlock ∧ (v'.ownBlock = v.ownBlock ∨ ∃ k, w.heap.size ≤ k ∧ v'.ownBlock = some k)

theorem Gr.refl (w : World) (v : Value) : Gr w v v w := ⟨⟨rfl, rfl, rfl, Nat.le_refl _, fun _ _ _ => rfl⟩, Or.inl rfl⟩

theorem Gr.trans {w w1 w2 : World} {v v1 v2 : Value} (h : Gr w v v1 w1) (k : Gr w1 v1 v2 w2) : Gr w v v2 w2 := by
  refine ⟨⟨k.1.os.trans h.1.os, k.1.tape.trans h.1.tape, k.1.output.trans h.1.output, Nat.le_trans h.1.size k.1.size, fun i hi hn => ?_⟩, ?_⟩
  · have := h.1.size
    refine (k.1.block i (by omega) ?_).trans (h.1.block i hi hn)
    rcases h.2 with e | ⟨b, hb, e⟩
    · rw [e]; exact hn
    · rw [e]; intro q; have := Option.some.inj q; omega
  · have := h.1.size
    rcases k.2 with e | ⟨b, hb, e⟩
    · rcases h.2 with e2 | ⟨b, hb, e2⟩
      · exact Or.inl (e.trans e2)
      · exact Or.inr ⟨b, hb, e.trans e2⟩
    · exact Or.inr ⟨b, by omega, e⟩

theorem Gr.stay {w w1 w2 : World} {v v1 : Value} (h : Gr w v v1 w1) (k : Below w1.heap.size w1 w2) : Gr w v v1 w2 :=
  h.trans ⟨⟨k.os, k.tape, k.output, k.size, fun i hi _ => k.block i hi⟩, Or.inl rfl⟩

theorem Gr.ahead {w w1 w2 : World} {v v1 : Value} (k : Below w.heap.size w w1) (h : Gr w1 v v1 w2) : Gr w v v1 w2 :=
  Gr.trans ⟨⟨k.os, k.tape, k.output, k.size, fun i hi _ => k.block i hi⟩, Or.inl rfl⟩ h

theorem Gr.bl {t : TypeId} {w w' : World} {v v' : Value} {b : Nat} {C : Array Value} (h : Gr w v v' w') (k : Bl t w b C) (hn : some b ≠ v.ownBlock) : Bl t w' b C := (h.1.block b k.lt hn).trans k

/-- The row itself lies above. -/
theorem Gr.low {w w' : World} {v v' : Value} {B : Nat} (h : Gr w v v' w') (hB : B ≤ w.heap.size) (ho : ∀ k, v.ownBlock = some k → B ≤ k) : Below B w w' := (Below.refl B w).grown h.1 hB ho

theorem wpList_append_p {w : World} {B : Nat} {v : Value} {ms : List Mt} {ad : Addr} {n c : Nat} (L2 : List Me) {ops : Array Oper} {rest : List Oper} {o : Oper} {a : Act} {Q : Exit → Act → World → Prop} (hgd : o.guard = none) (sl x : Operand)
    (ho : o.op = .call { callee := .builtin .append, args := #[sl, x], argTypes := #[22, 22] }) (hs : a.eval sl = v) (hx : a.eval x = .slice (some ad) n c) (hr : PRow B w v ms) (hn : L2.length = n)
    (hy : ∀ j u, (L2.flatMap mcells)[j]? = some u → w.cell? (ad.add j) = some u) (hp : ∀ e ∈ L2, MeIn w e ∧ MeOff v.ownBlock e) (hl : ms.length + n ≤ 100000) (hB2 : B ≤ w.heap.size)
    (hK : ∀ v' w', PRow B w' v' (ms ++ L2.map (·.m)) → Gr w v v' w' → wpList Try.prog ops Q rest (a.put o.dst v') w') : wpList Try.prog ops Q (o :: rest) a w := by
  obtain ⟨i0, hi, hz0, hz1, hz2⟩ := info_of_match
  obtain ⟨L, h1, h2, h3⟩ := hr
  subst hn
  have hl1 : L.length = ms.length := by rw [← h1, List.length_map]
  refine wpList_append_own_at w hgd sl x 22 ho B 36 i0 _ 4 64 Try.underlying22 hi hz0 hz1 hz2 rfl (by omega) v L.length (L.flatMap mcells) hs h2 ad L2.length c (L2.flatMap mcells) hx (mflat_len L2) hy (mcells_one L2) (by unfold maxLen; omega) (by omega) hB2 ?_
  intro v' w' k2 k3 k4 k5
  exact hK v' w' (prow_more L2 h1 h3 hp k2 k3 k5) ⟨k3, k5.imp_right fun q => ⟨_, Nat.le_refl _, q⟩⟩

theorem wp_append_p {w : World} {B : Nat} {v : Value} {ms : List Mt} {ad : Addr} {n c : Nat} (L2 : List Me) {o : Oper} {a : Act} {K : Act → World → Prop} {Q : Exit → Act → World → Prop} (sl x : Operand)
    (ho : o.op = .call { callee := .builtin .append, args := #[sl, x], argTypes := #[22, 22] }) (hs : a.eval sl = v) (hx : a.eval x = .slice (some ad) n c) (hr : PRow B w v ms) (hn : L2.length = n)
    (hy : ∀ j u, (L2.flatMap mcells)[j]? = some u → w.cell? (ad.add j) = some u) (hp : ∀ e ∈ L2, MeIn w e ∧ MeOff v.ownBlock e) (hl : ms.length + n ≤ 100000) (hB2 : B ≤ w.heap.size)
    (hK : ∀ v' w', PRow B w' v' (ms ++ L2.map (·.m)) → Gr w v v' w' → K (a.put o.dst v') w') : o.wp Try.prog a w K Q := by
  obtain ⟨i0, hi, hz0, hz1, hz2⟩ := info_of_match
  obtain ⟨L, h1, h2, h3⟩ := hr
  subst hn
  have hl1 : L.length = ms.length := by rw [← h1, List.length_map]
  obtain ⟨v', w', hrun, k2, k3, k4, k5⟩ := run_append_own_at (P := Try.prog) w B 22 o.type 36 i0 _ 4 64 Try.underlying22 hi hz0 hz1 hz2 rfl (by omega) v L.length (L.flatMap mcells) h2 ad L2.length c (L2.flatMap mcells) (mflat_len L2) hy (mcells_one L2) (by unfold maxLen; omega) (by omega) hB2
  unfold Oper.wp execOp
  simp only [ho, resolve, invoke, builtin, Sem.run_bind, Sem.run_pure, Result.andThen_ok, List.map_toArray, List.map_cons, List.map_nil, hs, hx, hrun]
  exact hK v' w' (prow_more L2 h1 h3 hp k2 k3 k5) ⟨k3, k5.imp_right fun q => ⟨_, Nat.le_refl _, q⟩⟩

end Go.Proofs.Ytdkpdlkcloaoeaa.Ru
