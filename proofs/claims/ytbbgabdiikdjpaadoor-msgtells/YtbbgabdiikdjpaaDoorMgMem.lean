/-
  A section of a message in memory: a slice of questions, one of records; and as a row that the call owns.
-/
import Derived.Test.YtbbgabdiikdjpaaDoorMgQ
import Derived.Maps.AppendAt
namespace Go.Proofs.YtbbgabdiikdjpaaDoor
open Go.RowKit Go.Deep

theorem flat_get {α β : Type} (f : α → List β) (n : Nat) (hf : ∀ a, (f a).length = n) : ∀ (L : List α) (i j : Nat) (hi : i < L.length), j < n → (L.flatMap f)[i * n + j]? = (f L[i])[j]? := by
  intro L
  induction L with
  | nil => intro i j hi; simp at hi
  | cons x L ih =>
    intro i j hi hj
    rw [List.flatMap_cons]
    cases i with
    | zero => rw [Nat.zero_mul, Nat.zero_add, List.getElem?_append_left (by rw [hf]; exact hj)]; rfl
    | succ i =>
      rw [List.getElem?_append_right (by rw [hf, Nat.succ_mul]; omega), hf]
      have e : (i + 1) * n + j - n = i * n + j := by rw [Nat.succ_mul]; omega
      rw [e, ih i j (by simpa using hi) hj]
      rfl

theorem flat_len {α β : Type} (f : α → List β) (n : Nat) (hf : ∀ a, (f a).length = n) (L : List α) : (L.flatMap f).length = L.length * n := by
  induction L with
  | nil => simp
  | cons x L ih => rw [List.flatMap_cons, List.length_append, hf, ih, List.length_cons, Nat.succ_mul]; omega

theorem owns_stay {w w' : World} {B e n m : Nat} {v : Value} {xs : List Value} (h : w.ownsRow B e m v n xs) (k : Below w.heap.size w w') : w'.ownsRow B e m v n xs := by
  obtain ⟨h1, h2⟩ := h
  refine ⟨h1, ?_⟩
  rcases h2 with q | ⟨g, cap, cur, hv, hb, hg, r⟩
  · exact Or.inl q
  · refine Or.inr ⟨g, cap, cur, hv, hb, ?_, r⟩
    have hlt : g < w.heap.size := by
      rcases Nat.lt_or_ge g w.heap.size with q | q
      · exact q
      · rw [Array.getElem?_eq_none q] at hg; cases hg
    rw [k.block g hlt, hg]

theorem Strs.kept {w w' : World} {x : Option Addr} {c : Nat} {ss : List ByteArray} {row : Option Nat} (h : Strs w x c ss) (g : w.grownBy w' row) (hn : ∀ a, x = some a → ss = [] ∨ some a.block ≠ row) : Strs w' x c ss := by
  obtain ⟨h1, h2, h3, h4⟩ := h
  refine ⟨h1, h2, h3, ?_⟩
  rcases h4 with h4 | ⟨b, off, hx, hb, hc⟩
  · exact Or.inl h4
  · rcases hn _ hx with q | q
    · exact Or.inl q
    · refine Or.inr ⟨b, off, hx, Nat.lt_of_lt_of_le hb g.size, fun i hi => ?_⟩
      have := g.block b hb q
      rw [← hc i hi]
      simp only [World.cell?, this]

theorem Bys.kept {w w' : World} {x : Option Addr} {c : Nat} {ms : List Int} {row : Option Nat} (h : Bys w x c ms) (g : w.grownBy w' row) (hn : ∀ a, x = some a → ms = [] ∨ some a.block ≠ row) : Bys w' x c ms := by
  obtain ⟨h1, h2, h3, h4⟩ := h
  refine ⟨h1, h2, h3, ?_⟩
  rcases h4 with h4 | ⟨b, off, hx, hb, hc⟩
  · exact Or.inl h4
  · rcases hn _ hx with q | q
    · exact Or.inl q
    · refine Or.inr ⟨b, off, hx, Nat.lt_of_lt_of_le hb g.size, fun i hi => ?_⟩
      have := g.block b hb q
      rw [← hc i hi]
      simp only [World.cell?, this]

/-- A question stands at a place of a block; what it leads to lies in memory from B on. -/
def QCell (w : World) (B b o : Nat) (q : Qn) : Prop :=
  ∃ y s, w.cell? ⟨b, o, none⟩ = some (.slice y q.N.length s) ∧ w.cell? ⟨b, o + 1, none⟩ = some (.int .i64 q.ty) ∧ w.cell? ⟨b, o + 2, none⟩ = some (.int .i64 q.cl) ∧ Strs w y s q.N ∧ ∀ a, y = some a → B ≤ a.block

/-- A slice leads to these questions. -/
def Qs (w : World) (B : Nat) (x : Option Addr) (c : Nat) (qs : List Qn) : Prop :=
  qs.length ≤ c ∧ qs.length ≤ 4000000000000 ∧ (qs = [] ∨ ∃ b off, x = some ⟨b, off, none⟩ ∧ b < w.heap.size ∧ B ≤ b ∧ ∀ i (h : i < qs.length), QCell w B b (off + i * 3) qs[i])

/-- A record stands at a place of a block; what it leads to lies in memory from B on. -/
def RCell (w : World) (B b o : Nat) (r : Rn) : Prop :=
  ∃ y s z t, w.cell? ⟨b, o, none⟩ = some (.slice y r.N.length s) ∧ w.cell? ⟨b, o + 1, none⟩ = some (.int .i64 r.ty) ∧ w.cell? ⟨b, o + 2, none⟩ = some (.int .i64 r.cl) ∧ w.cell? ⟨b, o + 3, none⟩ = some (.int .i64 r.ttl) ∧ w.cell? ⟨b, o + 4, none⟩ = some (.slice z r.D.length t) ∧
    Strs w y s r.N ∧ Bys w z t r.D ∧ (z = none → t = 0) ∧ (∀ a, y = some a → B ≤ a.block) ∧ ∀ a, z = some a → B ≤ a.block

/-- A slice leads to these records. -/
def Rs (w : World) (B : Nat) (x : Option Addr) (c : Nat) (rs : List Rn) : Prop :=
  rs.length ≤ c ∧ rs.length ≤ 4000000000000 ∧ (rs = [] ∨ ∃ b off, x = some ⟨b, off, none⟩ ∧ b < w.heap.size ∧ B ≤ b ∧ ∀ i (h : i < rs.length), RCell w B b (off + i * 5) rs[i])

theorem QCell.below {w w' : World} {B b o : Nat} {q : Qn} (h : QCell w B b o q) (hb : b < w.heap.size) (k : Below w.heap.size w w') : QCell w' B b o q := by
  obtain ⟨y, s, h1, h2, h3, h4, h5⟩ := h
  exact ⟨y, s, by rw [k.cell (p := ⟨b, o, none⟩) hb]; exact h1, by rw [k.cell (p := ⟨b, o + 1, none⟩) hb]; exact h2, by rw [k.cell (p := ⟨b, o + 2, none⟩) hb]; exact h3, h4.below k, h5⟩

theorem RCell.below {w w' : World} {B b o : Nat} {r : Rn} (h : RCell w B b o r) (hb : b < w.heap.size) (k : Below w.heap.size w w') : RCell w' B b o r := by
  obtain ⟨y, s, z, t, h1, h2, h3, h4, h5, h6, h7, h8⟩ := h
  exact ⟨y, s, z, t, by rw [k.cell (p := ⟨b, o, none⟩) hb]; exact h1, by rw [k.cell (p := ⟨b, o + 1, none⟩) hb]; exact h2, by rw [k.cell (p := ⟨b, o + 2, none⟩) hb]; exact h3, by rw [k.cell (p := ⟨b, o + 3, none⟩) hb]; exact h4, by rw [k.cell (p := ⟨b, o + 4, none⟩) hb]; exact h5, h6.below k, h7.below k, h8⟩

theorem Qs.below {w w' : World} {B : Nat} {x : Option Addr} {c : Nat} {qs : List Qn} (h : Qs w B x c qs) (k : Below w.heap.size w w') : Qs w' B x c qs := by
  obtain ⟨h1, h2, h3⟩ := h
  refine ⟨h1, h2, ?_⟩
  rcases h3 with h3 | ⟨b, off, hx, hb, hB, hc⟩
  · exact Or.inl h3
  · exact Or.inr ⟨b, off, hx, Nat.lt_of_lt_of_le hb k.size, hB, fun i hi => (hc i hi).below hb k⟩

theorem Rs.below {w w' : World} {B : Nat} {x : Option Addr} {c : Nat} {rs : List Rn} (h : Rs w B x c rs) (k : Below w.heap.size w w') : Rs w' B x c rs := by
  obtain ⟨h1, h2, h3⟩ := h
  refine ⟨h1, h2, ?_⟩
  rcases h3 with h3 | ⟨b, off, hx, hb, hB, hc⟩
  · exact Or.inl h3
  · exact Or.inr ⟨b, off, hx, Nat.lt_of_lt_of_le hb k.size, hB, fun i hi => (hc i hi).below hb k⟩

theorem Qs.nil (w : World) (B : Nat) (x : Option Addr) (c : Nat) : Qs w B x c [] := ⟨Nat.zero_le _, by simp, Or.inl rfl⟩
theorem Rs.nil (w : World) (B : Nat) (x : Option Addr) (c : Nat) : Rs w B x c [] := ⟨Nat.zero_le _, by simp, Or.inl rfl⟩

theorem cell_far {w : World} {p q : Addr} (h : ¬ q.block = p.block) (v : Value) : (w.setCell p v).cell? q = w.cell? q := by
  have := Below.heap_setCell w p v q.block h
  simp only [World.cell?, this]

theorem Qs.far {w : World} {B : Nat} {x : Option Addr} {c : Nat} {qs : List Qn} (h : Qs w B x c qs) {p : Addr} (hp : p.block < B) (v : Value) : Qs (w.setCell p v) B x c qs := by
  obtain ⟨h1, h2, h3⟩ := h
  refine ⟨h1, h2, ?_⟩
  rcases h3 with h3 | ⟨b, off, hx, hb, hB, hc⟩
  · exact Or.inl h3
  · refine Or.inr ⟨b, off, hx, by simpa [World.setCell] using hb, hB, fun i hi => ?_⟩
    obtain ⟨y, s, k1, k2, k3, k4, k5⟩ := hc i hi
    have hne : ¬ b = p.block := by omega
    exact ⟨y, s, (cell_far hne v).trans k1, (cell_far hne v).trans k2, (cell_far hne v).trans k3, k4.far (fun a e => by have := k5 a e; omega) v, k5⟩

theorem Rs.far {w : World} {B : Nat} {x : Option Addr} {c : Nat} {rs : List Rn} (h : Rs w B x c rs) {p : Addr} (hp : p.block < B) (v : Value) : Rs (w.setCell p v) B x c rs := by
  obtain ⟨h1, h2, h3⟩ := h
  refine ⟨h1, h2, ?_⟩
  rcases h3 with h3 | ⟨b, off, hx, hb, hB, hc⟩
  · exact Or.inl h3
  · refine Or.inr ⟨b, off, hx, by simpa [World.setCell] using hb, hB, fun i hi => ?_⟩
    obtain ⟨y, s, z, t, k1, k2, k3, k4, k5, k6, k7, k8, k9, k10⟩ := hc i hi
    have hne : ¬ b = p.block := by omega
    exact ⟨y, s, z, t, (cell_far hne v).trans k1, (cell_far hne v).trans k2, (cell_far hne v).trans k3, (cell_far hne v).trans k4, (cell_far hne v).trans k5, k6.far (fun a e => by have := k9 a e; omega) v, k7.far (fun a e => by have := k10 a e; omega) v, k8, k9, k10⟩

def qcells (e : Qn × Option Addr × Nat) : List Value := [.slice e.2.1 e.1.N.length e.2.2, .int .i64 e.1.ty, .int .i64 e.1.cl]
def rcells (e : Rn × (Option Addr × Nat) × (Option Addr × Nat)) : List Value := [.slice e.2.1.1 e.1.N.length e.2.1.2, .int .i64 e.1.ty, .int .i64 e.1.cl, .int .i64 e.1.ttl, .slice e.2.2.1 e.1.D.length e.2.2.2]

/-- A row of questions that the call owns from block B on. -/
def QRow (w : World) (B : Nat) (v : Value) (qs : List Qn) : Prop :=
  ∃ L : List (Qn × Option Addr × Nat), L.map (·.1) = qs ∧ w.ownsRow B 65 3 v L.length (L.flatMap qcells) ∧ ∀ e ∈ L, Strs w e.2.1 e.2.2 e.1.N ∧ ∀ a, e.2.1 = some a → B ≤ a.block ∧ (e.1.N = [] ∨ some a.block ≠ v.ownBlock)

def RRow (w : World) (B : Nat) (v : Value) (rs : List Rn) : Prop :=
  ∃ L : List (Rn × (Option Addr × Nat) × (Option Addr × Nat)), L.map (·.1) = rs ∧ w.ownsRow B 67 5 v L.length (L.flatMap rcells) ∧ ∀ e ∈ L, (Strs w e.2.1.1 e.2.1.2 e.1.N ∧ ∀ a, e.2.1.1 = some a → B ≤ a.block ∧ (e.1.N = [] ∨ some a.block ≠ v.ownBlock)) ∧
    Bys w e.2.2.1 e.2.2.2 e.1.D ∧ (e.2.2.1 = none → e.2.2.2 = 0) ∧ ∀ a, e.2.2.1 = some a → B ≤ a.block ∧ (e.1.D = [] ∨ some a.block ≠ v.ownBlock)

theorem QRow.nil (w : World) (B : Nat) : QRow w B (.slice none 0 0) [] := ⟨[], rfl, World.ownsRow_nil _ _ _ _, fun e he => by simp at he⟩
theorem RRow.nil (w : World) (B : Nat) : RRow w B (.slice none 0 0) [] := ⟨[], rfl, World.ownsRow_nil _ _ _ _, fun e he => by simp at he⟩

theorem QRow.below {w w' : World} {B : Nat} {v : Value} {qs : List Qn} (h : QRow w B v qs) (k : Below w.heap.size w w') : QRow w' B v qs := by
  obtain ⟨L, h1, h2, h3⟩ := h
  exact ⟨L, h1, owns_stay h2 k, fun e he => ⟨(h3 e he).1.below k, (h3 e he).2⟩⟩

theorem RRow.below {w w' : World} {B : Nat} {v : Value} {rs : List Rn} (h : RRow w B v rs) (k : Below w.heap.size w w') : RRow w' B v rs := by
  obtain ⟨L, h1, h2, h3⟩ := h
  exact ⟨L, h1, owns_stay h2 k, fun e he => ⟨⟨(h3 e he).1.1.below k, (h3 e he).1.2⟩, (h3 e he).2.1.below k, (h3 e he).2.2⟩⟩

theorem strs_lt {w : World} {x : Option Addr} {c : Nat} {ss : List ByteArray} (h : Strs w x c ss) {a : Addr} (ha : x = some a) : ss = [] ∨ a.block < w.heap.size := by
  rcases h.2.2.2 with q | ⟨b, off, hx, hb, _⟩
  · exact Or.inl q
  · rw [hx] at ha; cases ha; exact Or.inr hb

theorem bys_lt {w : World} {x : Option Addr} {c : Nat} {ms : List Int} (h : Bys w x c ms) {a : Addr} (ha : x = some a) : ms = [] ∨ a.block < w.heap.size := by
  rcases h.2.2.2 with q | ⟨b, off, hx, hb, _⟩
  · exact Or.inl q
  · rw [hx] at ha; cases ha; exact Or.inr hb

theorem own_ne {w : World} {v v' : Value} {b : Nat} {P : Prop} (h : P ∨ some b ≠ v.ownBlock) (hl : P ∨ b < w.heap.size) (hloc : v'.ownBlock = v.ownBlock ∨ v'.ownBlock = some w.heap.size) : P ∨ some b ≠ v'.ownBlock := by
  rcases h with h | h
  · exact Or.inl h
  · rcases hl with hl | hl
    · exact Or.inl hl
    · refine Or.inr fun q => ?_
      rcases hloc with e | e
      · rw [e] at q; exact h q
      · rw [e] at q; cases q; omega

theorem QRow.snoc {w w' : World} {B : Nat} {v v' : Value} {L : List (Qn × Option Addr × Nat)} {q : Qn} {y : Option Addr} {s : Nat} (h3 : ∀ e ∈ L, Strs w e.2.1 e.2.2 e.1.N ∧ ∀ a, e.2.1 = some a → B ≤ a.block ∧ (e.1.N = [] ∨ some a.block ≠ v.ownBlock))
    (hs : Strs w y s q.N) (hy : ∀ a, y = some a → B ≤ a.block ∧ (q.N = [] ∨ some a.block ≠ v.ownBlock)) (hown : w'.ownsRow B 65 3 v' (L.length + 1) (L.flatMap qcells ++ qcells (q, y, s))) (hg : w.grownBy w' v.ownBlock) (hloc : v'.ownBlock = v.ownBlock ∨ v'.ownBlock = some w.heap.size) :
    QRow w' B v' (L.map (·.1) ++ [q]) := by
  refine ⟨L ++ [(q, y, s)], by simp, ?_, fun e he => ?_⟩
  · rw [List.length_append, List.flatMap_append, List.flatMap_cons, List.flatMap_nil, List.append_nil]
    exact hown
  · rcases List.mem_append.1 he with he | he
    · obtain ⟨k1, k2⟩ := h3 e he
      exact ⟨k1.kept hg (fun a ha => (k2 a ha).2), fun a ha => ⟨(k2 a ha).1, own_ne (k2 a ha).2 (strs_lt k1 ha) hloc⟩⟩
    · rw [List.mem_singleton.1 he]
      exact ⟨hs.kept hg (fun a ha => (hy a ha).2), fun a ha => ⟨(hy a ha).1, own_ne (hy a ha).2 (strs_lt hs ha) hloc⟩⟩

theorem RRow.snoc {w w' : World} {B : Nat} {v v' : Value} {L : List (Rn × (Option Addr × Nat) × (Option Addr × Nat))} {r : Rn} {y z : Option Addr} {s t : Nat} (h3 : ∀ e ∈ L, (Strs w e.2.1.1 e.2.1.2 e.1.N ∧ ∀ a, e.2.1.1 = some a → B ≤ a.block ∧ (e.1.N = [] ∨ some a.block ≠ v.ownBlock)) ∧
      Bys w e.2.2.1 e.2.2.2 e.1.D ∧ (e.2.2.1 = none → e.2.2.2 = 0) ∧ ∀ a, e.2.2.1 = some a → B ≤ a.block ∧ (e.1.D = [] ∨ some a.block ≠ v.ownBlock))
    (hs : Strs w y s r.N) (hy : ∀ a, y = some a → B ≤ a.block ∧ (r.N = [] ∨ some a.block ≠ v.ownBlock)) (hd : Bys w z t r.D) (hzt : z = none → t = 0) (hz : ∀ a, z = some a → B ≤ a.block ∧ (r.D = [] ∨ some a.block ≠ v.ownBlock))
    (hown : w'.ownsRow B 67 5 v' (L.length + 1) (L.flatMap rcells ++ rcells (r, (y, s), (z, t)))) (hg : w.grownBy w' v.ownBlock) (hloc : v'.ownBlock = v.ownBlock ∨ v'.ownBlock = some w.heap.size) :
    RRow w' B v' (L.map (·.1) ++ [r]) := by
  refine ⟨L ++ [(r, (y, s), (z, t))], by simp, ?_, fun e he => ?_⟩
  · rw [List.length_append, List.flatMap_append, List.flatMap_cons, List.flatMap_nil, List.append_nil]
    exact hown
  · rcases List.mem_append.1 he with he | he
    · obtain ⟨⟨k1, k2⟩, k3, k4, k5⟩ := h3 e he
      exact ⟨⟨k1.kept hg (fun a ha => (k2 a ha).2), fun a ha => ⟨(k2 a ha).1, own_ne (k2 a ha).2 (strs_lt k1 ha) hloc⟩⟩, k3.kept hg (fun a ha => (k5 a ha).2), k4, fun a ha => ⟨(k5 a ha).1, own_ne (k5 a ha).2 (bys_lt k3 ha) hloc⟩⟩
    · rw [List.mem_singleton.1 he]
      exact ⟨⟨hs.kept hg (fun a ha => (hy a ha).2), fun a ha => ⟨(hy a ha).1, own_ne (hy a ha).2 (strs_lt hs ha) hloc⟩⟩, hd.kept hg (fun a ha => (hz a ha).2), hzt, fun a ha => ⟨(hz a ha).1, own_ne (hz a ha).2 (bys_lt hd ha) hloc⟩⟩

theorem QRow.open {w : World} {B : Nat} {v : Value} {qs : List Qn} (h : QRow w B v qs) (hl : qs.length ≤ 4000000000000) : ∃ x c, v = .slice x qs.length c ∧ Qs w B x c qs := by
  obtain ⟨L, rfl, h2, h3⟩ := h
  rw [List.length_map] at hl ⊢
  have hc := fun (g : Nat) (hg : v.ownBlock = some g) => h2.cells hg
  rcases h2.2 with ⟨rfl, h4⟩ | ⟨g, cap, cur, rfl, hg, hh, hn, _⟩
  · have : L = [] := List.length_eq_zero_iff.1 h4
    subst this
    exact ⟨none, 0, rfl, Qs.nil w B none 0⟩
  · refine ⟨_, cap, rfl, by rw [List.length_map]; exact hn, by rw [List.length_map]; exact hl, Or.inr ⟨g, 0, rfl, ?_, hg, fun i hi => ?_⟩⟩
    · rcases Nat.lt_or_ge g w.heap.size with q | q
      · exact q
      · rw [Array.getElem?_eq_none q] at hh; simp at hh
    · rw [List.length_map] at hi
      have hf : ∀ a, (qcells a).length = 3 := fun a => rfl
      have c0 := hc g rfl (i * 3 + 0) _ (flat_get qcells 3 hf L i 0 hi (by decide))
      have c1 := hc g rfl (i * 3 + 1) _ (flat_get qcells 3 hf L i 1 hi (by decide))
      have c2 := hc g rfl (i * 3 + 2) _ (flat_get qcells 3 hf L i 2 hi (by decide))
      obtain ⟨k1, k2⟩ := h3 L[i] (List.getElem_mem hi)
      rw [List.getElem_map]
      simp only [Go.WideShapes.add_plain, Nat.zero_add, Nat.add_zero] at c0 c1 c2
      rw [Nat.zero_add]
      exact ⟨L[i].2.1, L[i].2.2, c0, c1, c2, k1, fun a ha => (k2 a ha).1⟩

theorem RRow.open {w : World} {B : Nat} {v : Value} {rs : List Rn} (h : RRow w B v rs) (hl : rs.length ≤ 4000000000000) : ∃ x c, v = .slice x rs.length c ∧ Rs w B x c rs := by
  obtain ⟨L, rfl, h2, h3⟩ := h
  rw [List.length_map] at hl ⊢
  have hc := fun (g : Nat) (hg : v.ownBlock = some g) => h2.cells hg
  rcases h2.2 with ⟨rfl, h4⟩ | ⟨g, cap, cur, rfl, hg, hh, hn, _⟩
  · have : L = [] := List.length_eq_zero_iff.1 h4
    subst this
    exact ⟨none, 0, rfl, Rs.nil w B none 0⟩
  · refine ⟨_, cap, rfl, by rw [List.length_map]; exact hn, by rw [List.length_map]; exact hl, Or.inr ⟨g, 0, rfl, ?_, hg, fun i hi => ?_⟩⟩
    · rcases Nat.lt_or_ge g w.heap.size with q | q
      · exact q
      · rw [Array.getElem?_eq_none q] at hh; simp at hh
    · rw [List.length_map] at hi
      have hf : ∀ a, (rcells a).length = 5 := fun a => rfl
      have c0 := hc g rfl (i * 5 + 0) _ (flat_get rcells 5 hf L i 0 hi (by decide))
      have c1 := hc g rfl (i * 5 + 1) _ (flat_get rcells 5 hf L i 1 hi (by decide))
      have c2 := hc g rfl (i * 5 + 2) _ (flat_get rcells 5 hf L i 2 hi (by decide))
      have c3 := hc g rfl (i * 5 + 3) _ (flat_get rcells 5 hf L i 3 hi (by decide))
      have c4 := hc g rfl (i * 5 + 4) _ (flat_get rcells 5 hf L i 4 hi (by decide))
      obtain ⟨⟨k1, k2⟩, k3, k4, k5⟩ := h3 L[i] (List.getElem_mem hi)
      rw [List.getElem_map]
      simp only [Go.WideShapes.add_plain, Nat.zero_add, Nat.add_zero] at c0 c1 c2 c3 c4
      rw [Nat.zero_add]
      exact ⟨L[i].2.1.1, L[i].2.1.2, L[i].2.2.1, L[i].2.2.2, c0, c1, c2, c3, c4, k1, k3, k4, fun a ha => (k2 a ha).1, fun a ha => (k5 a ha).1⟩

end Go.Proofs.YtbbgabdiikdjpaaDoor
