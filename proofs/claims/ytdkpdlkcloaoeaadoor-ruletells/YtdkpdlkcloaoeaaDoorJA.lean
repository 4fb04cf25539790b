/-
  A row of questions that the call owns, the parts of which lie in memory beside it. The walk of package rule's plain, by the tree. Written by genrp.py. What package rule's own functions answer. The walk of the laws' own asked.
-/
import Derived.Test.YtdkpdlkcloaoeaaDoorRlRow
import Derived.Test.YtdkpdlkcloaoeaaDoorRcHolds
namespace Go.Proofs.YtdkpdlkcloaoeaaDoor.Ru
open Go.RowKit Go.Deep

/-- A question's parts lie in other blocks than this one. -/
def MeOff (o : Option Nat) (e : Me) : Prop := (∀ a, e.y = some a → e.m.N = [] ∨ some a.block ≠ o) ∧ (∀ a, e.z = some a → e.m.A = [] ∨ some a.block ≠ o)

theorem strs_keep {w w' : World} {x : Option Addr} {c : Nat} {ss : List ByteArray} (h : Strs w x c ss) (hs : w.heap.size ≤ w'.heap.size) (hk : ∀ a, x = some a → ss = [] ∨ (a.block < w.heap.size → w'.heap[a.block]? = w.heap[a.block]?)) : Strs w' x c ss := by
  obtain ⟨h1, h2, h3, h4⟩ := h
  refine ⟨h1, h2, h3, ?_⟩
  rcases h4 with e | ⟨b, off, rfl, hb, hc⟩
  · exact Or.inl e
  · rcases hk _ rfl with e | k
    · exact Or.inl e
    · exact Or.inr ⟨b, off, rfl, Nat.lt_of_lt_of_le hb hs, fun i hi => (World.cell?_of_block (a := ⟨b, off + i, none⟩) (k hb)).trans (hc i hi)⟩

theorem bys_keep {w w' : World} {x : Option Addr} {c : Nat} {ms : List Int} (h : Bys w x c ms) (hs : w.heap.size ≤ w'.heap.size) (hk : ∀ a, x = some a → ms = [] ∨ (a.block < w.heap.size → w'.heap[a.block]? = w.heap[a.block]?)) : Bys w' x c ms := by
  obtain ⟨h1, h2, h3, h4⟩ := h
  refine ⟨h1, h2, h3, ?_⟩
  rcases h4 with e | ⟨b, off, rfl, hb, hc⟩
  · exact Or.inl e
  · rcases hk _ rfl with e | k
    · exact Or.inl e
    · exact Or.inr ⟨b, off, rfl, Nat.lt_of_lt_of_le hb hs, fun i hi => (World.cell?_of_block (a := ⟨b, off + i, none⟩) (k hb)).trans (hc i hi)⟩

theorem MeIn.kept {w w' : World} {row : Option Nat} {e : Me} (h : MeIn w e) (g : w.grownBy w' row) (k : MeOff row e) : MeIn w' e :=
  ⟨strs_keep h.1 g.size fun a ha => (k.1 a ha).imp_right fun q hb => g.block _ hb q, bys_keep h.2.1 g.size fun a ha => (k.2 a ha).imp_right fun q hb => g.block _ hb q, h.2.2⟩

theorem MeIn.off_new {w : World} {e : Me} (h : MeIn w e) {n : Nat} (hn : w.heap.size ≤ n) : MeOff (some n) e := by
  refine ⟨fun a ha => ?_, fun a ha => ?_⟩
  · rcases h.1.2.2.2 with q | ⟨b, off, q, hb, _⟩
    · exact Or.inl q
    · rw [ha] at q; cases q; right; intro q; have := Option.some.inj q; simp only at this; omega
  · rcases h.2.1.2.2.2 with q | ⟨b, off, q, hb, _⟩
    · exact Or.inl q
    · rw [ha] at q; cases q; right; intro q; have := Option.some.inj q; simp only at this; omega

/-- Parts from here on are not in an older block. -/
theorem meOff_above {n : Nat} {o : Option Nat} {e : Me} (h1 : ∀ a, e.y = some a → n ≤ a.block) (h2 : ∀ a, e.z = some a → n ≤ a.block) (ho : ∀ k, o = some k → k < n) : MeOff o e :=
  ⟨fun a ha => Or.inr fun q => by have := ho _ q.symm; have := h1 a ha; omega, fun a ha => Or.inr fun q => by have := ho _ q.symm; have := h2 a ha; omega⟩

/-- A row of nodes that the call owns, in blocks from B on; its parts lie beside it. -/
def PRow (B : Nat) (w : World) (v : Value) (ms : List Mt) : Prop :=
  ∃ L : List Me, L.map (·.m) = ms ∧ w.ownsRow B 43 4 v L.length (L.flatMap mcells) ∧ ∀ e ∈ L, MeIn w e ∧ MeOff v.ownBlock e

theorem PRow.nil (B : Nat) (w : World) : PRow B w (.slice none 0 0) [] := ⟨[], rfl, ⟨rfl, Or.inl ⟨rfl, rfl⟩⟩, fun e he => by simp at he⟩

theorem PRow.stay {w w' : World} {B : Nat} {v : Value} {ms : List Mt} (h : PRow B w v ms) (k : Below w.heap.size w w') : PRow B w' v ms := by
  obtain ⟨L, h1, h2, h3⟩ := h
  refine ⟨L, h1, World.ownsRow.kept h2 (row := none) ⟨k.os, k.tape, k.output, k.size, fun i hi _ => k.block i hi⟩ ?_, fun e he => ⟨(h3 e he).1.below k, (h3 e he).2⟩⟩
  cases v.ownBlock <;> simp

theorem PRow.toM {w : World} {B : Nat} {v : Value} {ms : List Mt} (h : PRow B w v ms) : MRow w B w v ms := by
  obtain ⟨L, h1, h2, h3⟩ := h
  exact ⟨L, h1, h2, fun e he => (h3 e he).1, Below.refl _ _⟩

theorem PRow.slice {w : World} {B : Nat} {v : Value} {ms : List Mt} (h : PRow B w v ms) : ∃ x c, v = .slice x ms.length c := h.toM.slice

theorem PRow.own {w : World} {B : Nat} {v : Value} {ms : List Mt} (h : PRow B w v ms) : ∀ k, v.ownBlock = some k → B ≤ k ∧ k < w.heap.size := by
  obtain ⟨L, h1, h2, h3⟩ := h
  exact World.ownsRow.lt h2

/-- What a row is behind an append. -/
theorem prow_more {w w' : World} {B : Nat} {v v' : Value} {ms : List Mt} {L : List Me} (L2 : List Me) (h1 : L.map (·.m) = ms) (h3 : ∀ e ∈ L, MeIn w e ∧ MeOff v.ownBlock e) (hp : ∀ e ∈ L2, MeIn w e ∧ MeOff v.ownBlock e)
    (k2 : w'.ownsRow B 43 4 v' (L.length + L2.length) (L.flatMap mcells ++ L2.flatMap mcells)) (k3 : w.grownBy w' v.ownBlock) (k5 : v'.ownBlock = v.ownBlock ∨ v'.ownBlock = some w.heap.size) : PRow B w' v' (ms ++ L2.map (·.m)) := by
  refine ⟨L ++ L2, by simp [h1], by rw [List.length_append, List.flatMap_append]; exact k2, fun e he => ?_⟩
  have q : MeIn w e ∧ MeOff v.ownBlock e := by
    rcases List.mem_append.1 he with he | he
    · exact h3 e he
    · exact hp e he
  refine ⟨q.1.kept k3 q.2, ?_⟩
  rcases k5 with e | e
  · rw [e]; exact q.2
  · rw [e]; exact q.1.off_new (Nat.le_refl _)

/-- What was there stays, but the row itself; the row lies where it was, or in memory of its own. -/
def Gr (w : World) (v v' : Value) (w' : World) : Prop := w.grownBy w' v.ownBlock ∧ (v'.ownBlock = v.ownBlock ∨ ∃ k, w.heap.size ≤ k ∧ v'.ownBlock = some k)

theorem Gr.refl (w : World) (v : Value) : Gr w v v w := ⟨⟨rfl, rfl, rfl, Nat.le_refl _, fun _ _ _ => rfl⟩, Or.inl rfl⟩

theorem Gr.trans {w w1 w2 : World} {v v1 v2 : Value} (h : Gr w v v1 w1) (k : Gr w1 v1 v2 w2) : Gr w v v2 w2 := by
  refine ⟨⟨k.1.os.trans h.1.os, k.1.tape.trans h.1.tape, k.1.output.trans h.1.output, Nat.le_trans h.1.size k.1.size, fun i hi hn => ?_⟩, ?_⟩
  · have := h.1.size
    refine (k.1.block i (by omega) ?_).trans (h.1.block i hi hn)
    rcases h.2 with e | ⟨b, hb, e⟩
    · rw [e]; exact hn
    · rw [e]; intro q; have := Option.some.inj q; omega
  · have := h.1.size
    rcases k.2 with e | ⟨b, hb, e⟩
    · rcases h.2 with e2 | ⟨b, hb, e2⟩
      · exact Or.inl (e.trans e2)
      · exact Or.inr ⟨b, hb, e.trans e2⟩
    · exact Or.inr ⟨b, by omega, e⟩

theorem Gr.stay {w w1 w2 : World} {v v1 : Value} (h : Gr w v v1 w1) (k : Below w1.heap.size w1 w2) : Gr w v v1 w2 :=
  h.trans ⟨⟨k.os, k.tape, k.output, k.size, fun i hi _ => k.block i hi⟩, Or.inl rfl⟩

theorem Gr.ahead {w w1 w2 : World} {v v1 : Value} (k : Below w.heap.size w w1) (h : Gr w1 v v1 w2) : Gr w v v1 w2 :=
  Gr.trans ⟨⟨k.os, k.tape, k.output, k.size, fun i hi _ => k.block i hi⟩, Or.inl rfl⟩ h

theorem Gr.bl {t : TypeId} {w w' : World} {v v' : Value} {b : Nat} {C : Array Value} (h : Gr w v v' w') (k : Bl t w b C) (hn : some b ≠ v.ownBlock) : Bl t w' b C := (h.1.block b k.lt hn).trans k

/-- The row itself lies above. -/
theorem Gr.low {w w' : World} {v v' : Value} {B : Nat} (h : Gr w v v' w') (hB : B ≤ w.heap.size) (ho : ∀ k, v.ownBlock = some k → B ≤ k) : Below B w w' := (Below.refl B w).grown h.1 hB ho

theorem wpList_append_p {w : World} {B : Nat} {v : Value} {ms : List Mt} {ad : Addr} {n c : Nat} (L2 : List Me) {ops : Array Oper} {rest : List Oper} {o : Oper} {a : Act} {Q : Exit → Act → World → Prop} (hgd : o.guard = none) (sl x : Operand)
    (ho : o.op = .call { callee := .builtin .append, args := #[sl, x], argTypes := #[22, 22] }) (hs : a.eval sl = v) (hx : a.eval x = .slice (some ad) n c) (hr : PRow B w v ms) (hn : L2.length = n)
    (hy : ∀ j u, (L2.flatMap mcells)[j]? = some u → w.cell? (ad.add j) = some u) (hp : ∀ e ∈ L2, MeIn w e ∧ MeOff v.ownBlock e) (hl : ms.length + n ≤ 100000) (hB2 : B ≤ w.heap.size)
    (hK : ∀ v' w', PRow B w' v' (ms ++ L2.map (·.m)) → Gr w v v' w' → wpList Tryd.prog ops Q rest (a.put o.dst v') w') : wpList Tryd.prog ops Q (o :: rest) a w := by
  obtain ⟨i0, hi, hz0, hz1, hz2⟩ := info_of_match
  obtain ⟨L, h1, h2, h3⟩ := hr
  subst hn
  have hl1 : L.length = ms.length := by rw [← h1, List.length_map]
  refine wpList_append_own_at w hgd sl x 22 ho B 43 i0 _ 4 64 Tryd.underlying22 hi hz0 hz1 hz2 rfl (by omega) v L.length (L.flatMap mcells) hs h2 ad L2.length c (L2.flatMap mcells) hx (mflat_len L2) hy (mcells_one L2) (by unfold maxLen; omega) (by omega) hB2 ?_
  intro v' w' k2 k3 k4 k5
  exact hK v' w' (prow_more L2 h1 h3 hp k2 k3 k5) ⟨k3, k5.imp_right fun q => ⟨_, Nat.le_refl _, q⟩⟩

theorem wp_append_p {w : World} {B : Nat} {v : Value} {ms : List Mt} {ad : Addr} {n c : Nat} (L2 : List Me) {o : Oper} {a : Act} {K : Act → World → Prop} {Q : Exit → Act → World → Prop} (sl x : Operand)
    (ho : o.op = .call { callee := .builtin .append, args := #[sl, x], argTypes := #[22, 22] }) (hs : a.eval sl = v) (hx : a.eval x = .slice (some ad) n c) (hr : PRow B w v ms) (hn : L2.length = n)
    (hy : ∀ j u, (L2.flatMap mcells)[j]? = some u → w.cell? (ad.add j) = some u) (hp : ∀ e ∈ L2, MeIn w e ∧ MeOff v.ownBlock e) (hl : ms.length + n ≤ 100000) (hB2 : B ≤ w.heap.size)
    (hK : ∀ v' w', PRow B w' v' (ms ++ L2.map (·.m)) → Gr w v v' w' → K (a.put o.dst v') w') : o.wp Tryd.prog a w K Q := by
  obtain ⟨i0, hi, hz0, hz1, hz2⟩ := info_of_match
  obtain ⟨L, h1, h2, h3⟩ := hr
  subst hn
  have hl1 : L.length = ms.length := by rw [← h1, List.length_map]
  obtain ⟨v', w', hrun, k2, k3, k4, k5⟩ := run_append_own_at (P := Tryd.prog) w B 22 o.type 43 i0 _ 4 64 Tryd.underlying22 hi hz0 hz1 hz2 rfl (by omega) v L.length (L.flatMap mcells) h2 ad L2.length c (L2.flatMap mcells) (mflat_len L2) hy (mcells_one L2) (by unfold maxLen; omega) (by omega) hB2
  unfold Oper.wp execOp
  simp only [ho, resolve, invoke, builtin, Sem.run_bind, Sem.run_pure, Result.andThen_ok, List.map_toArray, List.map_cons, List.map_nil, hs, hx, hrun]
  exact hK v' w' (prow_more L2 h1 h3 hp k2 k3 k5) ⟨k3, k5.imp_right fun q => ⟨_, Nat.le_refl _, q⟩⟩

end Go.Proofs.YtdkpdlkcloaoeaaDoor.Ru

namespace Go.Proofs.YtdkpdlkcloaoeaaDoor.Ru
open Go.RowKit Go.Deep

/-- A node of which only its Op says anything. -/
def litM (o : Int) : Mt := ⟨o, 0, [], []⟩

theorem lit_in (w : World) (o : Int) (h : -9223372036854775808 ≤ o ∧ o ≤ 9223372036854775807) : MeIn w ⟨litM o, none, 0, none, 0⟩ := ⟨⟨Nat.zero_le _, by simp [litM], fun s hs => by simp [litM] at hs, Or.inl rfl⟩, Bys.nil _ _ _, fun _ => rfl, ⟨h.1, h.2, by simp [litM], by simp [litM]⟩⟩

theorem lit_off (o : Option Nat) (k : Int) : MeOff o ⟨litM k, none, 0, none, 0⟩ := by refine ⟨?_, ?_⟩ <;> (intro a ha; simp at ha)

/-- Nodes that were just laid. -/
theorem cells_laid (L : List Me) (w : World) : ∀ j u, (L.flatMap mcells)[j]? = some u → (w.alloc (.cells (L.flatMap mcells).toArray 43)).cell? ((⟨w.heap.size, 0, none⟩ : Addr).add j) = some u := by
  intro j u hj
  rw [Go.WideShapes.add_plain, Nat.zero_add]
  exact (Bl.new 43 w (L.flatMap mcells).toArray).cell (by simpa using hj)

/-- What plain answers: the told ones, and some more. -/
def PlainP (B : Nat) (w : World) (v : Value) (ms : List Mt) (e : Ending) (w' : World) : Prop := ∃ v', e = .returned v' ∧ PRow B w' v' ms ∧ Gr w v v' w'

/-- What a call of plain answers. -/
def PlainC (tr : T) : Prop :=
  ∀ (n : Bool) (B : Nat) (P : Nat → Prop) (m : Mt) (y1 : Option Addr) (s1 : Nat) (z1 : Option Addr) (t1 : Nat) (x : Option Addr) (k c : Nat) (u w : World) (v : Value) (ms : List Mt), TIs u u P tr (tcells ⟨m, y1, s1, z1, t1⟩ x k c) → Below u.heap.size u w → u.heap.size ≤ B → B ≤ w.heap.size → wf tr → (∀ m ∈ flat tr, matchE m = 0) → PRow B w v ms → ms.length + (flat (pl tr n)).length ≤ 100000 →
    Calls Tryd.prog 21 #[.agg #[.int .i64 m.op, .int .i64 m.n, .slice y1 m.N.length s1, .slice z1 m.A.length t1, .slice x k c], v, .bool n] w (PlainP B w v (ms ++ flat (pl tr n)))

set_option maxHeartbeats 4000000 in
set_option maxRecDepth 100000 in
theorem plain_leaf (mm : Mt) : PlainC (.leaf mm) := by
  intro n B P m y1 s1 z1 t1 x k c u w v ms hT hu huB hB hw hE hr hl
  obtain ⟨e, x', c', rfl, he, hme⟩ := hT
  simp only [tcells, List.cons.injEq, and_true, Value.int.injEq, true_and, Value.slice.injEq] at he
  obtain ⟨e1, e2, ⟨rfl, e3, rfl⟩, ⟨rfl, e4, rfl⟩, rfl, rfl, rfl⟩ := he
  obtain ⟨⟨op, nn, N, A⟩, y1, s1, z1, t1⟩ := e
  simp only at *
  rw [e1, e2, e3, e4]
  clear e1 e2 e3 e4 m
  have hm0 : takes op = 0 := hw
  obtain ⟨d8, d9, d10⟩ := takes_none hm0
  have hm1 := hme.below hu
  have b1 := boxed 50 w #[.int .i64 op, .int .i64 nn, .slice y1 N.length s1, .slice z1 A.length t1, .slice x 0 c]
  have B2 := Bl.new 50 w #[.int .i64 op, .int .i64 nn, .slice y1 N.length s1, .slice z1 A.length t1, .slice x 0 c]
  obtain ⟨W1, hW⟩ : ∃ W1, w.alloc (.cells #[.int .i64 op, .int .i64 nn, .slice y1 N.length s1, .slice z1 A.length t1, .slice x 0 c] 50) = W1 := ⟨_, rfl⟩
  rw [hW] at b1 B2
  have HW := hid hW
  have R1 := hid (hr.stay b1)
  have G1 := hid (Gr.ahead b1 (Gr.refl W1 v))
  have F := hid (fmatch_any ⟨op, nn, N, A⟩ W1 (hm1.below b1).1 (hm1.below b1).2.1)
  have NUM := hid hm1.2.2.2
  have BS := hid hB
  obtain ⟨m0, m1, m2, m3, m4⟩ := bl5 B2
  clear hE hw hme hm1 hu b1 B2 hW hm0 hr
  cases n with
  | false =>
    have hl2 : ms.length + 1 ≤ 100000 := hl
    clear hl
    go_enter Tryd.func21, Tryd.ntmps21
    go_upto_region 1 with fail
    rw [HW.out]
    clear HW
    go_wp2_with fail
    go_loopw [1, 24] (fun vt vi wr => v = vt ∧ vi = .int .i64 0 ∧ W1 = wr) (fun _ _ _ => 0)
    case atStart => exact ⟨rfl, rfl, rfl⟩
    case round =>
      obtain ⟨rfl, rfl, rfl⟩ := hrel
      go_wp2_with fail
      refine F.out.mono ?_
      rintro e w2 ⟨y, s, z, t, rfl, hS, hD, hz, b2, f1, f2⟩
      have ME : MeIn w2 ⟨⟨op, nn, N, A⟩, y, s, z, t⟩ := ⟨hS, hD, hz, NUM.out⟩
      have OF : MeOff v.ownBlock ⟨⟨op, nn, N, A⟩, y, s, z, t⟩ := meOff_above (n := W1.heap.size) f1 f2 (fun k hk => (R1.out.own k hk).2)
      have R2 := R1.out.stay b2
      have G2 := G1.out.stay b2
      have b3 := boxed 43 w2 ([(⟨⟨op, nn, N, A⟩, y, s, z, t⟩ : Me)].flatMap mcells).toArray
      have Q3 := hid (cells_laid [(⟨⟨op, nn, N, A⟩, y, s, z, t⟩ : Me)] w2)
      have R3 := hid (R2.stay b3)
      have G3 := hid (G2.stay b3)
      have SZ : Hid (B ≤ (w2.alloc (.cells ([(⟨⟨op, nn, N, A⟩, y, s, z, t⟩ : Me)].flatMap mcells).toArray 43)).heap.size) := hid (by have := BS.out; have := G3.out.1.size; omega)
      have P3 : Hid (∀ e ∈ [(⟨⟨op, nn, N, A⟩, y, s, z, t⟩ : Me)], MeIn (w2.alloc (.cells ([(⟨⟨op, nn, N, A⟩, y, s, z, t⟩ : Me)].flatMap mcells).toArray 43)) e ∧ MeOff v.ownBlock e) := hid (fun e he => by rw [List.mem_singleton.1 he]; exact ⟨ME.below b3, OF⟩)
      clear ME OF hS hD hz b2 f1 f2 b3 R2 G2
      go_wp2_with (at_builtin; refine wpList_append_p [(⟨⟨op, nn, N, A⟩, y, s, z, t⟩ : Me)] rfl _ _ rfl rfl rfl R3.out rfl Q3.out P3.out (by omega) SZ.out ?_; intro v5 w5 r5 g5)
      have R5 := hid r5
      have G5 := hid (G3.out.trans g5)
      clear r5 g5 R3 G3 Q3 P3
      go_ret
      exact ⟨_, rfl, R5.out, G5.out⟩
  | true =>
    have hl2 : ms.length + 2 ≤ 100000 := hl
    clear hl
    go_enter Tryd.func21, Tryd.ntmps21
    go_upto_region 1 with fail
    rw [HW.out]
    clear HW
    go_wp2_with fail
    go_loopw [1, 24] (fun vt vi wr => v = vt ∧ vi = .int .i64 0 ∧ W1 = wr) (fun _ _ _ => 0)
    case atStart => exact ⟨rfl, rfl, rfl⟩
    case round =>
      obtain ⟨rfl, rfl, rfl⟩ := hrel
      go_wp2_with fail
      refine F.out.mono ?_
      rintro e w2 ⟨y, s, z, t, rfl, hS, hD, hz, b2, f1, f2⟩
      have ME : MeIn w2 ⟨⟨op, nn, N, A⟩, y, s, z, t⟩ := ⟨hS, hD, hz, NUM.out⟩
      have OF : MeOff v.ownBlock ⟨⟨op, nn, N, A⟩, y, s, z, t⟩ := meOff_above (n := W1.heap.size) f1 f2 (fun k hk => (R1.out.own k hk).2)
      have R2 := R1.out.stay b2
      have G2 := G1.out.stay b2
      have b3 := boxed 43 w2 ([(⟨⟨op, nn, N, A⟩, y, s, z, t⟩ : Me), ⟨litM 8, none, 0, none, 0⟩].flatMap mcells).toArray
      have Q3 := hid (cells_laid [(⟨⟨op, nn, N, A⟩, y, s, z, t⟩ : Me), ⟨litM 8, none, 0, none, 0⟩] w2)
      have R3 := hid (R2.stay b3)
      have G3 := hid (G2.stay b3)
      have SZ : Hid (B ≤ (w2.alloc (.cells ([(⟨⟨op, nn, N, A⟩, y, s, z, t⟩ : Me), ⟨litM 8, none, 0, none, 0⟩].flatMap mcells).toArray 43)).heap.size) := hid (by have := BS.out; have := G3.out.1.size; omega)
      have P3 : Hid (∀ e ∈ [(⟨⟨op, nn, N, A⟩, y, s, z, t⟩ : Me), ⟨litM 8, none, 0, none, 0⟩], MeIn (w2.alloc (.cells ([(⟨⟨op, nn, N, A⟩, y, s, z, t⟩ : Me), ⟨litM 8, none, 0, none, 0⟩].flatMap mcells).toArray 43)) e ∧ MeOff v.ownBlock e) := hid (fun e he => by
        rcases List.mem_cons.1 he with rfl | he
        · exact ⟨ME.below b3, OF⟩
        · rw [List.mem_singleton.1 he]; exact ⟨lit_in _ _ (by decide), lit_off _ _⟩)
      clear ME OF hS hD hz b2 f1 f2 b3 R2 G2
      go_wp2_with (at_builtin; refine wpList_append_p [(⟨⟨op, nn, N, A⟩, y, s, z, t⟩ : Me), ⟨litM 8, none, 0, none, 0⟩] rfl _ _ rfl rfl rfl R3.out rfl Q3.out P3.out (by omega) SZ.out ?_; intro v5 w5 r5 g5)
      have R5 := hid r5
      have G5 := hid (G3.out.trans g5)
      clear r5 g5 R3 G3 Q3 P3
      go_ret
      exact ⟨_, rfl, R5.out, G5.out⟩

set_option maxHeartbeats 4000000 in
set_option maxRecDepth 100000 in
theorem plain_one (mm : Mt) (a : T) (ih : PlainC a) : PlainC (.one mm a) := by
  intro n B P m y1 s1 z1 t1 x k c u w v ms hT hu huB hB hw hE hr hl
  obtain ⟨e, g, c', ca, rfl, he, hme, hg, hPg, hc, hcs, ha⟩ := hT
  obtain ⟨ea, xa, na, cA, rfl⟩ := ha.form
  simp only [tcells, List.cons.injEq, and_true, Value.int.injEq, true_and, Value.slice.injEq] at he
  obtain ⟨e1, e2, ⟨rfl, e3, rfl⟩, ⟨rfl, e4, rfl⟩, rfl, rfl, rfl⟩ := he
  obtain ⟨⟨op, nn, N, A⟩, y1, s1, z1, t1⟩ := e
  obtain ⟨ma, ya, sa, za, ta⟩ := ea
  simp only at *
  have h8 : op = 8 := takes_one hw.1
  subst h8
  rw [e1, e2, e3, e4]
  clear e1 e2 e3 e4 m hme
  have b1 := boxed 50 w #[.int .i64 8, .int .i64 nn, .slice y1 N.length s1, .slice z1 A.length t1, .slice (some ⟨g, 0, none⟩) 1 c]
  have B2 := Bl.new 50 w #[.int .i64 8, .int .i64 nn, .slice y1 N.length s1, .slice z1 A.length t1, .slice (some ⟨g, 0, none⟩) 1 c]
  obtain ⟨W1, hW⟩ : ∃ W1, w.alloc (.cells #[.int .i64 8, .int .i64 nn, .slice y1 N.length s1, .slice z1 A.length t1, .slice (some ⟨g, 0, none⟩) 1 c] 50) = W1 := ⟨_, rfl⟩
  rw [hW] at b1 B2
  have HW := hid hW
  have UU := hu.trans (b1.mono hu.size)
  have CC := hid (ih (!n) B P ma ya sa za ta xa na cA u W1 v ms ha UU huB (Nat.le_trans hB b1.size) hw.2 (fun m hm => hE m (by unfold flat; exact List.mem_append_left _ hm)) (hr.stay b1) hl)
  have BB := hid b1
  have j0 := (UU.cell (p := ⟨g, 0, none⟩) hg).trans (hcs 0 _ rfl)
  have j1 := (UU.cell (p := ⟨g, 1, none⟩) hg).trans (hcs 1 _ rfl)
  have j2 := (UU.cell (p := ⟨g, 2, none⟩) hg).trans (hcs 2 _ rfl)
  have j3 := (UU.cell (p := ⟨g, 3, none⟩) hg).trans (hcs 3 _ rfl)
  have j4 := (UU.cell (p := ⟨g, 4, none⟩) hg).trans (hcs 4 _ rfl)
  obtain ⟨m0, m1, m2, m3, m4⟩ := bl5 B2
  clear hE hw hu b1 B2 hW hr hl UU hcs ha ih
  go_enter Tryd.func21, Tryd.ntmps21
  go_upto_region 1 with fail
  rw [HW.out]
  clear HW
  go_wp2_with fail
  refine CC.out.mono ?_
  rintro e w2 ⟨v2, rfl, r2, g2⟩
  have R2 := hid r2
  have G2 := hid (Gr.ahead BB.out g2)
  clear r2 g2 CC
  go_wp2_with fail
  go_ret
  exact ⟨_, rfl, R2.out, G2.out⟩

theorem flip_lit {m : Mt} (h : m.op = 9 ∨ m.op = 10) (k : matchE m = 0) : flip m = litM (19 - m.op) := by
  obtain ⟨o, n, N, A⟩ := m
  simp only at h
  unfold matchE at k
  simp only at k
  rw [if_neg (by omega)] at k
  have h4 : n = 0 ∧ N = [] ∧ A = [] := by
    by_cases q : (¬ (o = 3 ∨ o = 4 ∨ o = 5 ∨ o = 7) ∧ ¬ n = 0) ∨ (¬ o = 2 ∧ 0 < N.length) ∨ (¬ o = 7 ∧ 0 < A.length)
    · rw [if_pos q] at k; cases k
    · refine ⟨by omega, List.length_eq_zero_iff.1 (by omega), List.length_eq_zero_iff.1 (by omega)⟩
  obtain ⟨rfl, rfl, rfl⟩ := h4
  unfold flip litM
  rcases h with rfl | rfl <;> simp

/-- What is told so far. -/
def PlRel (B : Nat) (ms fa fb : List Mt) (W1 : World) (v vt vi : Value) (wr : World) : Prop :=
  (vi = .int .i64 0 ∧ PRow B wr vt ms ∧ Gr W1 v vt wr) ∨ (vi = .int .i64 1 ∧ PRow B wr vt (ms ++ fa) ∧ Gr W1 v vt wr) ∨ (vi = .int .i64 2 ∧ PRow B wr vt (ms ++ fa ++ fb) ∧ Gr W1 v vt wr)

set_option maxHeartbeats 4000000 in
set_option maxRecDepth 100000 in
theorem plain_and (mm : Mt) (a b : T) (h9 : mm.op = 9) (ia : PlainC a) (ib : PlainC b) : PlainC (.two mm a b) := by
  intro n B P m y1 s1 z1 t1 x k c u w v ms hT hu huB hB hw hE hr hl
  obtain ⟨e, g, c', ca, cb, rfl, he, hme, hg, hPg, hc, hcs, ha, hb⟩ := hT
  obtain ⟨ea, xa, na, cA, rfl⟩ := ha.form
  obtain ⟨eb, xb, nb, cB, rfl⟩ := hb.form
  simp only [tcells, List.cons.injEq, and_true, Value.int.injEq, true_and, Value.slice.injEq] at he
  obtain ⟨e1, e2, ⟨rfl, e3, rfl⟩, ⟨rfl, e4, rfl⟩, rfl, rfl, rfl⟩ := he
  obtain ⟨⟨op, nn, N, A⟩, y1, s1, z1, t1⟩ := e
  obtain ⟨ma, ya, sa, za, ta⟩ := ea
  obtain ⟨mb, yb, sb, zb, tb⟩ := eb
  simp only at *
  subst h9
  rw [e1, e2, e3, e4]
  clear e1 e2 e3 e4 m
  have hme0 : matchE ⟨9, nn, N, A⟩ = 0 := hE _ (by unfold flat; exact List.mem_append_right _ List.mem_cons_self)
  have FL := hid (flip_lit (m := ⟨9, nn, N, A⟩) (by simp) hme0)
  have EF : Hid (flat (pl (.two ⟨9, nn, N, A⟩ a b) n) = flat (pl a n) ++ flat (pl b n) ++ [if n then flip ⟨9, nn, N, A⟩ else ⟨9, nn, N, A⟩]) := hid rfl
  obtain ⟨fa, hfa⟩ : ∃ fa, flat (pl a n) = fa := ⟨_, rfl⟩
  obtain ⟨fb, hfb⟩ : ∃ fb, flat (pl b n) = fb := ⟨_, rfl⟩
  rw [hfa, hfb] at EF
  rw [EF.out] at hl ⊢
  clear EF
  obtain ⟨mr, hmr⟩ : ∃ mr, ms ++ (fa ++ fb ++ [if n then flip ⟨9, nn, N, A⟩ else ⟨9, nn, N, A⟩]) = mr := ⟨_, rfl⟩
  rw [hmr]
  have HM : Hid (ms ++ fa ++ fb ++ [if n then flip ⟨9, nn, N, A⟩ else ⟨9, nn, N, A⟩] = mr) := hid (by rw [← hmr]; simp)
  clear hmr
  have hl2 : ms.length + fa.length + fb.length + 1 ≤ 100000 := by simp only [List.length_append, List.length_singleton] at hl; omega
  have CA := hid (fun (wx : World) (vx : Value) (hx : Below u.heap.size u wx) (hBx : B ≤ wx.heap.size) (hrx : PRow B wx vx ms) => ia n B P ma ya sa za ta xa na cA u wx vx ms ha hx huB hBx hw.2.1 (fun m hm => hE m (by unfold flat; exact List.mem_append_left _ (List.mem_append_left _ hm))) hrx (by rw [hfa]; omega))
  have CB := hid (fun (wx : World) (vx : Value) (hx : Below u.heap.size u wx) (hBx : B ≤ wx.heap.size) (hrx : PRow B wx vx (ms ++ fa)) => ib n B P mb yb sb zb tb xb nb cB u wx vx (ms ++ fa) hb hx huB hBx hw.2.2 (fun m hm => hE m (by unfold flat; exact List.mem_append_left _ (List.mem_append_right _ hm))) hrx (by rw [hfb, List.length_append]; omega))
  rw [hfa] at CA
  rw [hfb] at CB
  have b1 := boxed 50 w #[.int .i64 9, .int .i64 nn, .slice y1 N.length s1, .slice z1 A.length t1, .slice (some ⟨g, 0, none⟩) 2 c]
  have B2 := Bl.new 50 w #[.int .i64 9, .int .i64 nn, .slice y1 N.length s1, .slice z1 A.length t1, .slice (some ⟨g, 0, none⟩) 2 c]
  obtain ⟨W1, hW⟩ : ∃ W1, w.alloc (.cells #[.int .i64 9, .int .i64 nn, .slice y1 N.length s1, .slice z1 A.length t1, .slice (some ⟨g, 0, none⟩) 2 c] 50) = W1 := ⟨_, rfl⟩
  rw [hW] at b1 B2
  have HW := hid hW
  have UU := hid (hu.trans (b1.mono hu.size))
  have R1 := hr.stay b1
  have BW := hid b1
  have HG := hid hg
  have HO := hid hr.own
  have HUB := hid huB
  have BS := hid (Nat.le_trans hB b1.size)
  have KB := hid B2
  have ME0 := hid hme
  have NUM := hid hme.2.2.2
  have BK := hid (fun (wr : World) (vt : Value) (h : Gr W1 v vt wr) => ((UU.out.trans ((h.low BS.out (fun k hk => (hr.own k hk).1)).mono huB) : Below u.heap.size u wr)))
  have j0 := hcs 0 _ rfl
  have j1 := hcs 1 _ rfl
  have j2 := hcs 2 _ rfl
  have j3 := hcs 3 _ rfl
  have j4 := hcs 4 _ rfl
  have j5 := hcs 5 _ rfl
  have j6 := hcs 6 _ rfl
  have j7 := hcs 7 _ rfl
  have j8 := hcs 8 _ rfl
  have j9 := hcs 9 _ rfl
  obtain ⟨m0, m1, m2, m3, m4⟩ := bl5 B2
  clear hE hw hu b1 B2 hW hr hl hcs ha hb ia ib hme hme0
  go_enter Tryd.func21, Tryd.ntmps21
  go_upto_region 1 with fail
  rw [HW.out]
  clear HW
  go_wp2_with fail
  go_loopw [1, 24] (fun vt vi wr => PlRel B ms fa fb W1 v vt vi wr) (fun _ i _ => 2 - (intOf i).toNat)
  case atStart => exact Or.inl ⟨rfl, R1, Gr.refl _ _⟩
  case round =>
    clear R1 m0 m1 m2 m3 m4
    rcases hrel with ⟨rfl, hrow, hgr⟩ | ⟨rfl, hrow, hgr⟩ | ⟨rfl, hrow, hgr⟩
    · have UR := BK.out _ _ hgr
      have i0 := (UR.cell (p := ⟨g, 0, none⟩) HG.out).trans j0
      have i1 := (UR.cell (p := ⟨g, 1, none⟩) HG.out).trans j1
      have i2 := (UR.cell (p := ⟨g, 2, none⟩) HG.out).trans j2
      have i3 := (UR.cell (p := ⟨g, 3, none⟩) HG.out).trans j3
      have i4 := (UR.cell (p := ⟨g, 4, none⟩) HG.out).trans j4
      have b2 := boxed 50 wr #[.int .i64 ma.op, .int .i64 ma.n, .slice ya ma.N.length sa, .slice za ma.A.length ta, .slice xa na cA]
      have K2 := Bl.new 50 wr #[.int .i64 ma.op, .int .i64 ma.n, .slice ya ma.N.length sa, .slice za ma.A.length ta, .slice xa na cA]
      obtain ⟨W2, hW2⟩ : ∃ W2, wr.alloc (.cells #[.int .i64 ma.op, .int .i64 ma.n, .slice ya ma.N.length sa, .slice za ma.A.length ta, .slice xa na cA] 50) = W2 := ⟨_, rfl⟩
      rw [hW2] at b2 K2
      have HW2 := hid hW2
      have CX := hid (CA.out W2 _ (UR.trans (b2.mono UR.size)) (by have := hgr.1.size; have := b2.size; have := BS.out; omega) (hrow.stay b2))
      have G1 := hid (hgr.stay b2)
      obtain ⟨n0, n1, n2, n3, n4⟩ := bl5 K2
      clear UR b2 K2 hW2 hgr hrow j0 j1 j2 j3 j4 j5 j6 j7 j8 j9 CA CB
      go_upto_region 6 with fail
      rw [HW2.out]
      clear HW2 i0 i1 i2 i3 i4
      go_wp2_with fail
      refine CX.out.mono ?_
      rintro e w2 ⟨v2, rfl, r2, g2⟩
      have R2 := hid r2
      have G2 := hid (G1.out.trans g2)
      clear r2 g2 CX G1 n0 n1 n2 n3 n4
      go_wp2_with fail
      exact ⟨Or.inr (Or.inl ⟨rfl, R2.out, G2.out⟩), by simp [intOf]⟩
    · have UR := BK.out _ _ hgr
      have i0 := (UR.cell (p := ⟨g, 5, none⟩) HG.out).trans j5
      have i1 := (UR.cell (p := ⟨g, 6, none⟩) HG.out).trans j6
      have i2 := (UR.cell (p := ⟨g, 7, none⟩) HG.out).trans j7
      have i3 := (UR.cell (p := ⟨g, 8, none⟩) HG.out).trans j8
      have i4 := (UR.cell (p := ⟨g, 9, none⟩) HG.out).trans j9
      have b2 := boxed 50 wr #[.int .i64 mb.op, .int .i64 mb.n, .slice yb mb.N.length sb, .slice zb mb.A.length tb, .slice xb nb cB]
      have K2 := Bl.new 50 wr #[.int .i64 mb.op, .int .i64 mb.n, .slice yb mb.N.length sb, .slice zb mb.A.length tb, .slice xb nb cB]
      obtain ⟨W2, hW2⟩ : ∃ W2, wr.alloc (.cells #[.int .i64 mb.op, .int .i64 mb.n, .slice yb mb.N.length sb, .slice zb mb.A.length tb, .slice xb nb cB] 50) = W2 := ⟨_, rfl⟩
      rw [hW2] at b2 K2
      have HW2 := hid hW2
      have CX := hid (CB.out W2 _ (UR.trans (b2.mono UR.size)) (by have := hgr.1.size; have := b2.size; have := BS.out; omega) (hrow.stay b2))
      have G1 := hid (hgr.stay b2)
      obtain ⟨n0, n1, n2, n3, n4⟩ := bl5 K2
      clear UR b2 K2 hW2 hgr hrow j0 j1 j2 j3 j4 j5 j6 j7 j8 j9 CA CB
      go_upto_region 6 with fail
      rw [HW2.out]
      clear HW2 i0 i1 i2 i3 i4
      go_wp2_with fail
      refine CX.out.mono ?_
      rintro e w2 ⟨v2, rfl, r2, g2⟩
      have R2 := hid r2
      have G2 := hid (G1.out.trans g2)
      clear r2 g2 CX G1 n0 n1 n2 n3 n4
      go_wp2_with fail
      exact ⟨Or.inr (Or.inr ⟨rfl, R2.out, G2.out⟩), by simp [intOf]⟩
    · have hne : some w.heap.size ≠ v.ownBlock := fun q => by have := (HO.out _ q.symm).2; omega
      have K1 := hid (hgr.bl KB.out hne)
      have R1 := hid hrow
      have G1 := hid (Gr.ahead BW.out hgr)
      have UR := BK.out _ _ hgr
      have F := hid (fmatch_any ⟨9, nn, N, A⟩ wr (ME0.out.below UR).1 (ME0.out.below UR).2.1)
      replace BS : Hid (B ≤ wr.heap.size) := hid (by have := hgr.1.size; have := BS.out; omega)
      obtain ⟨m0, m1, m2, m3, m4⟩ := bl5 K1.out
      have hll : (ms ++ fa ++ fb).length + 1 ≤ 100000 := by simp only [List.length_append]; omega
      clear hgr hrow UR hne j0 j1 j2 j3 j4 j5 j6 j7 j8 j9 CA CB hl2
      generalize ms ++ fa ++ fb = mz at *
      cases n with
      | false =>
        replace HM : Hid (mz ++ [(⟨9, nn, N, A⟩ : Mt)] = mr) := hid HM.out
        go_wp2_with fail
        refine F.out.mono ?_
        rintro e w2 ⟨y, s, z, t, rfl, hS, hD, hz, b2, f1, f2⟩
        have ME : MeIn w2 ⟨⟨9, nn, N, A⟩, y, s, z, t⟩ := ⟨hS, hD, hz, NUM.out⟩
        have OF : MeOff u1.ownBlock ⟨⟨9, nn, N, A⟩, y, s, z, t⟩ := meOff_above (n := wr.heap.size) f1 f2 (fun k hk => (R1.out.own k hk).2)
        have R2 := R1.out.stay b2
        have G2 := G1.out.stay b2
        have b3 := boxed 43 w2 ([(⟨⟨9, nn, N, A⟩, y, s, z, t⟩ : Me)].flatMap mcells).toArray
        have Q3 := hid (cells_laid [(⟨⟨9, nn, N, A⟩, y, s, z, t⟩ : Me)] w2)
        have R3 := hid (R2.stay b3)
        have G3 := hid (G2.stay b3)
        have SZ : Hid (B ≤ (w2.alloc (.cells ([(⟨⟨9, nn, N, A⟩, y, s, z, t⟩ : Me)].flatMap mcells).toArray 43)).heap.size) := hid (by have := BS.out; have := G3.out.1.size; omega)
        have P3 : Hid (∀ e ∈ [(⟨⟨9, nn, N, A⟩, y, s, z, t⟩ : Me)], MeIn (w2.alloc (.cells ([(⟨⟨9, nn, N, A⟩, y, s, z, t⟩ : Me)].flatMap mcells).toArray 43)) e ∧ MeOff u1.ownBlock e) := hid (fun e he => by rw [List.mem_singleton.1 he]; exact ⟨ME.below b3, OF⟩)
        clear ME OF hS hD hz b2 f1 f2 b3 R2 G2
        go_wp2_with (at_builtin; refine wpList_append_p [(⟨⟨9, nn, N, A⟩, y, s, z, t⟩ : Me)] rfl _ _ rfl rfl rfl R3.out rfl Q3.out P3.out (by omega) SZ.out ?_; intro v5 w5 r5 g5)
        have R5 := hid r5
        have G5 := hid (G3.out.trans g5)
        clear r5 g5 R3 G3 Q3 P3
        go_ret
        refine ⟨_, rfl, ?_, G5.out⟩
        rw [← HM.out]
        exact R5.out
      | true =>
        replace HM : Hid (mz ++ [litM 10] = mr) := hid (by have h := HM.out; rw [if_pos rfl, FL.out] at h; exact h)
        clear F FL
        have R2 := R1.out
        have G2 := G1.out
        have b3 := boxed 43 wr ([(⟨litM 10, none, 0, none, 0⟩ : Me)].flatMap mcells).toArray
        have Q3 := hid (cells_laid [(⟨litM 10, none, 0, none, 0⟩ : Me)] wr)
        have R3 := hid (R2.stay b3)
        have G3 := hid (G2.stay b3)
        have SZ : Hid (B ≤ (wr.alloc (.cells ([(⟨litM 10, none, 0, none, 0⟩ : Me)].flatMap mcells).toArray 43)).heap.size) := hid (by have := BS.out; have := G3.out.1.size; omega)
        have P3 : Hid (∀ e ∈ [(⟨litM 10, none, 0, none, 0⟩ : Me)], MeIn (wr.alloc (.cells ([(⟨litM 10, none, 0, none, 0⟩ : Me)].flatMap mcells).toArray 43)) e ∧ MeOff u1.ownBlock e) := hid (fun e he => by rw [List.mem_singleton.1 he]; exact ⟨lit_in _ _ (by decide), lit_off _ _⟩)
        clear  b3 R2 G2
        go_wp2_with (at_builtin; refine wpList_append_p [(⟨litM 10, none, 0, none, 0⟩ : Me)] rfl _ _ rfl rfl rfl R3.out rfl Q3.out P3.out (by omega) SZ.out ?_; intro v5 w5 r5 g5)
        have R5 := hid r5
        have G5 := hid (G3.out.trans g5)
        clear r5 g5 R3 G3 Q3 P3
        go_ret
        refine ⟨_, rfl, ?_, G5.out⟩
        rw [← HM.out]
        exact R5.out
set_option maxHeartbeats 4000000 in
set_option maxRecDepth 100000 in
theorem plain_or (mm : Mt) (a b : T) (h9 : mm.op = 10) (ia : PlainC a) (ib : PlainC b) : PlainC (.two mm a b) := by
  intro n B P m y1 s1 z1 t1 x k c u w v ms hT hu huB hB hw hE hr hl
  obtain ⟨e, g, c', ca, cb, rfl, he, hme, hg, hPg, hc, hcs, ha, hb⟩ := hT
  obtain ⟨ea, xa, na, cA, rfl⟩ := ha.form
  obtain ⟨eb, xb, nb, cB, rfl⟩ := hb.form
  simp only [tcells, List.cons.injEq, and_true, Value.int.injEq, true_and, Value.slice.injEq] at he
  obtain ⟨e1, e2, ⟨rfl, e3, rfl⟩, ⟨rfl, e4, rfl⟩, rfl, rfl, rfl⟩ := he
  obtain ⟨⟨op, nn, N, A⟩, y1, s1, z1, t1⟩ := e
  obtain ⟨ma, ya, sa, za, ta⟩ := ea
  obtain ⟨mb, yb, sb, zb, tb⟩ := eb
  simp only at *
  subst h9
  rw [e1, e2, e3, e4]
  clear e1 e2 e3 e4 m
  have hme0 : matchE ⟨10, nn, N, A⟩ = 0 := hE _ (by unfold flat; exact List.mem_append_right _ List.mem_cons_self)
  have FL := hid (flip_lit (m := ⟨10, nn, N, A⟩) (by simp) hme0)
  have EF : Hid (flat (pl (.two ⟨10, nn, N, A⟩ a b) n) = flat (pl a n) ++ flat (pl b n) ++ [if n then flip ⟨10, nn, N, A⟩ else ⟨10, nn, N, A⟩]) := hid rfl
  obtain ⟨fa, hfa⟩ : ∃ fa, flat (pl a n) = fa := ⟨_, rfl⟩
  obtain ⟨fb, hfb⟩ : ∃ fb, flat (pl b n) = fb := ⟨_, rfl⟩
  rw [hfa, hfb] at EF
  rw [EF.out] at hl ⊢
  clear EF
  obtain ⟨mr, hmr⟩ : ∃ mr, ms ++ (fa ++ fb ++ [if n then flip ⟨10, nn, N, A⟩ else ⟨10, nn, N, A⟩]) = mr := ⟨_, rfl⟩
  rw [hmr]
  have HM : Hid (ms ++ fa ++ fb ++ [if n then flip ⟨10, nn, N, A⟩ else ⟨10, nn, N, A⟩] = mr) := hid (by rw [← hmr]; simp)
  clear hmr
  have hl2 : ms.length + fa.length + fb.length + 1 ≤ 100000 := by simp only [List.length_append, List.length_singleton] at hl; omega
  have CA := hid (fun (wx : World) (vx : Value) (hx : Below u.heap.size u wx) (hBx : B ≤ wx.heap.size) (hrx : PRow B wx vx ms) => ia n B P ma ya sa za ta xa na cA u wx vx ms ha hx huB hBx hw.2.1 (fun m hm => hE m (by unfold flat; exact List.mem_append_left _ (List.mem_append_left _ hm))) hrx (by rw [hfa]; omega))
  have CB := hid (fun (wx : World) (vx : Value) (hx : Below u.heap.size u wx) (hBx : B ≤ wx.heap.size) (hrx : PRow B wx vx (ms ++ fa)) => ib n B P mb yb sb zb tb xb nb cB u wx vx (ms ++ fa) hb hx huB hBx hw.2.2 (fun m hm => hE m (by unfold flat; exact List.mem_append_left _ (List.mem_append_right _ hm))) hrx (by rw [hfb, List.length_append]; omega))
  rw [hfa] at CA
  rw [hfb] at CB
  have b1 := boxed 50 w #[.int .i64 10, .int .i64 nn, .slice y1 N.length s1, .slice z1 A.length t1, .slice (some ⟨g, 0, none⟩) 2 c]
  have B2 := Bl.new 50 w #[.int .i64 10, .int .i64 nn, .slice y1 N.length s1, .slice z1 A.length t1, .slice (some ⟨g, 0, none⟩) 2 c]
  obtain ⟨W1, hW⟩ : ∃ W1, w.alloc (.cells #[.int .i64 10, .int .i64 nn, .slice y1 N.length s1, .slice z1 A.length t1, .slice (some ⟨g, 0, none⟩) 2 c] 50) = W1 := ⟨_, rfl⟩
  rw [hW] at b1 B2
  have HW := hid hW
  have UU := hid (hu.trans (b1.mono hu.size))
  have R1 := hr.stay b1
  have BW := hid b1
  have HG := hid hg
  have HO := hid hr.own
  have HUB := hid huB
  have BS := hid (Nat.le_trans hB b1.size)
  have KB := hid B2
  have ME0 := hid hme
  have NUM := hid hme.2.2.2
  have BK := hid (fun (wr : World) (vt : Value) (h : Gr W1 v vt wr) => ((UU.out.trans ((h.low BS.out (fun k hk => (hr.own k hk).1)).mono huB) : Below u.heap.size u wr)))
  have j0 := hcs 0 _ rfl
  have j1 := hcs 1 _ rfl
  have j2 := hcs 2 _ rfl
  have j3 := hcs 3 _ rfl
  have j4 := hcs 4 _ rfl
  have j5 := hcs 5 _ rfl
  have j6 := hcs 6 _ rfl
  have j7 := hcs 7 _ rfl
  have j8 := hcs 8 _ rfl
  have j9 := hcs 9 _ rfl
  obtain ⟨m0, m1, m2, m3, m4⟩ := bl5 B2
  clear hE hw hu b1 B2 hW hr hl hcs ha hb ia ib hme hme0
  go_enter Tryd.func21, Tryd.ntmps21
  go_upto_region 1 with fail
  rw [HW.out]
  clear HW
  go_wp2_with fail
  go_loopw [1, 24] (fun vt vi wr => PlRel B ms fa fb W1 v vt vi wr) (fun _ i _ => 2 - (intOf i).toNat)
  case atStart => exact Or.inl ⟨rfl, R1, Gr.refl _ _⟩
  case round =>
    clear R1 m0 m1 m2 m3 m4
    rcases hrel with ⟨rfl, hrow, hgr⟩ | ⟨rfl, hrow, hgr⟩ | ⟨rfl, hrow, hgr⟩
    · have UR := BK.out _ _ hgr
      have i0 := (UR.cell (p := ⟨g, 0, none⟩) HG.out).trans j0
      have i1 := (UR.cell (p := ⟨g, 1, none⟩) HG.out).trans j1
      have i2 := (UR.cell (p := ⟨g, 2, none⟩) HG.out).trans j2
      have i3 := (UR.cell (p := ⟨g, 3, none⟩) HG.out).trans j3
      have i4 := (UR.cell (p := ⟨g, 4, none⟩) HG.out).trans j4
      have b2 := boxed 50 wr #[.int .i64 ma.op, .int .i64 ma.n, .slice ya ma.N.length sa, .slice za ma.A.length ta, .slice xa na cA]
      have K2 := Bl.new 50 wr #[.int .i64 ma.op, .int .i64 ma.n, .slice ya ma.N.length sa, .slice za ma.A.length ta, .slice xa na cA]
      obtain ⟨W2, hW2⟩ : ∃ W2, wr.alloc (.cells #[.int .i64 ma.op, .int .i64 ma.n, .slice ya ma.N.length sa, .slice za ma.A.length ta, .slice xa na cA] 50) = W2 := ⟨_, rfl⟩
      rw [hW2] at b2 K2
      have HW2 := hid hW2
      have CX := hid (CA.out W2 _ (UR.trans (b2.mono UR.size)) (by have := hgr.1.size; have := b2.size; have := BS.out; omega) (hrow.stay b2))
      have G1 := hid (hgr.stay b2)
      obtain ⟨n0, n1, n2, n3, n4⟩ := bl5 K2
      clear UR b2 K2 hW2 hgr hrow j0 j1 j2 j3 j4 j5 j6 j7 j8 j9 CA CB
      go_upto_region 6 with fail
      rw [HW2.out]
      clear HW2 i0 i1 i2 i3 i4
      go_wp2_with fail
      refine CX.out.mono ?_
      rintro e w2 ⟨v2, rfl, r2, g2⟩
      have R2 := hid r2
      have G2 := hid (G1.out.trans g2)
      clear r2 g2 CX G1 n0 n1 n2 n3 n4
      go_wp2_with fail
      exact ⟨Or.inr (Or.inl ⟨rfl, R2.out, G2.out⟩), by simp [intOf]⟩
    · have UR := BK.out _ _ hgr
      have i0 := (UR.cell (p := ⟨g, 5, none⟩) HG.out).trans j5
      have i1 := (UR.cell (p := ⟨g, 6, none⟩) HG.out).trans j6
      have i2 := (UR.cell (p := ⟨g, 7, none⟩) HG.out).trans j7
      have i3 := (UR.cell (p := ⟨g, 8, none⟩) HG.out).trans j8
      have i4 := (UR.cell (p := ⟨g, 9, none⟩) HG.out).trans j9
      have b2 := boxed 50 wr #[.int .i64 mb.op, .int .i64 mb.n, .slice yb mb.N.length sb, .slice zb mb.A.length tb, .slice xb nb cB]
      have K2 := Bl.new 50 wr #[.int .i64 mb.op, .int .i64 mb.n, .slice yb mb.N.length sb, .slice zb mb.A.length tb, .slice xb nb cB]
      obtain ⟨W2, hW2⟩ : ∃ W2, wr.alloc (.cells #[.int .i64 mb.op, .int .i64 mb.n, .slice yb mb.N.length sb, .slice zb mb.A.length tb, .slice xb nb cB] 50) = W2 := ⟨_, rfl⟩
      rw [hW2] at b2 K2
      have HW2 := hid hW2
      have CX := hid (CB.out W2 _ (UR.trans (b2.mono UR.size)) (by have := hgr.1.size; have := b2.size; have := BS.out; omega) (hrow.stay b2))
      have G1 := hid (hgr.stay b2)
      obtain ⟨n0, n1, n2, n3, n4⟩ := bl5 K2
      clear UR b2 K2 hW2 hgr hrow j0 j1 j2 j3 j4 j5 j6 j7 j8 j9 CA CB
      go_upto_region 6 with fail
      rw [HW2.out]
      clear HW2 i0 i1 i2 i3 i4
      go_wp2_with fail
      refine CX.out.mono ?_
      rintro e w2 ⟨v2, rfl, r2, g2⟩
      have R2 := hid r2
      have G2 := hid (G1.out.trans g2)
      clear r2 g2 CX G1 n0 n1 n2 n3 n4
      go_wp2_with fail
      exact ⟨Or.inr (Or.inr ⟨rfl, R2.out, G2.out⟩), by simp [intOf]⟩
    · have hne : some w.heap.size ≠ v.ownBlock := fun q => by have := (HO.out _ q.symm).2; omega
      have K1 := hid (hgr.bl KB.out hne)
      have R1 := hid hrow
      have G1 := hid (Gr.ahead BW.out hgr)
      have UR := BK.out _ _ hgr
      have F := hid (fmatch_any ⟨10, nn, N, A⟩ wr (ME0.out.below UR).1 (ME0.out.below UR).2.1)
      replace BS : Hid (B ≤ wr.heap.size) := hid (by have := hgr.1.size; have := BS.out; omega)
      obtain ⟨m0, m1, m2, m3, m4⟩ := bl5 K1.out
      have hll : (ms ++ fa ++ fb).length + 1 ≤ 100000 := by simp only [List.length_append]; omega
      clear hgr hrow UR hne j0 j1 j2 j3 j4 j5 j6 j7 j8 j9 CA CB hl2
      generalize ms ++ fa ++ fb = mz at *
      cases n with
      | false =>
        replace HM : Hid (mz ++ [(⟨10, nn, N, A⟩ : Mt)] = mr) := hid HM.out
        go_wp2_with fail
        refine F.out.mono ?_
        rintro e w2 ⟨y, s, z, t, rfl, hS, hD, hz, b2, f1, f2⟩
        have ME : MeIn w2 ⟨⟨10, nn, N, A⟩, y, s, z, t⟩ := ⟨hS, hD, hz, NUM.out⟩
        have OF : MeOff u1.ownBlock ⟨⟨10, nn, N, A⟩, y, s, z, t⟩ := meOff_above (n := wr.heap.size) f1 f2 (fun k hk => (R1.out.own k hk).2)
        have R2 := R1.out.stay b2
        have G2 := G1.out.stay b2
        have b3 := boxed 43 w2 ([(⟨⟨10, nn, N, A⟩, y, s, z, t⟩ : Me)].flatMap mcells).toArray
        have Q3 := hid (cells_laid [(⟨⟨10, nn, N, A⟩, y, s, z, t⟩ : Me)] w2)
        have R3 := hid (R2.stay b3)
        have G3 := hid (G2.stay b3)
        have SZ : Hid (B ≤ (w2.alloc (.cells ([(⟨⟨10, nn, N, A⟩, y, s, z, t⟩ : Me)].flatMap mcells).toArray 43)).heap.size) := hid (by have := BS.out; have := G3.out.1.size; omega)
        have P3 : Hid (∀ e ∈ [(⟨⟨10, nn, N, A⟩, y, s, z, t⟩ : Me)], MeIn (w2.alloc (.cells ([(⟨⟨10, nn, N, A⟩, y, s, z, t⟩ : Me)].flatMap mcells).toArray 43)) e ∧ MeOff u1.ownBlock e) := hid (fun e he => by rw [List.mem_singleton.1 he]; exact ⟨ME.below b3, OF⟩)
        clear ME OF hS hD hz b2 f1 f2 b3 R2 G2
        go_wp2_with (at_builtin; refine wpList_append_p [(⟨⟨10, nn, N, A⟩, y, s, z, t⟩ : Me)] rfl _ _ rfl rfl rfl R3.out rfl Q3.out P3.out (by omega) SZ.out ?_; intro v5 w5 r5 g5)
        have R5 := hid r5
        have G5 := hid (G3.out.trans g5)
        clear r5 g5 R3 G3 Q3 P3
        go_ret
        refine ⟨_, rfl, ?_, G5.out⟩
        rw [← HM.out]
        exact R5.out
      | true =>
        replace HM : Hid (mz ++ [litM 9] = mr) := hid (by have h := HM.out; rw [if_pos rfl, FL.out] at h; exact h)
        clear F FL
        have R2 := R1.out
        have G2 := G1.out
        have b3 := boxed 43 wr ([(⟨litM 9, none, 0, none, 0⟩ : Me)].flatMap mcells).toArray
        have Q3 := hid (cells_laid [(⟨litM 9, none, 0, none, 0⟩ : Me)] wr)
        have R3 := hid (R2.stay b3)
        have G3 := hid (G2.stay b3)
        have SZ : Hid (B ≤ (wr.alloc (.cells ([(⟨litM 9, none, 0, none, 0⟩ : Me)].flatMap mcells).toArray 43)).heap.size) := hid (by have := BS.out; have := G3.out.1.size; omega)
        have P3 : Hid (∀ e ∈ [(⟨litM 9, none, 0, none, 0⟩ : Me)], MeIn (wr.alloc (.cells ([(⟨litM 9, none, 0, none, 0⟩ : Me)].flatMap mcells).toArray 43)) e ∧ MeOff u1.ownBlock e) := hid (fun e he => by rw [List.mem_singleton.1 he]; exact ⟨lit_in _ _ (by decide), lit_off _ _⟩)
        clear  b3 R2 G2
        go_wp2_with (at_builtin; refine wpList_append_p [(⟨litM 9, none, 0, none, 0⟩ : Me)] rfl _ _ rfl rfl rfl R3.out rfl Q3.out P3.out (by omega) SZ.out ?_; intro v5 w5 r5 g5)
        have R5 := hid r5
        have G5 := hid (G3.out.trans g5)
        clear r5 g5 R3 G3 Q3 P3
        go_ret
        refine ⟨_, rfl, ?_, G5.out⟩
        rw [← HM.out]
        exact R5.out

/-- What plain tells of a tree of right nodes. -/
theorem plain_any (tr : T) : wf tr → PlainC tr := by
  induction tr with
  | leaf m => exact fun _ => plain_leaf m
  | one m a ih => exact fun h => plain_one m a (ih h.2)
  | two m a b ia ib =>
    intro h
    rcases takes_two h.1 with q9 | q9
    · exact plain_and m a b q9 (ia h.2.1) (ib h.2.2)
    · exact plain_or m a b q9 (ia h.2.1) (ib h.2.2)

end Go.Proofs.YtdkpdlkcloaoeaaDoor.Ru

namespace Go.Proofs.YtdkpdlkcloaoeaaDoor.Ru
open Go.RowKit Go.Deep

set_option maxHeartbeats 4000000 in
set_option maxRecDepth 100000 in
theorem rcheck_any {x : Option Addr} {c l : Nat} (r : List Mt) (v : Value) (w : World) (_h : Mats w x c r) (_hl : r.length = l) (_hv : errV (ruleE r) = v) :
    Calls Tryd.prog 7 #[.slice x l c] w fun e w' => e = .returned v ∧ Below w.heap.size w w' := by
  have RD := hid (read_any r w _h _hl)
  have HV := hid _hv
  clear _h _hl _hv
  go_enter Tryd.func7, Tryd.ntmps7
  go_wp2_with fail
  refine RD.out.mono ?_
  rintro e w2 ⟨b2, ⟨hE, tr, cs, _, _, hT, rfl⟩ | ⟨hE, rfl⟩⟩
  · obtain ⟨⟨m, y1, s1, z1, t1⟩, x5, n5, c5, rfl⟩ := hT.form
    rw [tcells_arr]
    have BB := hid (grown_on b2 (boxed 50 w2 #[.int .i64 m.op, .int .i64 m.n, .slice y1 m.N.length s1, .slice z1 m.A.length t1, .slice x5 n5 c5]))
    have EV : Hid (Value.nilIface = v) := hid (by rw [← HV.out, hE]; rfl)
    clear b2 hE HV RD hT
    go_wp2_with fail
    go_ret
    exact ⟨by rw [EV.out]; rfl, BB.out⟩
  · have BB := hid (grown_on b2 (boxed 50 w2 #[.int .i64 0, .int .i64 0, .slice none 0 0, .slice none 0 0, .slice none 0 0]))
    have EV := hid ((errV_some hE).symm.trans HV.out)
    clear b2 hE HV RD
    go_wp2_with fail
    go_ret
    exact ⟨by rw [EV.out]; rfl, BB.out⟩

set_option maxHeartbeats 4000000 in
set_option maxRecDepth 100000 in
theorem rholds_good {x y z : Option Addr} {c l s t : Nat} (r : List Mt) (tr : T) (q : Qy) (i : Bool) (w : World) (_h : Mats w x c r) (_hl : r.length = l) (_hq : QyIs w q y s z t) (_hE : ruleE r = 0) (_hf : flat tr = r) (_hw : wf tr) (_hi : ev q tr = i) :
    Calls Tryd.prog 9 #[.slice x l c, .agg #[.slice y q.N.length s, .int .i64 q.ty, .int .i64 q.cl, .int .i64 q.opc, .bool q.rd, .slice z q.F.length t]] w fun e w' => e = .returned (.tuple #[.bool i, .nilIface]) ∧ Below w.heap.size w w' := by
  have b1 := boxed 26 w #[.slice y q.N.length s, .int .i64 q.ty, .int .i64 q.cl, .int .i64 q.opc, .bool q.rd, .slice z q.F.length t]
  have B1 := Bl.new 26 w #[.slice y q.N.length s, .int .i64 q.ty, .int .i64 q.cl, .int .i64 q.opc, .bool q.rd, .slice z q.F.length t]
  obtain ⟨W1, hW⟩ : ∃ W1, w.alloc (.cells #[.slice y q.N.length s, .int .i64 q.ty, .int .i64 q.cl, .int .i64 q.opc, .bool q.rd, .slice z q.F.length t] 26) = W1 := ⟨_, rfl⟩
  rw [hW] at b1 B1
  have HW := hid hW
  have RD := hid (read_any r W1 (_h.below b1) _hl)
  have QQ := hid (_hq.below b1)
  have BB := hid b1
  have KK := hid B1
  have HE := hid _hE
  have HF := hid _hf
  have HWf := hid _hw
  have HI := hid _hi
  clear _h _hl _hq _hE _hf _hw _hi b1 B1 hW
  go_enter Tryd.func9, Tryd.ntmps9
  go_upto_region 1 with fail
  rw [HW.out]
  clear HW
  go_wp2_with fail
  refine RD.out.mono ?_
  rintro e w2 ⟨b2, ⟨_, tr', cs, hfl, hwf, hT, rfl⟩ | ⟨hE, rfl⟩⟩
  rotate_left
  · exact absurd HE.out hE
  obtain rfl := flat_inj hwf HWf.out (hfl.trans HF.out.symm)
  obtain ⟨⟨m, y1, s1, z1, t1⟩, x5, n5, c5, rfl⟩ := hT.form
  rw [tcells_arr]
  have hT2 := hT.later b2
  have b3 := boxed 50 w2 #[.int .i64 m.op, .int .i64 m.n, .slice y1 m.N.length s1, .slice z1 m.A.length t1, .slice x5 n5 c5]
  have B3 := Bl.new 50 w2 #[.int .i64 m.op, .int .i64 m.n, .slice y1 m.N.length s1, .slice z1 m.A.length t1, .slice x5 n5 c5]
  obtain ⟨W3, hW⟩ : ∃ W3, w2.alloc (.cells #[.int .i64 m.op, .int .i64 m.n, .slice y1 m.N.length s1, .slice z1 m.A.length t1, .slice x5 n5 c5] 50) = W3 := ⟨_, rfl⟩
  rw [hW] at b3 B3
  have HW := hid hW
  have CH := hid (holds_any q tr' hwf i _ m y1 s1 z1 t1 x5 n5 c5 w2 W3 hT2 b3 ((QQ.out.below b2).below b3) hwf (by rw [hfl]; exact ruleE_node HE.out) HI.out)
  obtain ⟨q0, q1, q2, q3, q4, q5⟩ := bl6 ((KK.out.below b2).below b3)
  obtain ⟨m0, m1, m2, m3, m4⟩ := bl5 B3
  have B9 := hid (grown_on (grown_on BB.out b2) b3)
  clear b2 b3 B3 hW hT hT2 hwf hfl HF HWf HI HE QQ KK BB RD
  go_upto_region 2 with fail
  rw [HW.out]
  clear HW
  go_wp2_with fail
  refine CH.out.mono ?_
  rintro e w4 ⟨rfl, b4⟩
  have B10 := hid (grown_on B9.out b4)
  clear b4 CH
  go_wp2_with fail
  refine bodyPost_ret (results_tmp2 rfl _ _ _) rfl ?_
  exact ⟨rfl, B10.out⟩

set_option maxHeartbeats 4000000 in
set_option maxRecDepth 100000 in
theorem rholds_bad {x y z : Option Addr} {c l s t : Nat} (r : List Mt) (q : Qy) (v : Value) (w : World) (_h : Mats w x c r) (_hl : r.length = l) (_hq : QyIs w q y s z t) (_hE : ¬ ruleE r = 0) (_hv : errV (ruleE r) = v) :
    Calls Tryd.prog 9 #[.slice x l c, .agg #[.slice y q.N.length s, .int .i64 q.ty, .int .i64 q.cl, .int .i64 q.opc, .bool q.rd, .slice z q.F.length t]] w fun e w' => e = .returned (.tuple #[.bool false, v]) ∧ Below w.heap.size w w' := by
  have b1 := boxed 26 w #[.slice y q.N.length s, .int .i64 q.ty, .int .i64 q.cl, .int .i64 q.opc, .bool q.rd, .slice z q.F.length t]
  obtain ⟨W1, hW⟩ : ∃ W1, w.alloc (.cells #[.slice y q.N.length s, .int .i64 q.ty, .int .i64 q.cl, .int .i64 q.opc, .bool q.rd, .slice z q.F.length t] 26) = W1 := ⟨_, rfl⟩
  rw [hW] at b1
  have HW := hid hW
  have RD := hid (read_any r W1 (_h.below b1) _hl)
  have BB := hid b1
  have HE := hid _hE
  have EV := hid ((errV_some _hE).symm.trans _hv)
  clear _h _hl _hq _hE _hv b1 hW
  go_enter Tryd.func9, Tryd.ntmps9
  go_upto_region 1 with fail
  rw [HW.out]
  clear HW
  go_wp2_with fail
  refine RD.out.mono ?_
  rintro e w2 ⟨b2, ⟨hE, _⟩ | ⟨_, rfl⟩⟩
  · exact absurd hE HE.out
  have b3 := boxed 50 w2 #[.int .i64 0, .int .i64 0, .slice none 0 0, .slice none 0 0, .slice none 0 0]
  have B9 := hid (grown_on (grown_on BB.out b2) b3)
  clear b2 b3 BB RD HE
  go_wp2_with fail
  refine bodyPost_ret (results_tmp2 rfl _ _ _) rfl ?_
  exact ⟨by rw [EV.out]; rfl, B9.out⟩

/-- A rule is handed back. -/
def GotR (w : World) (ms : List Mt) (e : Ending) (w' : World) : Prop := ∃ y d, e = .returned (.tuple #[.slice y ms.length d, .nilIface]) ∧ Mats w' y d ms ∧ Below w.heap.size w w'

/-- What plain has told, with its length. -/
def PlainQ (w : World) (ms : List Mt) (e : Ending) (w' : World) : Prop := ∃ y d, e = .returned (.slice y ms.length d) ∧ Mats w' y d ms ∧ Below w.heap.size w w'

theorem plain_first {m : Mt} {y1 z1 x5 : Option Addr} {s1 t1 n5 c5 : Nat} {tr : T} {P : Nat → Prop} (u w : World) (hT : TIs u u P tr (tcells ⟨m, y1, s1, z1, t1⟩ x5 n5 c5)) (hu : Below u.heap.size u w) (hE : ∀ m ∈ flat tr, matchE m = 0) (hw : wf tr) (hl : (flat tr).length ≤ 200) :
    Calls Tryd.prog 21 #[.agg #[.int .i64 m.op, .int .i64 m.n, .slice y1 m.N.length s1, .slice z1 m.A.length t1, .slice x5 n5 c5], .slice none 0 0, .bool false] w (PlainQ w (flat (pl tr false))) := by
  have h4 := pl_len tr false
  refine (plain_any tr hw false w.heap.size P m y1 s1 z1 t1 x5 n5 c5 u w (.slice none 0 0) [] hT hu hu.size (Nat.le_refl _) hw hE (PRow.nil _ _) (by simp; omega)).mono ?_
  rintro e w' ⟨v', rfl, hr, hg⟩
  rw [List.nil_append] at hr
  obtain ⟨y, d, rfl, hm⟩ := hr.toM.mats (by omega)
  exact ⟨y, d, rfl, hm, hg.low (Nat.le_refl _) (fun k hk => by cases hk)⟩

set_option maxHeartbeats 4000000 in
set_option maxRecDepth 100000 in
theorem rplain_good {x : Option Addr} {c l : Nat} (r : List Mt) (tr : T) (w : World) (_h : Mats w x c r) (_hl : r.length = l) (_hE : ruleE r = 0) (_hf : flat tr = r) (_hw : wf tr) (_hp : (flat (pl tr false)).length ≤ 200) :
    Calls Tryd.prog 11 #[.slice x l c] w (GotR w (flat (pl tr false))) := by
  have RD := hid (read_any r w _h _hl)
  have HE := hid _hE
  have HF := hid _hf
  have HWf := hid _hw
  have hp : ¬ (200 : Int) < ((flat (pl tr false)).length : Int) := by omega
  clear _h _hl _hE _hf _hw _hp
  obtain ⟨pr, hpr⟩ : ∃ pr, flat (pl tr false) = pr := ⟨_, rfl⟩
  rw [hpr] at hp ⊢
  have HPR := hid hpr
  clear hpr
  go_enter Tryd.func11, Tryd.ntmps11
  go_wp2_with fail
  refine RD.out.mono ?_
  rintro e w2 ⟨b2, ⟨_, tr', cs, hfl, hwf, hT, rfl⟩ | ⟨hE, rfl⟩⟩
  rotate_left
  · exact absurd HE.out hE
  obtain rfl := flat_inj hwf HWf.out (hfl.trans HF.out.symm)
  obtain ⟨⟨m, y1, s1, z1, t1⟩, x5, n5, c5, rfl⟩ := hT.form
  rw [tcells_arr]
  have hT2 := hT.later b2
  have b3 := boxed 50 w2 #[.int .i64 m.op, .int .i64 m.n, .slice y1 m.N.length s1, .slice z1 m.A.length t1, .slice x5 n5 c5]
  have B3 := Bl.new 50 w2 #[.int .i64 m.op, .int .i64 m.n, .slice y1 m.N.length s1, .slice z1 m.A.length t1, .slice x5 n5 c5]
  obtain ⟨W3, hW⟩ : ∃ W3, w2.alloc (.cells #[.int .i64 m.op, .int .i64 m.n, .slice y1 m.N.length s1, .slice z1 m.A.length t1, .slice x5 n5 c5] 50) = W3 := ⟨_, rfl⟩
  rw [hW] at b3 B3
  have HW := hid hW
  have CH := hid (plain_first w2 W3 hT2 b3 (by rw [hfl]; exact ruleE_node HE.out) hwf (by rw [hfl]; exact ruleE_len HE.out))
  rw [HPR.out] at CH
  obtain ⟨m0, m1, m2, m3, m4⟩ := bl5 B3
  have B9 := hid (grown_on b2 b3)
  clear b2 b3 B3 hW hT hT2 hwf hfl HF HWf HE RD HPR
  go_upto_region 2 with fail
  rw [HW.out]
  clear HW
  go_wp2_with fail
  refine CH.out.mono ?_
  rintro e w4 ⟨y4, d4, rfl, hm, b4⟩
  have B10 := hid (grown_on B9.out b4)
  have HM := hid hm
  clear b4 hm CH
  go_wp2_with fail
  refine bodyPost_ret (results_tmp2 rfl _ _ _) rfl ?_
  exact ⟨y4, d4, rfl, HM.out, B10.out⟩

set_option maxHeartbeats 4000000 in
set_option maxRecDepth 100000 in
theorem rplain_full {x : Option Addr} {c l : Nat} (r : List Mt) (tr : T) (w : World) (_h : Mats w x c r) (_hl : r.length = l) (_hE : ruleE r = 0) (_hf : flat tr = r) (_hw : wf tr) (_hp : ¬ (flat (pl tr false)).length ≤ 200) :
    Calls Tryd.prog 11 #[.slice x l c] w fun e w' => e = .returned (.tuple #[.slice none 0 0, .iface 28 (.int .i64 7)]) ∧ Below w.heap.size w w' := by
  have RD := hid (read_any r w _h _hl)
  have HE := hid _hE
  have HF := hid _hf
  have HWf := hid _hw
  have hp : (200 : Int) < ((flat (pl tr false)).length : Int) := by omega
  clear _h _hl _hE _hf _hw _hp
  obtain ⟨pr, hpr⟩ : ∃ pr, flat (pl tr false) = pr := ⟨_, rfl⟩
  rw [hpr] at hp
  have HPR := hid hpr
  clear hpr
  go_enter Tryd.func11, Tryd.ntmps11
  go_wp2_with fail
  refine RD.out.mono ?_
  rintro e w2 ⟨b2, ⟨_, tr', cs, hfl, hwf, hT, rfl⟩ | ⟨hE, rfl⟩⟩
  rotate_left
  · exact absurd HE.out hE
  obtain rfl := flat_inj hwf HWf.out (hfl.trans HF.out.symm)
  obtain ⟨⟨m, y1, s1, z1, t1⟩, x5, n5, c5, rfl⟩ := hT.form
  rw [tcells_arr]
  have hT2 := hT.later b2
  have b3 := boxed 50 w2 #[.int .i64 m.op, .int .i64 m.n, .slice y1 m.N.length s1, .slice z1 m.A.length t1, .slice x5 n5 c5]
  have B3 := Bl.new 50 w2 #[.int .i64 m.op, .int .i64 m.n, .slice y1 m.N.length s1, .slice z1 m.A.length t1, .slice x5 n5 c5]
  obtain ⟨W3, hW⟩ : ∃ W3, w2.alloc (.cells #[.int .i64 m.op, .int .i64 m.n, .slice y1 m.N.length s1, .slice z1 m.A.length t1, .slice x5 n5 c5] 50) = W3 := ⟨_, rfl⟩
  rw [hW] at b3 B3
  have HW := hid hW
  have CH := hid (plain_first w2 W3 hT2 b3 (by rw [hfl]; exact ruleE_node HE.out) hwf (by rw [hfl]; exact ruleE_len HE.out))
  rw [HPR.out] at CH
  obtain ⟨m0, m1, m2, m3, m4⟩ := bl5 B3
  have B9 := hid (grown_on b2 b3)
  clear b2 b3 B3 hW hT hT2 hwf hfl HF HWf HE RD HPR
  go_upto_region 2 with fail
  rw [HW.out]
  clear HW
  go_wp2_with fail
  refine CH.out.mono ?_
  rintro e w4 ⟨y4, d4, rfl, hm, b4⟩
  have B10 := hid (grown_on B9.out b4)
  clear b4 hm CH
  go_wp2_with fail
  refine bodyPost_ret (results_tmp2 rfl _ _ _) rfl ?_
  exact ⟨rfl, B10.out⟩

set_option maxHeartbeats 4000000 in
set_option maxRecDepth 100000 in
theorem rplain_bad {x : Option Addr} {c l : Nat} (r : List Mt) (v : Value) (w : World) (_h : Mats w x c r) (_hl : r.length = l) (_hE : ¬ ruleE r = 0) (_hv : errV (ruleE r) = v) :
    Calls Tryd.prog 11 #[.slice x l c] w fun e w' => e = .returned (.tuple #[.slice none 0 0, v]) ∧ Below w.heap.size w w' := by
  have RD := hid (read_any r w _h _hl)
  have HE := hid _hE
  have EV := hid ((errV_some _hE).symm.trans _hv)
  clear _h _hl _hE _hv
  go_enter Tryd.func11, Tryd.ntmps11
  go_wp2_with fail
  refine RD.out.mono ?_
  rintro e w2 ⟨b2, ⟨hE, _⟩ | ⟨_, rfl⟩⟩
  · exact absurd hE HE.out
  have b3 := boxed 50 w2 #[.int .i64 0, .int .i64 0, .slice none 0 0, .slice none 0 0, .slice none 0 0]
  have B9 := hid (grown_on b2 b3)
  clear b2 b3 RD HE
  go_wp2_with fail
  refine bodyPost_ret (results_tmp2 rfl _ _ _) rfl ?_
  exact ⟨by rw [EV.out]; rfl, B9.out⟩

end Go.Proofs.YtdkpdlkcloaoeaaDoor.Ru

namespace Go.Proofs.YtdkpdlkcloaoeaaDoor.Ru
open Go.RowKit Go.Deep

def askM : Mt := ⟨1, 0, [], []⟩

def askQ : Qy := ⟨[], 0, 0, 0, false, []⟩

set_option maxHeartbeats 1000000 in
set_option maxRecDepth 100000 in
theorem asked_any (w : World) : Calls Tryd.prog 4 #[] w fun e w' => e = .returned (.bool true) ∧ Below w.heap.size w w' := by
  have B1 := (Below.refl w.heap.size w).alloc (Nat.le_refl _) (.cells #[.int .i64 1, .int .i64 0, .slice none 0 0, .slice none 0 0] 43)
  have K := Bl.new 43 w #[.int .i64 1, .int .i64 0, .slice none 0 0, .slice none 0 0]
  have HM : Mats (w.alloc (.cells #[.int .i64 1, .int .i64 0, .slice none 0 0, .slice none 0 0] 43)) (some ⟨w.heap.size, 0, none⟩) 1 [askM] := by
    refine ⟨by simp, by simp, fun m hm => by rw [List.mem_singleton.1 hm]; decide, Or.inr ⟨_, _, rfl, K.lt, fun i hi => ?_⟩⟩
    obtain rfl : i = 0 := by simpa using hi
    exact ⟨none, 0, none, 0, K.cell (i := 0) rfl, K.cell (i := 1) rfl, K.cell (i := 2) rfl, K.cell (i := 3) rfl, ⟨Nat.zero_le _, by simp [askM], fun s hs => by simp [askM] at hs, Or.inl rfl⟩, Bys.nil _ _ _, fun _ => rfl⟩
  have HQ : QyIs (w.alloc (.cells #[.int .i64 1, .int .i64 0, .slice none 0 0, .slice none 0 0] 43)) askQ none 0 none 0 := ⟨⟨Nat.zero_le _, by simp [askQ], fun s hs => by simp [askQ] at hs, Or.inl rfl⟩, Bys.nil _ _ _, by decide, by decide, by decide, fun _ => rfl⟩
  have C := hid (rholds_good [askM] (.leaf askM) askQ true _ HM rfl HQ (by decide) rfl rfl rfl)
  have BB := hid B1
  clear B1 K HM HQ
  go_enter Tryd.func4, Tryd.ntmps4
  go_wp2_with fail
  refine C.out.mono ?_
  rintro e w2 ⟨rfl, q⟩
  have B2 := hid (grown_on BB.out q)
  clear q
  go_wp2_with fail
  go_ret
  exact ⟨rfl, B2.out⟩

end Go.Proofs.YtdkpdlkcloaoeaaDoor.Ru
