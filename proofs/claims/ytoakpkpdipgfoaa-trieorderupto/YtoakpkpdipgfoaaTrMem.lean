/-
  A trie in memory: its nodes, a place in it, what a store at that place makes; what else stays.
-/
import Derived.Test.YtoakpkpdipgfoaaTrieD
namespace Go.Proofs.Ytoakpkpdipgfoaa
open Go.RowKit Go.Deep

/-- All old blocks but these are as they were. -/
structure Only (bs : List Nat) (w w' : World) : Prop where
  os : w'.os = w.os
  tape : w'.tape = w.tape
  output : w'.output = w.output
  size : w.heap.size ≤ w'.heap.size
  block : ∀ k, k < w.heap.size → k ∉ bs → w'.heap[k]? = w.heap[k]?

theorem Only.refl (bs : List Nat) (w : World) : Only bs w w := ⟨rfl, rfl, rfl, Nat.le_refl _, fun _ _ _ => rfl⟩

theorem Only.trans {bs bs' : List Nat} {a b c : World} (h : Only bs a b) (k : Only bs' b c) (hs : ∀ x ∈ bs', x ∈ bs ∨ a.heap.size ≤ x) : Only bs a c :=
  ⟨k.os.trans h.os, k.tape.trans h.tape, k.output.trans h.output, Nat.le_trans h.size k.size, fun i hi hn => by
    rw [k.block i (Nat.lt_of_lt_of_le hi h.size) (fun q => by rcases hs i q with q2 | q2; exact hn q2; omega), h.block i hi hn]⟩

theorem Only.ofBelow {bs : List Nat} {w w' : World} (h : Below w.heap.size w w') : Only bs w w' := ⟨h.os, h.tape, h.output, h.size, fun k hk _ => h.block k hk⟩

theorem Only.grow {bs : List Nat} {a b c : World} (h : Only bs a b) (k : Below b.heap.size b c) : Only bs a c := h.trans (Only.ofBelow (bs := []) k) (fun x hx => by cases hx)

theorem Only.setCell {bs : List Nat} {a b : World} (h : Only bs a b) {p : Addr} (hp : p.block ∈ bs ∨ a.heap.size ≤ p.block) (u : Value) : Only bs a (b.setCell p u) := by
  have hs : (b.setCell p u).heap.size = b.heap.size := by simp [World.setCell]
  refine ⟨h.os, h.tape, h.output, by rw [hs]; exact h.size, fun k hk hn => ?_⟩
  rw [Below.heap_setCell b p u k (fun q => by subst q; rcases hp with q | q; exact hn q; omega), h.block k hk hn]

theorem Only.below {bs : List Nat} {B : Nat} {w0 w w' : World} (h : Below B w0 w) (k : Only bs w w') (hB : B ≤ w.heap.size) (hb : ∀ b ∈ bs, B ≤ b) : Below B w0 w' :=
  ⟨k.os.trans h.os, k.tape.trans h.tape, k.output.trans h.output, Nat.le_trans h.size k.size, fun i hi => by
    rw [k.block i (by omega) (fun q => by have := hb i q; omega), h.block i hi]⟩

theorem Bl.only {t : TypeId} {bs : List Nat} {w w' : World} {b : Nat} {C : Array Value} (h : Bl t w b C) (k : Only bs w w') (hn : b ∉ bs) : Bl t w' b C := by
  have := h.lt
  unfold Bl at h ⊢
  rw [k.block b this hn, h]

theorem Bl.same {t : TypeId} {w w' : World} {b : Nat} {C : Array Value} (h : Bl t w b C) (k : w'.heap[b]? = w.heap[b]?) : Bl t w' b C := by
  unfold Bl at h ⊢
  rw [k, h]

/-- A pointer to a node. -/
def ptrV : Option Nat → Value
  | none => .pointer none
  | some b => .pointer (some ⟨b, 0, none⟩)

/-- The nodes of a trie lie in memory. -/
def Mem (w : World) : Tn → Prop
  | .nil => True
  | .node b a n v h l r => Bl 56 w b #[.int .u8 (byt a 0), .int .u8 (byt a 1), .int .u8 (byt a 2), .int .u8 (byt a 3), .int .u8 (byt a 4), .int .u8 (byt a 5), .int .u8 (byt a 6), .int .u8 (byt a 7), .int .u8 (byt a 8), .int .u8 (byt a 9), .int .u8 (byt a 10), .int .u8 (byt a 11), .int .u8 (byt a 12), .int .u8 (byt a 13), .int .u8 (byt a 14), .int .u8 (byt a 15), .int .i64 (n : Int), .int .i64 v, .bool h, ptrV l.ptr, ptrV r.ptr] ∧ Mem w l ∧ Mem w r

/-- A node's cells, with the pointer to what lies below it on the way. -/
def Fr.cells (f : Fr) (p : Option Nat) : Array Value := #[.int .u8 (byt f.a 0), .int .u8 (byt f.a 1), .int .u8 (byt f.a 2), .int .u8 (byt f.a 3), .int .u8 (byt f.a 4), .int .u8 (byt f.a 5), .int .u8 (byt f.a 6), .int .u8 (byt f.a 7), .int .u8 (byt f.a 8), .int .u8 (byt f.a 9), .int .u8 (byt f.a 10), .int .u8 (byt f.a 11), .int .u8 (byt f.a 12), .int .u8 (byt f.a 13), .int .u8 (byt f.a 14), .int .u8 (byt f.a 15), .int .i64 (f.n : Int), .int .i64 f.v, .bool f.h, if f.dir then ptrV f.s.ptr else ptrV p, if f.dir then ptrV p else ptrV f.s.ptr]

def MemC (w : World) : List Fr → Option Nat → Prop
  | [], _ => True
  | f :: c, p => Bl 56 w f.b (f.cells p) ∧ Mem w f.s ∧ MemC w c (some f.b)

theorem put_ptr (f : Fr) (t : Tn) : (f.put t).ptr = some f.b := by
  unfold Fr.put
  cases f.dir <;> rfl

theorem mem_put (w : World) (f : Fr) (t : Tn) : Mem w (f.put t) ↔ Bl 56 w f.b (f.cells t.ptr) ∧ Mem w f.s ∧ Mem w t := by
  unfold Fr.put Fr.cells
  cases f.dir
  · simp only [Bool.false_eq_true, if_false, Mem]
    constructor
    · rintro ⟨a, b, c⟩; exact ⟨a, c, b⟩
    · rintro ⟨a, b, c⟩; exact ⟨a, c, b⟩
  · simp only [if_true, Mem]

theorem mem_plug (w : World) (c : List Fr) (t : Tn) : Mem w (plug c t) ↔ MemC w c t.ptr ∧ Mem w t := by
  induction c generalizing t with
  | nil => simp [plug, MemC]
  | cons f c ih =>
    rw [plug, ih, put_ptr, mem_put, MemC]
    constructor
    · rintro ⟨a, b, d, e⟩; exact ⟨⟨b, d, a⟩, e⟩
    · rintro ⟨⟨b, d, a⟩, e⟩; exact ⟨a, b, d, e⟩

theorem Mem.same {w w' : World} {t : Tn} (h : Mem w t) (k : ∀ b ∈ t.blks, w'.heap[b]? = w.heap[b]?) : Mem w' t := by
  induction t with
  | nil => trivial
  | node b a n v g l r ihl ihr =>
    obtain ⟨h1, h2, h3⟩ := h
    exact ⟨h1.same (k b (by simp [Tn.blks])), ihl h2 (fun x hx => k x (by simp [Tn.blks, hx])), ihr h3 (fun x hx => k x (by simp [Tn.blks, hx]))⟩

theorem MemC.same {w w' : World} {c : List Fr} {p : Option Nat} (h : MemC w c p) (k : ∀ b ∈ blksC c, w'.heap[b]? = w.heap[b]?) : MemC w' c p := by
  induction c generalizing p with
  | nil => trivial
  | cons f c ih =>
    obtain ⟨h1, h2, h3⟩ := h
    exact ⟨h1.same (k f.b (by simp [blksC])), h2.same (fun x hx => k x (by simp [blksC, hx])), ih h3 (fun x hx => k x (by simp [blksC, hx]))⟩

theorem Mem.lt {w : World} {t : Tn} (h : Mem w t) : ∀ b ∈ t.blks, b < w.heap.size := by
  induction t with
  | nil => intro b hb; simp [Tn.blks] at hb
  | node b a n v g l r ihl ihr =>
    obtain ⟨h1, h2, h3⟩ := h
    intro x hx
    simp only [Tn.blks, List.mem_cons, List.mem_append] at hx
    rcases hx with rfl | hx | hx
    · exact h1.lt
    · exact ihl h2 x hx
    · exact ihr h3 x hx

def rootP : List Fr → Option Nat → Option Nat
  | [], p => p
  | f :: c, _ => rootP c (some f.b)

theorem plug_ptr (c : List Fr) (t : Tn) : (plug c t).ptr = rootP c t.ptr := by
  induction c generalizing t with
  | nil => rfl
  | cons f c ih => rw [plug, ih, put_ptr]; rfl

/-- Where the pointer to the place lies. -/
def slotA (tb : Nat) : List Fr → Addr
  | [] => ⟨tb, 0, none⟩
  | f :: _ => ⟨f.b, if f.dir then 20 else 19, none⟩

theorem slotA_block (tb : Nat) (c : List Fr) : (slotA tb c).block ∈ tb :: blksC c := by
  cases c with
  | nil => simp [slotA]
  | cons f c => simp [slotA, blksC]

theorem slot_load {w : World} {tb : Nat} {cnt : Int} {c : List Fr} {p : Option Nat} (h : Bl 46 w tb #[ptrV (rootP c p), .int .i64 cnt]) (k : MemC w c p) : w.cell? (slotA tb c) = some (ptrV p) ∧ w.frozen? (slotA tb c) = false := by
  cases c with
  | nil => exact ⟨h.cell (i := 0) rfl, h.frozen 0⟩
  | cons f c =>
    refine ⟨k.1.cell (C := f.cells p) ?_, k.1.frozen _⟩
    unfold Fr.cells
    cases f.dir <;> rfl

theorem slot_store {w : World} {tb : Nat} {cnt : Int} {c : List Fr} {p : Option Nat} (h : Bl 46 w tb #[ptrV (rootP c p), .int .i64 cnt]) (k : MemC w c p) (hn : (tb :: blksC c).Nodup) (p' : Option Nat) :
    Bl 46 (w.setCell (slotA tb c) (ptrV p')) tb #[ptrV (rootP c p'), .int .i64 cnt] ∧ MemC (w.setCell (slotA tb c) (ptrV p')) c p' := by
  cases c with
  | nil => exact ⟨h.set 0 _, trivial⟩
  | cons f c =>
    obtain ⟨k1, k2, k3⟩ := k
    rw [List.nodup_cons] at hn
    obtain ⟨hn1, hn2⟩ := hn
    simp only [blksC] at hn1 hn2
    rw [List.nodup_cons] at hn2
    obtain ⟨hn2, _⟩ := hn2
    have far : ∀ b, b ≠ f.b → (w.setCell (slotA tb (f :: c)) (ptrV p')).heap[b]? = w.heap[b]? := fun b hb => Below.heap_setCell _ _ _ _ hb
    refine ⟨h.same (far tb (fun q => hn1 (by simp [q]))), ?_, k2.same (fun b hb => far b (fun q => hn2 (by subst q; simp [hb]))), k3.same (fun b hb => far b (fun q => hn2 (by subst q; simp [hb])))⟩
    have := k1.set (if f.dir then 20 else 19) (ptrV p')
    rw [show slotA tb (f :: c) = ⟨f.b, if f.dir then 20 else 19, none⟩ from rfl]
    unfold Fr.cells at this ⊢
    cases hd : f.dir <;> rw [hd] at this <;> exact this

/-- The state of a walk to the place of a beginning: the trie now, from T in the world w. -/
structure LayAt (w wr : World) (tb : Nat) (cnt : Int) (k : List Int) (n : Nat) (T : Tn) (c : List Fr) (t : Tn) : Prop where
  wf : (plug c t).wf
  mem : Mem wr (plug c t)
  root : Bl 46 wr tb #[ptrV (plug c t).ptr, .int .i64 cnt]
  nod : (tb :: (plug c t).blks).Nodup
  ok : ∀ f ∈ c, f.ok (k, n)
  same : ∀ e, e ∈ (plug c t).ents ↔ e ∈ T.ents
  len : (plug c t).ents.length = T.ents.length
  only : Only (tb :: T.blks) w wr
  new : ∀ b ∈ (plug c t).blks, b ∈ T.blks ∨ w.heap.size ≤ b

theorem LayAt.grow {w wr wr' : World} {tb : Nat} {cnt : Int} {k : List Int} {n : Nat} {T : Tn} {c : List Fr} {t : Tn} (h : LayAt w wr tb cnt k n T c t) (g : Below wr.heap.size wr wr') : LayAt w wr' tb cnt k n T c t :=
  ⟨h.wf, h.mem.same (fun b hb => g.block b (h.mem.lt b hb)), h.root.below g, h.nod, h.ok, h.same, h.len, h.only.grow g, h.new⟩

theorem LayAt.nodC {w wr : World} {tb : Nat} {cnt : Int} {k : List Int} {n : Nat} {T : Tn} {c : List Fr} {t : Tn} (h : LayAt w wr tb cnt k n T c t) : (tb :: (blksC c ++ t.blks)).Nodup :=
  (List.Perm.cons tb (blks_plug c t)).nodup_iff.1 h.nod

theorem LayAt.slot {w wr : World} {tb : Nat} {cnt : Int} {k : List Int} {n : Nat} {T : Tn} {c : List Fr} {t : Tn} (h : LayAt w wr tb cnt k n T c t) : wr.cell? (slotA tb c) = some (ptrV t.ptr) ∧ wr.frozen? (slotA tb c) = false := by
  have h1 := h.root
  rw [plug_ptr] at h1
  exact slot_load h1 ((mem_plug _ _ _).1 h.mem).1

theorem LayAt.slotLt {w wr : World} {tb : Nat} {cnt : Int} {k : List Int} {n : Nat} {T : Tn} {c : List Fr} {t : Tn} (h : LayAt w wr tb cnt k n T c t) : (slotA tb c).block < wr.heap.size := by
  have h1 := slotA_block tb c
  rcases List.mem_cons.1 h1 with e | e
  · rw [e]; exact h.root.lt
  · exact h.mem.lt _ ((blks_plug c t).mem_iff.2 (List.mem_append_left _ e))

/-- Something else is laid at the place: one new node, all else of it lay there. -/
theorem LayAt.swap {w wr wr' : World} {tb : Nat} {cnt : Int} {k : List Int} {n : Nat} {T : Tn} {c : List Fr} {t t' : Tn} {B : Nat} (h : LayAt w wr tb cnt k n T c t) (g : Below wr.heap.size wr wr')
    (hw : t'.wf) (hk : ∀ x ∈ t'.keys, ∀ f ∈ c, f.ok x) (hm : Mem wr' t') (hB : wr.heap.size ≤ B) (hp : t'.blks.Perm (B :: t.blks)) (he : ∀ e, e ∈ t'.ents ↔ e ∈ t.ents) (hl : t'.ents.length = t.ents.length) :
    LayAt w (wr'.setCell (slotA tb c) (ptrV t'.ptr)) tb cnt k n T c t' := by
  have hs := h.slotLt
  have h0 := h.grow g
  have hn := h.nodC
  have hfresh : ∀ b ∈ tb :: (blksC c ++ t.blks), b < wr.heap.size := by
    intro b hb
    rcases List.mem_cons.1 hb with rfl | hb
    · exact h.root.lt
    · exact h.mem.lt b ((blks_plug c t).mem_iff.2 hb)
  have hnod' : (tb :: (blksC c ++ t'.blks)).Nodup := by
    have e1 : (tb :: (blksC c ++ t'.blks)).Perm (B :: (tb :: (blksC c ++ t.blks))) := by
      refine (List.Perm.cons tb ((List.Perm.append_left _ hp).trans List.perm_middle)).trans (List.Perm.swap ..)
    rw [e1.nodup_iff, List.nodup_cons]
    exact ⟨fun q => by have := hfresh B q; omega, hn⟩
  have hnC : (tb :: blksC c).Nodup := by
    have : (tb :: blksC c).Sublist (tb :: (blksC c ++ t.blks)) := List.Sublist.cons_cons _ (List.sublist_append_left _ _)
    exact hn.sublist this
  have h1 := h0.root
  rw [plug_ptr] at h1
  obtain ⟨r1, r2⟩ := slot_store h1 ((mem_plug _ _ _).1 h0.mem).1 hnC t'.ptr
  have r3 : Mem (wr'.setCell (slotA tb c) (ptrV t'.ptr)) t' := hm.same (fun b hb => Below.heap_setCell _ _ _ _ (fun q => by
    have h2 := slotA_block tb c
    rw [← q] at h2
    have h3 : (tb :: (blksC c ++ t'.blks)) = (tb :: blksC c) ++ t'.blks := rfl
    rw [h3, List.nodup_append] at hnod'
    exact hnod'.2.2 b h2 b hb rfl))
  refine ⟨wf_swap h.wf hw hk, (mem_plug _ _ _).2 ⟨r2, r3⟩, by rw [plug_ptr]; exact r1, ?_, h.ok, fun e => ?_, ?_, ?_, fun b hb => ?_⟩
  · exact (List.Perm.cons tb (blks_plug c t')).nodup_iff.2 hnod'
  · rw [ents_plug, he, ← ents_plug]; exact h.same e
  · rw [ents_plug_len, hl, ← ents_plug_len]; exact h.len
  · refine h0.only.setCell ?_ _
    have h2 := slotA_block tb c
    rcases List.mem_cons.1 h2 with e | e
    · left; rw [e]; simp
    · rcases h.new _ ((blks_plug c t).mem_iff.2 (List.mem_append_left _ e)) with q | q
      · left; exact List.mem_cons_of_mem _ q
      · right; exact q
  · have := (blks_plug c t').mem_iff.1 hb
    rcases List.mem_append.1 this with q | q
    · exact h.new b ((blks_plug c t).mem_iff.2 (List.mem_append_left _ q))
    · rcases List.mem_cons.1 (hp.mem_iff.1 q) with rfl | q
      · right; exact Nat.le_trans h.only.size hB
      · exact h.new b ((blks_plug c t).mem_iff.2 (List.mem_append_right _ q))

/-- On to the side of a beginning. -/
theorem LayAt.down {w wr : World} {tb : Nat} {cnt : Int} {k : List Int} {n : Nat} {T : Tn} {c : List Fr} {b : Nat} {a : List Int} {m : Nat} {v : Int} {g : Bool} {l r : Tn} (h : LayAt w wr tb cnt k n T c (.node b a m v g l r)) (hm : m < n) (ha : Al a k m) (d : Bool) (hd : bitN k m = if d then 1 else 0) :
    LayAt w wr tb cnt k n T (⟨b, a, m, v, g, d, if d then l else r⟩ :: c) (if d then r else l) := by
  have e : plug (⟨b, a, m, v, g, d, if d then l else r⟩ :: c) (if d then r else l) = plug c (.node b a m v g l r) := by
    cases d <;> rfl
  refine ⟨by rw [e]; exact h.wf, by rw [e]; exact h.mem, by rw [e]; exact h.root, by rw [e]; exact h.nod, fun f hf => ?_, by rw [e]; exact h.same, by rw [e]; exact h.len, h.only, by rw [e]; exact h.new⟩
  rcases List.mem_cons.1 hf with rfl | hf
  · exact ⟨hm, ha, hd⟩
  · exact h.ok f hf

end Go.Proofs.Ytoakpkpdipgfoaa
