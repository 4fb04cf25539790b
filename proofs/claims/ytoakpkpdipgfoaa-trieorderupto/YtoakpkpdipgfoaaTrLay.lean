/-
  A trie in memory: a leaf is laid, a node is forked.
-/
import Derived.Test.YtoakpkpdipgfoaaTrMem
namespace Go.Proofs.Ytoakpkpdipgfoaa
open Go.RowKit Go.Deep

/-- A node of the first bits of another one. -/
def forkT (B : Nat) (a : List Int) (s : Nat) (d : Bool) (t : Tn) : Tn := if d then .node B a s 0 false .nil t else .node B a s 0 false t .nil

theorem LayAt.leaf {w wr wr' : World} {tb : Nat} {cnt : Int} {k : List Int} {n : Nat} {T : Tn} {c : List Fr} {B : Nat} (h : LayAt w wr tb cnt k n T c .nil) (g : Below wr.heap.size wr wr')
    (hn : n ≤ 128) (hk : k.length = 16) (bk : ∀ x ∈ k, 0 ≤ x ∧ x ≤ 255) (hB : wr.heap.size ≤ B) (hm : Bl 56 wr' B #[.int .u8 (byt k 0), .int .u8 (byt k 1), .int .u8 (byt k 2), .int .u8 (byt k 3), .int .u8 (byt k 4), .int .u8 (byt k 5), .int .u8 (byt k 6), .int .u8 (byt k 7), .int .u8 (byt k 8), .int .u8 (byt k 9), .int .u8 (byt k 10), .int .u8 (byt k 11), .int .u8 (byt k 12), .int .u8 (byt k 13), .int .u8 (byt k 14), .int .u8 (byt k 15), .int .i64 (n : Int), .int .i64 0, .bool false, .pointer none, .pointer none]) :
    LayAt w (wr'.setCell (slotA tb c) (.pointer (some ⟨B, 0, none⟩))) tb cnt k n T c (.node B k n 0 false .nil .nil) :=
  h.swap (B := B) (t' := .node B k n 0 false .nil .nil) g ⟨⟨hn, hk, bk⟩, fun x hx => by simp [Tn.keys] at hx, fun x hx => by simp [Tn.keys] at hx, trivial, trivial⟩
    (fun x hx f hf => by
      simp only [Tn.keys, List.append_nil, List.mem_cons, List.not_mem_nil, or_false] at hx
      subst hx
      exact h.ok f hf)
    ⟨hm, trivial, trivial⟩ hB (by simp [Tn.blks]) (fun e => by simp [Tn.ents]) (by simp [Tn.ents])

theorem LayAt.fork {w wr wr' : World} {tb : Nat} {cnt : Int} {k : List Int} {n : Nat} {T : Tn} {c : List Fr} {b : Nat} {a : List Int} {m : Nat} {v : Int} {gg : Bool} {l r : Tn} {B s : Nat} {d : Bool} (h : LayAt w wr tb cnt k n T c (.node b a m v gg l r)) (g : Below wr.heap.size wr wr')
    (hs : comU a k (min m n) = s) (hsm : s < m) (hd : bitN a s = if d then 1 else 0) (hB : wr.heap.size ≤ B)
    (hm : Bl 56 wr' B #[.int .u8 (byt a 0), .int .u8 (byt a 1), .int .u8 (byt a 2), .int .u8 (byt a 3), .int .u8 (byt a 4), .int .u8 (byt a 5), .int .u8 (byt a 6), .int .u8 (byt a 7), .int .u8 (byt a 8), .int .u8 (byt a 9), .int .u8 (byt a 10), .int .u8 (byt a 11), .int .u8 (byt a 12), .int .u8 (byt a 13), .int .u8 (byt a 14), .int .u8 (byt a 15), .int .i64 (s : Int), .int .i64 0, .bool false, if d then .pointer none else .pointer (some ⟨b, 0, none⟩), if d then .pointer (some ⟨b, 0, none⟩) else .pointer none]) :
    LayAt w (wr'.setCell (slotA tb c) (.pointer (some ⟨B, 0, none⟩))) tb cnt k n T c (forkT B a s d (.node b a m v gg l r)) := by
  obtain ⟨hw0, hok⟩ := wf_sub h.wf
  have hal : Al a k s := by rw [← hs]; exact comU_al a k _
  have hsn : s ≤ n := by have := comU_le a k (min m n); omega
  obtain ⟨⟨hw1, hw2, hw3⟩, hwl, hwr, hwl2, hwr2⟩ := hw0
  have hkeys : ∀ x ∈ (Tn.node b a m v gg l r).keys, s < x.2 ∧ Al a x.1 s ∧ bitN x.1 s = if d then 1 else 0 := by
    intro x hx
    simp only [Tn.keys, List.mem_cons, List.mem_append] at hx
    rcases hx with rfl | hx | hx
    · exact ⟨hsm, Al.refl _ _, hd⟩
    · obtain ⟨q1, q2, _⟩ := hwl x hx
      exact ⟨by omega, q2.mono (by omega), by rw [← q2 s hsm]; exact hd⟩
    · obtain ⟨q1, q2, _⟩ := hwr x hx
      exact ⟨by omega, q2.mono (by omega), by rw [← q2 s hsm]; exact hd⟩
  have hfs : ∀ f ∈ c, f.ok (a, s) := by
    intro f hf
    obtain ⟨p1, p2, p3⟩ := hok f hf (a, m) (by simp [Tn.keys])
    obtain ⟨q1, q2, q3⟩ := h.ok f hf
    simp only at p1 p2 p3 q1 q2 q3
    refine ⟨?_, p2, p3⟩
    have := comU_most a k (min m n) (f.n + 1) (by omega) (fun i hi => by
      rcases Nat.lt_or_ge i f.n with z | z
      · rw [← p2 i z, ← q2 i z]
      · obtain rfl : i = f.n := by omega
        rw [p3, q3])
    simp only
    omega
  have hmt : Mem wr' (.node b a m v gg l r) := ((mem_plug _ _ _).1 (h.grow g).mem).2
  have hwt : (Tn.node b a m v gg l r).wf := ⟨⟨hw1, hw2, hw3⟩, hwl, hwr, hwl2, hwr2⟩
  have e : (forkT B a s d (.node b a m v gg l r)).ptr = some B := by unfold forkT; cases d <;> rfl
  have := h.swap (B := B) (t' := forkT B a s d (.node b a m v gg l r)) g ?_ ?_ ?_ hB ?_ ?_ ?_
  · rw [e] at this
    exact this
  · unfold forkT
    cases d
    · exact ⟨⟨by omega, hw2, hw3⟩, fun x hx => hkeys x hx, fun x hx => by simp [Tn.keys] at hx, hwt, trivial⟩
    · exact ⟨⟨by omega, hw2, hw3⟩, fun x hx => by simp [Tn.keys] at hx, fun x hx => hkeys x hx, trivial, hwt⟩
  · intro x hx f hf
    have : x = (a, s) ∨ x ∈ (Tn.node b a m v gg l r).keys := by
      unfold forkT at hx
      cases d
      · simp only [Bool.false_eq_true, if_false] at hx
        rw [Tn.keys] at hx
        simpa [Tn.keys] using hx
      · simp only [if_true] at hx
        rw [Tn.keys] at hx
        simpa [Tn.keys] using hx
    rcases this with rfl | q
    · exact hfs f hf
    · exact hok f hf x q
  · unfold forkT
    cases d
    · exact ⟨hm, hmt, trivial⟩
    · exact ⟨hm, trivial, hmt⟩
  · unfold forkT
    cases d <;> simp [Tn.blks]
  · intro x
    unfold forkT
    cases d <;> simp [Tn.ents]
  · unfold forkT
    cases d <;> simp [Tn.ents]

/-- The way on from a forked node: its other side is empty. -/
theorem LayAt.side {w wr : World} {tb : Nat} {cnt : Int} {k : List Int} {n : Nat} {T : Tn} {c : List Fr} {a : List Int} {t : Tn} {B s : Nat} {d : Bool} (h : LayAt w wr tb cnt k n T c (forkT B a s d t)) (hsn : s < n) (ha : Al a k s) (hd : bitN a s = if d then 1 else 0) (hne : ¬ bitN a s = bitN k s) :
    LayAt w wr tb cnt k n T (⟨B, a, s, 0, false, !d, t⟩ :: c) .nil := by
  unfold forkT at h
  cases d
  · simp only [Bool.false_eq_true, if_false] at h hd
    have h2 := bitN_two k s
    exact h.down hsn ha true (by simp only [if_true]; omega)
  · simp only [if_true] at h hd
    have h2 := bitN_two k s
    exact h.down hsn ha false (by simp only [Bool.false_eq_true, if_false]; omega)

theorem LayAt.base {w0 w wr : World} {tb : Nat} {cnt : Int} {k : List Int} {n : Nat} {T : Tn} {c : List Fr} {t : Tn} (g : Below w0.heap.size w0 w) (h : LayAt w wr tb cnt k n T c t) : LayAt w0 wr tb cnt k n T c t :=
  ⟨h.wf, h.mem, h.root, h.nod, h.ok, h.same, h.len, (Only.ofBelow g).trans h.only (fun _ hx => Or.inl hx), fun b hb => (h.new b hb).imp id (fun q => Nat.le_trans g.size q)⟩

theorem LayAt.start {w : World} {tb : Nat} {cnt : Int} (k : List Int) (n : Nat) {T : Tn} (hwf : T.wf) (hm : Mem w T) (hr : Bl 46 w tb #[ptrV T.ptr, .int .i64 cnt]) (hnod : (tb :: T.blks).Nodup) : LayAt w w tb cnt k n T [] T :=
  ⟨hwf, hm, hr, hnod, fun f hf => (by cases hf), fun e => Iff.rfl, rfl, Only.refl _ _, fun b hb => Or.inl hb⟩

/-- How far it still is: from the place's own node. -/
def layM (tb : Nat) (v : Value) (w : World) : Nat :=
  match v with
  | .pointer (some p) => if p.block = tb then 200 else (match w.cell? ⟨p.block, 16, none⟩ with | some (.int _ m) => 199 - m.toNat | _ => 0)
  | _ => 0

def lvl : List Fr → Nat
  | [] => 200
  | f :: _ => 199 - f.n

theorem LayAt.meas {w wr : World} {tb : Nat} {cnt : Int} {k : List Int} {n : Nat} {T : Tn} {c : List Fr} {t : Tn} (h : LayAt w wr tb cnt k n T c t) : layM tb (.pointer (some (slotA tb c))) wr = lvl c := by
  cases c with
  | nil => simp [layM, slotA, lvl]
  | cons f c =>
    have h1 := ((mem_plug _ _ _).1 h.mem).1.1
    have h2 : f.b ≠ tb := fun q => by
      have h3 := h.nodC
      rw [List.nodup_cons] at h3
      exact h3.1 (by rw [← q]; simp [blksC])
    have h3 : wr.cell? ⟨f.b, 16, none⟩ = some (.int .i64 (f.n : Int)) := h1.cell (i := 16) rfl
    simp only [layM, slotA, h2, if_false, h3, lvl, Int.toNat_natCast]

theorem LayAt.less {w wr : World} {tb : Nat} {cnt : Int} {k : List Int} {n : Nat} {T : Tn} {f : Fr} {c : List Fr} {t : Tn} (h : LayAt w wr tb cnt k n T (f :: c) t) (hn : n ≤ 128) : lvl (f :: c) < lvl c := by
  obtain ⟨_, h2⟩ := wf_sub (c := c) (t := f.put t) h.wf
  have hf := (h.ok f (by simp)).1
  simp only at hf
  cases c with
  | nil => simp only [lvl]; omega
  | cons g c =>
    have hk : (f.a, f.n) ∈ (f.put t).keys := by unfold Fr.put; cases f.dir <;> simp [Tn.keys]
    have := (h2 g (by simp) _ hk).1
    simp only at this
    simp only [lvl]
    omega

end Go.Proofs.Ytoakpkpdipgfoaa
