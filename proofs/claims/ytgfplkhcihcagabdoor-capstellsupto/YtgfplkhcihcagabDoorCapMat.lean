/-
  Labels as rows of bytes of the call's own: how they are made out of texts (bytesOf), and texts out of them (textsOf).
-/
import Derived.Test.YtgfplkhcihcagabDoorCapBits
import Derived.Laws.IdiomStrings
namespace Go.Proofs.YtgfplkhcihcagabDoor
open Go.RowKit Go.Deep

/-- So many cells from the start of a block hold these values, and may be written. -/
def Cel (w : World) (b n : Nat) (f : Nat → Value) : Prop := b < w.heap.size ∧ ∀ j, j < n → w.cell? ⟨b, j, none⟩ = some (f j) ∧ w.frozen? ⟨b, j, none⟩ = false

theorem Cel.cell {w : World} {b n : Nat} {f : Nat → Value} (h : Cel w b n f) {j : Nat} (hj : j < n) : w.cell? ⟨b, j, none⟩ = some (f j) := (h.2 j hj).1
theorem Cel.frozen {w : World} {b n : Nat} {f : Nat → Value} (h : Cel w b n f) {j : Nat} (hj : j < n) : w.frozen? ⟨b, j, none⟩ = false := (h.2 j hj).2
theorem Cel.of_block {w w' : World} {b n : Nat} {f : Nat → Value} (h : Cel w b n f) (e : w'.heap[b]? = w.heap[b]?) : Cel w' b n f := by
  refine ⟨?_, fun j hj => ?_⟩
  · rcases Nat.lt_or_ge b w'.heap.size with q | q
    · exact q
    · rw [Array.getElem?_eq_none q, Array.getElem?_eq_getElem h.1] at e; cases e
  · rw [World.cell?_of_block e, World.frozen?_of_block e]; exact h.2 j hj
theorem Cel.grown {w w' : World} {r : Option Nat} {b n : Nat} {f : Nat → Value} (h : Cel w b n f) (hg : w.grownBy w' r) (hne : some b ≠ r) : Cel w' b n f := h.of_block (hg.block b h.1 hne)
theorem Cel.alloc {w : World} {b n : Nat} {f : Nat → Value} (h : Cel w b n f) (o : Obj) : Cel (w.alloc o) b n f := h.of_block (Below.heap_alloc w o b h.1)
theorem Cel.below {w w' : World} {b n : Nat} {f : Nat → Value} (h : Cel w b n f) (k : Below w.heap.size w w') : Cel w' b n f := h.of_block (k.block _ h.1)
theorem Cel.other {w : World} {b n : Nat} {f : Nat → Value} (h : Cel w b n f) {a : Addr} (ha : a.block ≠ b) (v : Value) : Cel (w.setCell a v) b n f := by
  refine ⟨by have := (KeepsWalks.setCell w a v).size; have := h.1; omega, fun j hj => ?_⟩
  rw [World.cell?_setCell_far w a ⟨b, j, none⟩ v ha, World.frozen?_setCell]
  exact h.2 j hj
theorem Cel.set {w : World} {b n : Nat} {f : Nat → Value} (h : Cel w b n f) {i : Nat} (_ : i < n) (v : Value) : Cel (w.setCell ⟨b, i, none⟩ v) b n (fun j => if j = i then v else f j) := by
  refine ⟨by have := (KeepsWalks.setCell w ⟨b, i, none⟩ v).size; have := h.1; omega, fun j hj => ?_⟩
  rw [World.frozen?_setCell]
  refine ⟨?_, h.frozen hj⟩
  by_cases e : j = i
  · subst e
    exact (World.cell?_setCell_same' _ _ _ (by rw [h.cell hj]; rfl)).trans (by simp)
  · refine Eq.trans (World.cell?_setCell_other w ⟨b, i, none⟩ ⟨b, j, none⟩ v (fun q => e (by cases q; rfl))) ?_
    rw [h.cell hj]
    simp [e]
theorem Cel.congr {w : World} {b n : Nat} {f g : Nat → Value} (h : Cel w b n f) (e : ∀ j, j < n → f j = g j) : Cel w b n g :=
  ⟨h.1, fun j hj => by rw [← e j hj]; exact h.2 j hj⟩
theorem Cel.kept {w w' : World} {r : Option Nat} {b n : Nat} {f : Nat → Value} (h : Cel w b n f) (hg : w.grownBy w' r) (hr : ∀ k, r = some k → ∃ o : Obj, w.heap[k]? = some o ∧ o.isCells = false) : Cel w' b n f :=
  ⟨Nat.lt_of_lt_of_le h.1 hg.size, fun _ hj => ⟨cell_kept (h.cell hj) hg hr, (frozen_kept (h.cell hj) hg hr).trans (h.frozen hj)⟩⟩
theorem Cel.putObj {w : World} {b n l : Nat} {f : Nat → Value} {o : Obj} (h : Cel w b n f) (o' : Obj) (hl : w.heap[l]? = some o) (ho : o.isCells = false) : Cel (w.putObj l o') b n f :=
  h.kept (grownBy_putObj' w l o') (fun k e => by cases e; exact ⟨o, hl, ho⟩)
theorem Cel.drew {w : World} {b n : Nat} {f : Nat → Value} (h : Cel w b n f) : Cel w.drew b n f := h
theorem Cel.of_row {w : World} {b n : Nat} {t : TypeId} {f : Nat → Value} (h : w.rowIs b t n f) : Cel w b n f := ⟨h.lt, fun j hj => ⟨h.cell hj, h.frozen j⟩⟩

/-- Rows of bytes of the call's own, one a label: a row of slices in block g, each label's bytes in a block of its own. -/
structure Mat (w : World) (n₀ g k : Nat) (sz B cp : Nat → Nat) (f : Nat → Value) (V : Nat → Nat → Int) (N : Nat) : Prop where
  top : Cel w g N f
  base : n₀ ≤ g
  at' : ∀ i, i < k → f i = .slice (some ⟨B i, 0, none⟩) (sz i) (cp i)
  row : ∀ i, i < k → Cel w (B i) (sz i) (fun j => .int .u8 (V i j))
  up : ∀ i, i < k → g < B i
  apart : ∀ i j, i < k → j < k → i ≠ j → B i ≠ B j

theorem new_bytes (w : World) (s : ByteArray) (c : Nat) (e : TypeId) : Cel (w.drew.alloc (.cells (bytesRow s c) e ((bytesRow s c).size, (bytesRow s c).size + 1))) w.heap.size s.size (fun j => .int .u8 ((Nm.bs s).getD j 0)) := by
  refine ⟨by simp, fun j hj => ⟨?_, ?_⟩⟩
  · refine Eq.trans (World.cell?_alloc_mark w.drew _ _ _ _) ?_
    rw [bytesRow_at s _ j hj]
    show _ = some (Value.int .u8 ((Nm.bs s).getD j 0))
    rw [List.getD_eq_getElem?_getD, List.getElem?_eq_getElem (by rw [bs_length]; exact hj), Option.getD_some, bs_get s j hj]
    rfl
  · refine Eq.trans (World.frozen?_alloc_mark w.drew _ _ _ _ _) ?_
    have : j < (bytesRow s c).size := by unfold bytesRow; simp; have : s.data.size = s.size := rfl; omega
    simp; omega

theorem info_row : (Tryd.prog.info? 40).map (fun i => (i.zero, i.size, i.bytes)) = some (some (.slice none 0 0), 1, 24) := by kernel_rfl

/-- One label more. -/
theorem Mat.next {w : World} {n₀ g k N : Nat} {sz B cp : Nat → Nat} {f : Nat → Value} {V : Nat → Nat → Int} (h : Mat w n₀ g k sz B cp f V N) (hk : k < N) (s : ByteArray) (hs : s.size = sz k) (hv : ∀ j, j < sz k → (Nm.bs s).getD j 0 = V k j) (c : Nat) (e : TypeId)
    (hb : ∀ i, i < k → B i < w.heap.size) :
    Mat ((w.setCell ⟨g, k, none⟩ (.slice (some ⟨w.heap.size, 0, none⟩) s.size c)).alloc (.cells (bytesRow s c) e ((bytesRow s c).size, (bytesRow s c).size + 1))).drew n₀ g (k + 1) sz (fun i => if i = k then w.heap.size else B i) (fun i => if i = k then c else cp i) (fun i => if i = k then .slice (some ⟨w.heap.size, 0, none⟩) s.size c else f i) V N := by
  have hg := h.top.1
  have hz : (w.setCell ⟨g, k, none⟩ (.slice (some ⟨w.heap.size, 0, none⟩) s.size c)).heap.size = w.heap.size := by simp
  refine ⟨((h.top.set hk _).alloc _), h.base, fun i hi => ?_, fun i hi => ?_, fun i hi => ?_, fun i j hi hj hij => ?_⟩
  · by_cases q : i = k
    · subst q; simp [hs]
    · simp only [if_neg q]; exact h.at' i (by omega)
  · by_cases q : i = k
    · subst q
      simp only [if_true]
      have := new_bytes (w.setCell ⟨g, i, none⟩ (.slice (some ⟨w.heap.size, 0, none⟩) s.size c)) s c e
      rw [hz, hs] at this
      rw [hs]
      exact Cel.congr this fun j hj => by rw [hv j hj]
    · simp only [if_neg q]
      have := h.up i (by omega)
      exact ((h.row i (by omega)).other (by simp; omega) _).alloc _
  · by_cases q : i = k
    · subst q; simp only [if_true]; exact hg
    · simp only [if_neg q]; exact h.up i (by omega)
  · by_cases q : i = k
    · subst q
      have := hb j (by omega)
      simp only [if_true, if_neg (fun e => hij (e : j = i).symm)]; omega
    · by_cases r : j = k
      · subst r
        have := hb i (by omega)
        simp only [if_true, if_neg q]; omega
      · simp only [if_neg q, if_neg r]; exact h.apart i j (by omega) (by omega) hij

/-- What bytesOf makes. -/
def Made (w w' : World) (g : Nat) (n : List ByteArray) : Prop := ∃ B cp f, Mat w' w.heap.size g n.length (fun i => (n.getD i ByteArray.empty).size) B cp f (Cp.at2 (labs n)) n.length

set_option maxHeartbeats 1000000 in
set_option maxRecDepth 100000 in
theorem bytesOf_any (x : Option Addr) (c : Nat) (n : List ByteArray) (w : World) (h : Strs w x c n) :
    Calls Tryd.prog 15 #[.slice x n.length c] w fun e w' => ∃ g, e = .returned (.slice (some ⟨g, 0, none⟩) n.length n.length) ∧ Made w w' g n ∧ Below w.heap.size w w' := by
  have hl : n.length ≤ 8796093022208 := h.2.1
  have hmk := run_make_row' (P := Tryd.prog) 42 40 (.slice none 0 0) 24 Tryd.underlying42 info_row rfl .i64 .i64 n.length (by omega) (by omega)
  go_enter Tryd.func15, Tryd.ntmps15
  go_wp2
  go_loopw [11] (fun d wr => ∃ (k : Nat) (B cp : Nat → Nat) (f : Nat → Value), k ≤ n.length ∧ d = .int .i64 (k : Int) ∧ Mat wr w.heap.size w.heap.size k (fun i => (n.getD i ByteArray.empty).size) B cp f (Cp.at2 (labs n)) n.length ∧ Below w.heap.size w wr) (fun d _ => n.length - (intOf d).toNat)
  case atStart => exact ⟨0, fun _ => 0, fun _ => 0, _, Nat.zero_le _, rfl, ⟨Cel.of_row (World.rowIs_made w _ _ _), Nat.le_refl _, fun i hi => by omega, fun i hi => by omega, fun i hi => by omega, fun i j hi => by omega⟩, (Below.refl _ _).alloc (Nat.le_refl _) _⟩
  case round =>
    obtain ⟨k, B, cp, f, hk, rfl, hm, hbel⟩ := hrel
    by_cases h1 : k < n.length
    · obtain ⟨_, _, sa, da⟩ := h.below hbel
      rcases da with da | ⟨ba, oa, rfl, _, qa⟩
      · rw [da] at h1; simp at h1
      have fa := qa k (by omega)
      have na := getD_mem_size sa k
      have HN := hid (fun (s : ByteArray) (hs : n.getD k ByteArray.empty = s) (c' : Nat) => hm.next h1 s (by rw [hs]) (fun j hj => by unfold Cp.at2; rw [labs_lab, hs]) c' 5 (fun i hi => (hm.row i hi).1))
      have c1 := hm.top.cell h1
      have c2 := hm.top.frozen h1
      have hsz := hm.top.1
      obtain ⟨s, hs⟩ : ∃ s, n.getD k ByteArray.empty = s := ⟨_, rfl⟩
      have HM := hid (HN.out s hs)
      rw [hs] at fa na
      have hrun := run_bytes_of_string (P := Tryd.prog) wr 9 40 5 s Tryd.underlying9 Tryd.underlying40 Tryd.underlying5
      clear hm qa sa HN
      have HS := hid hs
      clear hs
      go_wp2
      exact ⟨⟨k + 1, _, _, _, by omega, by go_num, HM.out _, ((hbel.setCell (Nat.le_refl _) _).alloc (by simp; exact hbel.size) _).drew⟩, by simp [intOf]; omega⟩
    · obtain rfl : k = n.length := by omega
      go_wp2
      go_ret
      exact ⟨_, rfl, ⟨B, cp, f, hm⟩, hbel⟩

/-- A row's text. -/
def rowS (sz : Nat → Nat) (V : Nat → Nat → Int) (i : Nat) : ByteArray := strOfNums ((List.range (sz i)).map (V i))
theorem rowS_size (sz : Nat → Nat) (V : Nat → Nat → Int) (i : Nat) : (rowS sz V i).size = sz i := by unfold rowS; rw [strOfNums_size]; simp

theorem texts_step {sz : Nat → Nat} {V : Nat → Nat → Int} {k : Nat} {f : Nat → Value} (hf : ∀ j, j < k → f j = .string (rowS sz V j)) :
    ∀ j, j < k + 1 → (if j = k then Value.string (rowS sz V k) else f j) = .string (rowS sz V j) := by
  intro j hj
  by_cases e : j = k
  · subst e; rw [if_pos rfl]
  · rw [if_neg e]; exact hf j (by omega)

set_option maxHeartbeats 1000000 in
set_option maxRecDepth 100000 in
theorem textsOf_any (g N n₀ : Nat) (sz B cp : Nat → Nat) (f : Nat → Value) (V : Nat → Nat → Int) (w : World) (hm : Mat w n₀ g N sz B cp f V N) (hN : N ≤ 8796093022208) (hs : ∀ i, i < N → sz i ≤ 140737488355328) :
    Calls Tryd.prog 17 #[.slice (some ⟨g, 0, none⟩) N N] w fun e w' => ∃ b, e = .returned (.slice (some ⟨b, 0, none⟩) N N) ∧ Strs w' (some ⟨b, 0, none⟩) N ((List.range N).map (rowS sz V)) ∧ Below w.heap.size w w' := by
  have hmk := run_make_row' (P := Tryd.prog) 22 9 (.string ByteArray.empty) 16 Tryd.underlying22 info_string rfl .i64 .i64 N (by omega) (by omega)
  go_enter Tryd.func17, Tryd.ntmps17
  go_wp2
  go_loopw [11] (fun d wr => ∃ (k : Nat) (f2 : Nat → Value), k ≤ N ∧ d = .int .i64 (k : Int) ∧ wr.rowIs w.heap.size 9 N f2 ∧ (∀ j, j < k → f2 j = .string (rowS sz V j)) ∧ Below w.heap.size w wr) (fun d _ => N - (intOf d).toNat)
  case atStart => exact ⟨0, _, Nat.zero_le _, rfl, World.rowIs_made w _ _ _, fun j hj => by omega, (Below.refl _ _).alloc (Nat.le_refl _) _⟩
  case round =>
    obtain ⟨k, f2, hk, rfl, hrow, hf, hbel⟩ := hrel
    by_cases h1 : k < N
    · have c0 := ((hm.top.below hbel).cell h1).trans (congrArg some (hm.at' k h1))
      have hr := (hm.row k h1).below hbel
      have c1 := hrow.cell h1
      have c2 := hrow.frozen k
      have hconv := run_convert_bytes_arg (P := Tryd.prog) wr 40 5 Tryd.underlying40 Tryd.underlying5 (B k) 0 (sz k) (cp k) ((List.range (sz k)).map (V k)) (by simp) (fun i hi => by rw [Nat.zero_add, hr.cell hi]; simp [List.getD, hi]) 9 Tryd.underlying9
      have hconv' : (convert 40 9 (.slice (some ⟨B k, 0, none⟩) (sz k) (cp k))).run Tryd.prog wr = .ok (.string (rowS sz V k)) wr := hconv
      have H := hid (texts_step hf)
      clear hf hconv hr
      go_wp2
      exact ⟨⟨k + 1, _, by omega, by go_num, hrow.set k _, H.out, hbel.setCell (Nat.le_refl _) _⟩, by simp [intOf]; omega⟩
    · have H := hid (fun j (hj : j < N) => hf j (by omega))
      clear hf
      go_wp2
      go_ret
      refine ⟨_, rfl, ⟨by simp, by simpa using hN, fun s h => ?_, Or.inr ⟨w.heap.size, 0, rfl, hrow.lt, fun i hi => ?_⟩⟩, hbel⟩
      · obtain ⟨i, hi, rfl⟩ := List.mem_map.1 h
        rw [rowS_size]; exact hs i (List.mem_range.1 hi)
      · have hi' : i < N := by simpa using hi
        rw [Nat.zero_add, hrow.cell hi', H.out i hi']
        simp [List.getD, hi']

end Go.Proofs.YtgfplkhcihcagabDoor
