/-
  The walk of Mix: a name with its letters made great and small.
-/
import Derived.Test.YtgfplkhcihcagabDoorCapMat
import Derived.Test.YtgfplkhcihcagabDoorLastIn
namespace Go.Proofs.YtgfplkhcihcagabDoor
open Go.RowKit Go.Deep Go.Shelf

attribute [local go_sem] Oper.semAt_some

/-- A slice leads to these bools. -/
def Bols (w : World) (x : Option Addr) (c : Nat) (bs : List Bool) : Prop :=
  bs.length ≤ c ∧ bs.length ≤ 140737488355328 ∧ (bs = [] ∨ ∃ b off, x = some ⟨b, off, none⟩ ∧ b < w.heap.size ∧ ∀ i, i < bs.length → w.cell? ⟨b, off + i, none⟩ = some (.bool (bs.getD i false)))
theorem Bols.below {w w' : World} {x : Option Addr} {c : Nat} {bs : List Bool} (h : Bols w x c bs) (k : Below w.heap.size w w') : Bols w' x c bs := by
  obtain ⟨h1, h2, h4⟩ := h
  refine ⟨h1, h2, ?_⟩
  rcases h4 with h4 | ⟨b, off, hx, hb, hc⟩
  · exact Or.inl h4
  · exact Or.inr ⟨b, off, hx, Nat.lt_of_lt_of_le hb k.size, fun i hi => by rw [k.cell (p := ⟨b, off + i, none⟩) hb]; exact hc i hi⟩

/-- A world that keeps an older one. -/
structure Cw (w : World) where
  val : World
  hb : Below w.heap.size w val
instance (w : World) : Nonempty (Cw w) := ⟨⟨w, Below.refl _ _⟩⟩
theorem wp_region_cw {id : Nat} {Q : Exit → Act → World → Prop} {a : Act} {w w0 : World} {l : List Oper} (hm : Tryd.prog.follows .mixedOrders = true) (hB : Region.lexB .any l.toArray = true) (hC : Below w0.heap.size w0 w)
    (h : wpQuiet Tryd.prog l.toArray (fun u => ∃ s : Cw w0, u = s.val) (fun a' => ∀ u, (∃ s : Cw w0, u = s.val) → Q .normal a' u) l a) : (Code.region id l.toArray true).wp Tryd.prog Q a w :=
  wp_region_quiet (C := fun u => ∃ s : Cw w0, u = s.val) hm hB ⟨⟨_, hC.drew⟩, rfl⟩ (by simpa using h)
theorem Calls.cw {f : FuncId} {args : Array Value} {w0 : World} {s : Cw w0} {v : Value} (h : Calls Tryd.prog f args s.val fun e w' => e = .returned v ∧ Below s.val.heap.size s.val w') :
    Calls Tryd.prog f args s.val fun e w'' => e = .returned v ∧ ∃ s' : Cw w0, w'' = s'.val :=
  h.mono fun _ w' ⟨he, hb⟩ => ⟨he, ⟨w', s.hb.trans (hb.mono s.hb.size)⟩, rfl⟩

set_option maxRecDepth 100000 in
set_option maxHeartbeats 4000000 in
theorem Mix_short (x y : Option Addr) (c d : Nat) (ns : List ByteArray) (bits : List Bool) (w : World) (hS : Strs w x c ns) (hN : (Cp.posN (labs ns)).length ≤ 4611686018427387904) (hk : bits.length < (Cp.posN (labs ns)).length) :
    Calls Tryd.prog 8 #[.slice x ns.length c, .slice y bits.length d] w fun e w' => e = .returned (.tuple #[.slice none 0 0, .iface 26 (.int .i64 2)]) ∧ Below w.heap.size w w' := by
  refine (callsIn_wide (n := 4)).1 ?_
  refine callsIn_of_wp_marks Tryd.func8 rfl trivial ?_ rfl
  simp only [Tryd.ntmps8, List.size_toArray, List.length_cons, List.length_nil, Nat.reduceAdd, Nat.reduceSub, Array.replicate_succ, Array.replicate_zero, List.push_toArray, List.append_toArray, List.nil_append, List.cons_append]
  have hk' : (bits.length : Int) < ((Cp.posN (labs ns)).length : Int) := by omega
  gi_wp2_with fail
  refine wpIn_wide.2 ?_
  have B0 : Below w.heap.size w (w.alloc (.cells #[.slice y bits.length d] 23)) := (Below.refl _ w).alloc (Nat.le_refl _) _
  obtain ⟨w0, hw0⟩ : ∃ u, u = w.alloc (.cells #[.slice y bits.length d] 23) := ⟨_, rfl⟩
  have bX := Boxed.new w 23 (.slice y bits.length d)
  rw [← hw0] at B0 bX ⊢
  have xc0 : ∀ s : Cw w0, s.val.cell? ⟨w.heap.size, 0, none⟩ = some (.slice y bits.length d) := fun s => (s.hb.cell (p := ⟨w.heap.size, 0, none⟩) bX.lt).trans bX.cell
  have Q1 : Hid (∀ s : Cw w0, Calls Tryd.prog 6 #[.slice x ns.length c] s.val fun e w'' => e = .returned (.int .i64 ((Cp.posN (labs ns)).length : Int)) ∧ ∃ s' : Cw w0, w'' = s'.val) :=
    hid fun s => Calls.cw (Letters_any x c ns s.val ((hS.below B0).below s.hb) hN)
  have BE : Hid (∀ u, (∃ s : Cw w0, u = s.val) → Below w.heap.size w u) := hid fun u ⟨s, hs⟩ => by rw [hs]; exact B0.trans (s.hb.mono B0.size)
  refine wp_region_cw (w0 := w0) (by kernel_rfl) (by kernel_rfl) (Below.refl _ _) ?_
  repeat (go_big_quiet_step (first | (go_at_call 6; exact Q1.out _)))
  refine wpQuiet_nil ?_
  intro u hu
  have BU := BE.out u hu
  clear hu xc0 Q1 BE
  gi_wp2
  exact ⟨_, results_tmp2 rfl _ _ _, rfl, BU⟩

/-- Rows of bytes with some letters turned. -/
def MatI (W : World) (n₀ g : Nat) (n : List ByteArray) (B cp : Nat → Nat) (f : Nat → Value) (V : Nat → Nat → Int) : Prop := Mat W n₀ g n.length (fun i => (n.getD i ByteArray.empty).size) B cp f V n.length

theorem Mat.kept {w w' : World} {r : Option Nat} {n₀ g k N : Nat} {sz B cp : Nat → Nat} {f : Nat → Value} {V : Nat → Nat → Int} (h : Mat w n₀ g k sz B cp f V N) (hg : w.grownBy w' r) (hr : ∀ k, r = some k → ∃ o : Obj, w.heap[k]? = some o ∧ o.isCells = false) : Mat w' n₀ g k sz B cp f V N :=
  ⟨h.top.kept hg hr, h.base, h.at', fun i hi => (h.row i hi).kept hg hr, h.up, h.apart⟩
theorem Mat.below {w w' : World} {n₀ g k N : Nat} {sz B cp : Nat → Nat} {f : Nat → Value} {V : Nat → Nat → Int} (h : Mat w n₀ g k sz B cp f V N) (hb : Below w.heap.size w w') : Mat w' n₀ g k sz B cp f V N :=
  ⟨h.top.below hb, h.base, h.at', fun i hi => (h.row i hi).below hb, h.up, h.apart⟩
theorem Mat.lt {w : World} {n₀ g k N : Nat} {sz B cp : Nat → Nat} {f : Nat → Value} {V : Nat → Nat → Int} (h : Mat w n₀ g k sz B cp f V N) (i : Nat) (hi : i < k) : B i < w.heap.size := (h.row i hi).1
/-- A store into a block that is none of theirs. -/
theorem Mat.other {w : World} {n₀ g k N : Nat} {sz B cp : Nat → Nat} {f : Nat → Value} {V : Nat → Nat → Int} (h : Mat w n₀ g k sz B cp f V N) {a : Addr} (ha : a.block ≠ g) (hB : ∀ i, i < k → a.block ≠ B i) (v : Value) : Mat (w.setCell a v) n₀ g k sz B cp f V N :=
  ⟨h.top.other ha v, h.base, h.at', fun i hi => (h.row i hi).other (hB i hi) v, h.up, h.apart⟩
/-- A byte stored. -/
theorem Mat.put {w : World} {n₀ g k N : Nat} {sz B cp : Nat → Nat} {f : Nat → Value} {V : Nat → Nat → Int} (h : Mat w n₀ g k sz B cp f V N) {i j : Nat} (hi : i < k) (hj : j < sz i) (x : Int) :
    Mat (w.setCell ⟨B i, j, none⟩ (.int .u8 x)) n₀ g k sz B cp f (fun a b => if a = i ∧ b = j then x else V a b) N := by
  have hu := h.up i hi
  refine ⟨h.top.other (by simp; omega) _, h.base, h.at', fun a ha => ?_, h.up, h.apart⟩
  by_cases e : a = i
  · subst e
    refine ((h.row a ha).set hj (.int .u8 x)).congr fun b hb => ?_
    by_cases q : b = j
    · simp [q]
    · simp [q]
  · refine ((h.row a ha).other (fun q => h.apart a i ha hi e q.symm) _).congr fun b hb => ?_
    simp [e]

theorem matI_own (n₀ g : Nat) (n : List ByteArray) (bits : List Bool) (B cp : Nat → Nat) (f : Nat → Value) : Own (fun (pre : List (Cp.Pos (labs n))) W => MatI W n₀ g n B cp f (Cp.after bits pre).2) :=
  fun _ _ _ _ hs hg hr => Mat.kept hs hg hr
theorem Boxed.far {W : World} {B : Nat} {t : TypeId} {v : Value} (h : Boxed W B t v) {a : Addr} (hne : a.block ≠ B) (u : Value) : Boxed (W.setCell a u) B t v := (Below.heap_setCell W a u B (fun e => hne (by rw [← e]))).trans h

theorem Strs.putObj {w : World} {x : Option Addr} {c l : Nat} {ss : List ByteArray} {o : Obj} (h : Strs w x c ss) (o' : Obj) (hl : w.heap[l]? = some o) (ho : o.isCells = false) : Strs (w.putObj l o') x c ss := by
  obtain ⟨h1, h2, h3, h4⟩ := h
  refine ⟨h1, h2, h3, ?_⟩
  rcases h4 with h4 | ⟨b, off, hx, hb, hc⟩
  · exact Or.inl h4
  · exact Or.inr ⟨b, off, hx, Nat.lt_of_lt_of_le hb (grownBy_putObj' w l o').size, fun i hi => cell_kept (hc i hi) (grownBy_putObj' w l o') (fun k e => by cases e; exact ⟨o, hl, ho⟩)⟩
theorem mix_texts (n : List ByteArray) (bits : List Bool) : (Cp.mixN (labs n) bits).map strOfNums = (List.range n.length).map (rowS (fun i => (n.getD i ByteArray.empty).size) (Cp.val (labs n) bits)) := by
  unfold Cp.mixN
  rw [List.map_map]
  have e : (labs n).length = n.length := by simp
  rw [e]
  refine List.map_congr_left fun i _ => ?_
  unfold rowS
  simp only [Function.comp]
  rw [labs_lab_len]

theorem Strs.len {w : World} {x : Option Addr} {c : Nat} {ss : List ByteArray} (h : Strs w x c ss) : ss.length ≤ 8796093022208 := h.2.1

set_option maxRecDepth 100000 in
set_option maxHeartbeats 4000000 in
theorem Mix_good (x y : Option Addr) (c d : Nat) (ns : List ByteArray) (bits : List Bool) (w : World) (hS : Strs w x c ns) (hY : Bols w y d bits) (hN : (Cp.posN (labs ns)).length ≤ 4611686018427387904) (hk : (Cp.posN (labs ns)).length ≤ bits.length) :
    Calls Tryd.prog 8 #[.slice x ns.length c, .slice y bits.length d] w fun e w' => ∃ b, e = .returned (.tuple #[.slice (some ⟨b, 0, none⟩) ns.length ns.length, .nilIface]) ∧ Strs w' (some ⟨b, 0, none⟩) ns.length ((Cp.mixN (labs ns) bits).map strOfNums) ∧ Below w.heap.size w w' := by
  have hl : ns.length ≤ 8796093022208 := hS.2.1
  refine (callsIn_wide (n := 4)).1 ?_
  refine callsIn_of_wp_marks Tryd.func8 rfl trivial ?_ rfl
  simp only [Tryd.ntmps8, List.size_toArray, List.length_cons, List.length_nil, Nat.reduceAdd, Nat.reduceSub, Array.replicate_succ, Array.replicate_zero, List.push_toArray, List.append_toArray, List.nil_append, List.cons_append]
  have hk' : ¬ (bits.length : Int) < ((Cp.posN (labs ns)).length : Int) := by omega
  gi_wp2_with fail
  refine wpIn_wide.2 ?_
  have B0 : Below w.heap.size w (w.alloc (.cells #[.slice y bits.length d] 23)) := (Below.refl _ w).alloc (Nat.le_refl _) _
  obtain ⟨w0, hw0⟩ : ∃ u, u = w.alloc (.cells #[.slice y bits.length d] 23) := ⟨_, rfl⟩
  have bX := Boxed.new w 23 (.slice y bits.length d)
  rw [← hw0] at B0 bX ⊢
  have xc0 : ∀ s : Cw w0, s.val.cell? ⟨w.heap.size, 0, none⟩ = some (.slice y bits.length d) := fun s => (s.hb.cell (p := ⟨w.heap.size, 0, none⟩) bX.lt).trans bX.cell
  have Q1 : Hid (∀ s : Cw w0, Calls Tryd.prog 6 #[.slice x ns.length c] s.val fun e w'' => e = .returned (.int .i64 ((Cp.posN (labs ns)).length : Int)) ∧ ∃ s' : Cw w0, w'' = s'.val) :=
    hid fun s => Calls.cw (Letters_any x c ns s.val ((hS.below B0).below s.hb) hN)
  have BE : Hid (∀ u, (∃ s : Cw w0, u = s.val) → Below w.heap.size w u ∧ Boxed u w.heap.size 23 (.slice y bits.length d)) := hid fun u ⟨s, hs⟩ => by rw [hs]; exact ⟨B0.trans (s.hb.mono B0.size), (s.hb.block _ bX.lt).trans bX⟩
  refine wp_region_cw (w0 := w0) (by kernel_rfl) (by kernel_rfl) (Below.refl _ _) ?_
  repeat (go_big_quiet_step (first | (go_at_call 6; exact Q1.out _)))
  refine wpQuiet_nil ?_
  intro u hu
  obtain ⟨BU, bU⟩ := BE.out u hu
  clear hu xc0 Q1 BE bX B0 hw0
  clear w0
  gi_wp2_with (first
    | (refine ⟨trivial, ?_⟩; gi_at_call 15; refine (callsIn_wide.2 (bytesOf_any x c ns u (hS.below BU))).mono ?_; rintro e w1 ⟨g, rfl, hmade, B1⟩)
    | (refine ⟨trivial, ?_⟩; gi_at_call 12; refine (callsIn_wide.2 (letters_any _ _ _ _)).mono ?_; rintro e w' ⟨rfl, rfl⟩))
  obtain ⟨B, cp, f, hm⟩ := hmade
  have BW1 : Below w.heap.size w w1 := BU.trans (B1.mono BU.size)
  have bX1 : Boxed w1 w.heap.size 23 (.slice y bits.length d) := (B1.block _ bU.lt).trans bU
  have hug : u.heap.size ≤ g := hm.base
  have huw : w.heap.size < u.heap.size := bU.lt
  have hgw : g < w1.heap.size := hm.top.1
  have bM := Boxed.new w1 42 (.slice (some ⟨g, 0, none⟩) ns.length ns.length)
  have bN := Boxed.new (w1.alloc (.cells #[.slice (some ⟨g, 0, none⟩) ns.length ns.length] 42)) 3 (.int .i64 0)
  have bL := Boxed.new ((w1.alloc (.cells #[.slice (some ⟨g, 0, none⟩) ns.length ns.length] 42)).alloc (.cells #[.int .i64 0] 3)) 22 (.slice x ns.length c)
  rw [World.size_alloc] at bN
  rw [World.size_alloc, World.size_alloc] at bL
  have hsz1 := BW1.size
  have hB0 : Below w.heap.size w (((w1.alloc (.cells #[.slice (some ⟨g, 0, none⟩) ns.length ns.length] 42)).alloc (.cells #[.int .i64 0] 3)).alloc (.cells #[.slice x ns.length c] 22)) := ((BW1.alloc hsz1 _).alloc (by simp; omega) _).alloc (by simp; omega) _
  have hm3 : MatI (((w1.alloc (.cells #[.slice (some ⟨g, 0, none⟩) ns.length ns.length] 42)).alloc (.cells #[.int .i64 0] 3)).alloc (.cells #[.slice x ns.length c] 22)) u.heap.size g ns B cp f (Cp.after bits ([] : List (Cp.Pos (labs ns)))).2 :=
    Mat.below hm ((((Below.refl _ _).alloc (Nat.le_refl _) _).alloc (by simp) _).alloc (by simp; omega) _)
  have hBlt := hm.lt
  have hBup := hm.up
  clear hm B1 bU BU
  refine wpIn_rangeFunc_ownG rfl (by decide) (gf := 19) (lb := #[.pointer (some ⟨w1.heap.size + 2, 0, none⟩)]) rfl trivial (enters_of Tryd.func19 (by kernel_rfl) rfl)
    (letters_stops 3 (by decide) (w1.heap.size + 2) w.heap.size x c ns _ (by simp) (by simp; omega) bL.cell (hS.at.below hB0)) belowK_t (belowK_b (by simp; omega)) (Below.refl _ _) (fun _ => rfl)
    (fun pre W => (((Boxed W w.heap.size 23 (.slice y bits.length d) ∧ Boxed W w1.heap.size 42 (.slice (some ⟨g, 0, none⟩) ns.length ns.length)) ∧ Boxed W (w1.heap.size + 1) 3 (.int .i64 (pre.length : Int))) ∧ MatI W u.heap.size g ns B cp f (Cp.after bits pre).2) ∧ Below w.heap.size w W)
    (fun _ _ _ => False)
    (OwnFrom.and (OwnFrom.and (OwnFrom.and (OwnFrom.and (Own.from (boxed_own _ _ _) _) (Own.from (boxed_own _ _ _) _)) (Own.from (boxed_own _ _ (fun (pre : List (Cp.Pos (labs ns))) => .int .i64 (pre.length : Int))) _)) (Own.from (matI_own u.heap.size g ns bits B cp f) _)) (ownFrom_below (Nat.le_refl _) (by simp; omega)))
    (fun _ _ _ _ _ hs _ _ => hs)
    ⟨⟨⟨⟨((bX1.alloc _).alloc _).alloc _, (bM.alloc _).alloc _⟩, bN.alloc _⟩, hm3⟩, hB0⟩
    (fun p => { tmps := #[.slice x ns.length c, .slice y bits.length d, undef, .pointer (some ⟨w.heap.size, 0, none⟩), .slice none 0 0, .nilIface, .pointer (some ⟨w1.heap.size, 0, none⟩), .pointer (some ⟨w1.heap.size + 1, 0, none⟩), .int .i64 (p.1.1 : Int), .int .i64 (p.1.2 : Int), .slice y bits.length d,
      .int .i64 (bits.length : Int), .slice x ns.length c, .int .i64 ((Cp.posN (labs ns)).length : Int), .bool false, undef, .slice x ns.length c, .slice (some ⟨g, 0, none⟩) ns.length ns.length, .slice x ns.length c, .func (.func 19) #[] #[.pointer (some ⟨w1.heap.size + 2, 0, none⟩)], .int .i64 (p.1.1 : Int), .int .i64 (p.1.2 : Int),
      undef, undef, undef, undef, undef, undef, undef, undef, undef, undef, undef, undef, undef, undef, undef, undef, undef, undef, undef, undef, undef, undef], defers := [] }) ?assign ?body ?done ?stop
  case assign =>
    intro l x W K hK
    gi_wp2
    simpa using hK
  case body =>
    rintro l pre p W ⟨⟨⟨⟨hb, hmx⟩, hn⟩, hm⟩, hB⟩ hlt
    obtain ⟨⟨i, j⟩, hok⟩ := p
    have h1 : i < ns.length := by simpa using hok.1
    have h2 : j < (ns.getD i ByteArray.empty).size := by have := hok.2.1; rwa [labs_lab_len] at this
    obtain ⟨z, hzz⟩ : ∃ z, (ns.getD i ByteArray.empty).size = z := ⟨_, rfl⟩
    have h2' : (j : Int) < (z : Int) := by omega
    have h3 : pre.length < bits.length := by omega
    have hz : z ≤ 140737488355328 := by rw [← hzz]; exact getD_mem_size hS.2.2.1 i
    have hBi1 := hBlt i h1
    have hBi2 := hBup i h1
    obtain ⟨by1, _, hyd⟩ := hY.below (hB.mono (Nat.le_refl _))
    rcases hyd with hyd | ⟨bb, ob, rfl, hbb, qb⟩
    · rw [hyd] at h3; simp at h3
    have cb := qb pre.length h3
    have fm : W.cell? ⟨g, i, none⟩ = some (.slice (some ⟨B i, 0, none⟩) z (cp i)) := by rw [← hzz]; exact (hm.top.cell h1).trans (congrArg some (hm.at' i h1))
    have fv := (hm.row i h1).cell h2
    have fz := (hm.row i h1).frozen h2
    have hlet := Cp.after_letter bits pre hok
    have HS := hid (Cp.after_snoc bits pre ⟨(i, j), hok⟩)
    have HF := hid (Cp.after_fst bits pre)
    have cbx := hb.cell
    have cmx := hmx.cell
    have cnx := hn.cell
    have fnx := hn.frozen
    have HM := hid hm
    obtain ⟨v, hv⟩ : ∃ v, (Cp.after bits pre).2 i j = v := ⟨_, rfl⟩
    obtain ⟨bt, hbt⟩ : ∃ bt, bits.getD pre.length false = bt := ⟨_, rfl⟩
    obtain ⟨r, hr⟩ : ∃ r, Cp.sized v bt = r := ⟨_, rfl⟩
    have hs2 := hid h2
    clear h2 hzz
    rw [hv] at fv hlet
    rw [hbt] at cb
    have HV := hid hv
    have HBT := hid hbt
    have HR := hid hr
    have HL := hid hlet
    clear hm hv hbt hr hlet qb hm3
    gi_wp2
    refine wpIn_region_last _ (by kernel_rfl) rfl (by kernel_rfl) (by kernel_rfl) (fun _ _ h => h) ?_
    simp only [List.dropLast_cons_cons, List.dropLast_singleton]
    repeat (go_big_quiet_step (first | (go_at_call 16; exact Calls.quiet_of_same (sized_at bt v r _ HL.out HR.out))))
    refine wpQuiet_nil ?_
    intro _ hw'
    obtain ⟨nq, rfl⟩ := hw'
    simp only [List.getLast_cons_cons, List.getLast_singleton]
    refine wp_then fun K' Q' hK' => ?_
    go_simp
    refine hK' _ _ ?_
    clear hK'
    have cnx2 : ((W.setCell ⟨B i, j, none⟩ (.int .u8 r)).drewN nq).cell? ⟨w1.heap.size + 1, 0, none⟩ = some (.int .i64 (pre.length : Int)) := (World.cell?_setCell_far W ⟨B i, j, none⟩ ⟨w1.heap.size + 1, 0, none⟩ _ (by simp; omega)).trans cnx
    have hpl : (pre.length : Int) < 4611686018427387904 := by omega
    gi_wp2
    have e1 : ∀ k, k < ns.length → w1.heap.size + 1 ≠ B k := fun k hk => by have := hBlt k hk; omega
    have hVe : (fun a b => if a = i ∧ b = j then r else (Cp.after bits pre).2 a b) = (Cp.after bits (pre ++ [⟨(i, j), hok⟩])).2 := by
      rw [HS.out]
      funext a b
      unfold Cp.step
      simp only
      by_cases q : a = i ∧ b = j
      · rw [if_pos q, if_pos q, q.1, q.2, HV.out, HF.out, HBT.out, HR.out]
      · rw [if_neg q, if_neg q]
    have hU : Mat ((W.drewN nq).setCell ⟨B i, j, none⟩ (.int .u8 r)) u.heap.size g ns.length (fun i => (ns.getD i ByteArray.empty).size) B cp f (fun a b => if a = i ∧ b = j then r else (Cp.after bits pre).2 a b) ns.length :=
      (Mat.below HM.out (below_drewN (Below.refl W.heap.size W) nq)).put h1 hs2.out r
    rw [hVe] at hU
    have hbU : Boxed (W.drewN nq) w.heap.size 23 (.slice (some ⟨bb, ob, none⟩) bits.length d) := hb
    have hmU : Boxed (W.drewN nq) w1.heap.size 42 (.slice (some ⟨g, 0, none⟩) ns.length ns.length) := hmx
    have hnU : Boxed (W.drewN nq) (w1.heap.size + 1) 3 (.int .i64 (pre.length : Int)) := hn
    have hK0 : KeepsOthers W (W.drewN nq) := ⟨Nat.le_refl _, fun _ _ h _ => h⟩
    have hBel : Below w.heap.size W (((W.drewN nq).setCell ⟨B i, j, none⟩ (.int .u8 r)).setCell ⟨w1.heap.size + 1, 0, none⟩ (.int .i64 ((pre.length : Int) + 1))) :=
      ((below_drewN (Below.refl w.heap.size W) nq).setCell (p := ⟨B i, j, none⟩) (by simp; omega) _).setCell (p := ⟨w1.heap.size + 1, 0, none⟩) (by simp; omega) _
    refine ⟨((hK0.trans (KeepsOthers.setCell _ _ _)).trans (KeepsOthers.setCell _ _ _)).from _, hBel, ⟨⟨⟨Boxed.far (Boxed.far hbU (by simp; omega) _) (by simp; omega) _, Boxed.far (Boxed.far hmU (by simp; omega) _) (by simp) _⟩, ?_⟩, hU.other (by simp; omega) e1 _⟩, hB.trans hBel⟩
    have := (Boxed.far hnU (a := ⟨B i, j, none⟩) (by simp; omega) (.int .u8 r)).set (.int .i64 ((pre.length : Int) + 1))
    simpa using this
  case done =>
    rintro D ys W hD rfl ⟨⟨⟨⟨hb, hmx⟩, hn⟩, hm⟩, hB⟩ hK
    have cmx := hmx.cell
    have HM := hid hm
    have hVe : (Cp.after bits (Cp.posN (labs ns))).2 = Cp.val (labs ns) bits := by funext a b; exact Cp.after_all _ _ a b
    rw [hVe] at hm
    have HT := hid (textsOf_any g ns.length u.heap.size _ B cp f _ W hm hl (fun i hi => getD_mem_size hS.2.2.1 i))
    clear hm hVe hm3
    gi_wp2_with (refine ⟨trivial, ?_⟩; gi_at_call 17; refine (callsIn_wide.2 HT.out).mono ?_; rintro e w5 ⟨b5, rfl, hs5, B5⟩)
    have hlt : D < W.heap.size := (Array.getElem?_eq_some_iff.1 hK).1
    have hK' := (B5.block D hlt).trans hK
    refine ⟨by simp, .inl ⟨_, _, rfl, run_takeDeferred hK', ?_⟩⟩
    rw [← mix_texts] at hs5
    exact ⟨_, results_tmp2 rfl _ _ _, b5, rfl, Strs.putObj hs5 _ hK' rfl, (hB.trans (B5.mono hB.size)).trans (belowK_b (w := w) (Nat.le_refl _) w5 D _ _ (by simp at hD; omega) hK' rfl rfl)⟩
  case stop =>
    rintro D c pre W _ _ h _
    exact h.elim

end Go.Proofs.YtgfplkhcihcagabDoor
