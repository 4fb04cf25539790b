/-
  The walks of package fresh's each: a list of copies of questions, of records, in memory of its own. Plain: with one record more behind its last ones a message is sent as it was, but for how many there are, and longer; no message is longer than its parts. Rows of records of the call's own whose parts lie in memory that was there; a record appended to one; contracts of Write with its bytes' block. The walk of package fresh's Message: the same message in memory of its own. The walk of package edns' Drop: the message without records of type 41 in its last section, in memory of its own. The walk of package edns' Find: what a message tells of itself. The walk of package edns' Set: a message that tells this of itself.
-/
import Derived.Test.YtbbgabdiikdjpaaDoorJF
import Derived.Test.YtbbgabdiikdjpaaDoorMgAll
import Derived.Test.YtbbgabdiikdjpaaDoorJE
import Derived.Test.YtbbgabdiikdjpaaDoorMsgBytes
import Derived.Test.YtbbgabdiikdjpaaDoorMgRead
import Derived.Deep.RegionHeld3
namespace Go.Proofs.YtbbgabdiikdjpaaDoor
open Go.RowKit Go.Deep

theorem set5 (X Y : List Value) (a0 a1 a2 a3 a4 v0 v1 v2 v3 v4 : Value) : (((((X ++ a0 :: a1 :: a2 :: a3 :: a4 :: Y).set X.length v0).set (X.length + 1) v1).set (X.length + 2) v2).set (X.length + 3) v3).set (X.length + 4) v4 = X ++ v0 :: v1 :: v2 :: v3 :: v4 :: Y := by
  simp

theorem set3 (X Y : List Value) (a0 a1 a2 v0 v1 v2 : Value) : (((X ++ a0 :: a1 :: a2 :: Y).set X.length v0).set (X.length + 1) v1).set (X.length + 2) v2 = X ++ v0 :: v1 :: v2 :: Y := by
  simp

theorem grown_set {w w' : World} {g : Nat} (h : w.grownBy w' (some g)) (o : Nat) (v : Value) : w.grownBy (w'.setCell ⟨g, o, none⟩ v) (some g) :=
  ⟨h.os, h.tape, h.output, by simpa [World.setCell] using h.size, fun k hk hne => by rw [Below.heap_setCell w' ⟨g, o, none⟩ v k (fun e => hne (by rw [e]))]; exact h.block k hk hne⟩

theorem grown_refl (w : World) (r : Option Nat) : w.grownBy w r := ⟨rfl, rfl, rfl, Nat.le_refl _, fun _ _ _ => rfl⟩

theorem owns_put5 {w : World} {B g n cap t : Nat} {X Y : List Value} {a0 a1 a2 a3 a4 : Value} (h : w.ownsRow B t 5 (.slice (some ⟨g, 0, none⟩) n cap) n (X ++ a0 :: a1 :: a2 :: a3 :: a4 :: Y)) (o : Nat) (ho : X.length = o) (v0 v1 v2 v3 v4 : Value) :
    (((((w.setCell ⟨g, o, none⟩ v0).setCell ⟨g, o + 1, none⟩ v1).setCell ⟨g, o + 2, none⟩ v2).setCell ⟨g, o + 3, none⟩ v3).setCell ⟨g, o + 4, none⟩ v4).ownsRow B t 5 (.slice (some ⟨g, 0, none⟩) n cap) n (X ++ v0 :: v1 :: v2 :: v3 :: v4 :: Y) := by
  subst ho
  have := (((((h.stored X.length v0).1.stored (X.length + 1) v1).1.stored (X.length + 2) v2).1.stored (X.length + 3) v3).1.stored (X.length + 4) v4).1
  rw [set5] at this
  exact this

theorem owns_put3 {w : World} {B g n cap t : Nat} {X Y : List Value} {a0 a1 a2 : Value} (h : w.ownsRow B t 3 (.slice (some ⟨g, 0, none⟩) n cap) n (X ++ a0 :: a1 :: a2 :: Y)) (o : Nat) (ho : X.length = o) (v0 v1 v2 : Value) :
    (((w.setCell ⟨g, o, none⟩ v0).setCell ⟨g, o + 1, none⟩ v1).setCell ⟨g, o + 2, none⟩ v2).ownsRow B t 3 (.slice (some ⟨g, 0, none⟩) n cap) n (X ++ v0 :: v1 :: v2 :: Y) := by
  subst ho
  have := (((h.stored X.length v0).1.stored (X.length + 1) v1).1.stored (X.length + 2) v2).1
  rw [set3] at this
  exact this

theorem grown_put5 (w : World) (g o : Nat) (v0 v1 v2 v3 v4 : Value) : w.grownBy (((((w.setCell ⟨g, o, none⟩ v0).setCell ⟨g, o + 1, none⟩ v1).setCell ⟨g, o + 2, none⟩ v2).setCell ⟨g, o + 3, none⟩ v3).setCell ⟨g, o + 4, none⟩ v4) (some g) :=
  grown_set (grown_set (grown_set (grown_set (grown_set (grown_refl w _) o v0) (o + 1) v1) (o + 2) v2) (o + 3) v3) (o + 4) v4

theorem grown_put3 (w : World) (g o : Nat) (v0 v1 v2 : Value) : w.grownBy (((w.setCell ⟨g, o, none⟩ v0).setCell ⟨g, o + 1, none⟩ v1).setCell ⟨g, o + 2, none⟩ v2) (some g) :=
  grown_set (grown_set (grown_set (grown_refl w _) o v0) (o + 1) v1) (o + 2) v2

/-- So many records of a row of the call's own are copies in its own memory; the others lead to memory that was there. -/
def EachR (w : World) (rs : List Rn) (g cap : Nat) (vi : Value) (wr : World) : Prop :=
  ∃ A M : List (Rn × (Option Addr × Nat) × (Option Addr × Nat)), (A ++ M).map (·.1) = rs ∧ vi = .int .i64 (A.length : Int) ∧ wr.ownsRow w.heap.size 67 5 (.slice (some ⟨g, 0, none⟩) rs.length cap) rs.length ((A ++ M).flatMap rcells) ∧
    (∀ e ∈ A, (Strs wr e.2.1.1 e.2.1.2 e.1.N ∧ ∀ a, e.2.1.1 = some a → w.heap.size ≤ a.block ∧ (e.1.N = [] ∨ some a.block ≠ some g)) ∧ Bys wr e.2.2.1 e.2.2.2 e.1.D ∧ (e.2.2.1 = none → e.2.2.2 = 0) ∧ ∀ a, e.2.2.1 = some a → w.heap.size ≤ a.block ∧ (e.1.D = [] ∨ some a.block ≠ some g)) ∧
    (∀ e ∈ M, Strs w e.2.1.1 e.2.1.2 e.1.N ∧ Bys w e.2.2.1 e.2.2.2 e.1.D) ∧ Below w.heap.size w wr

theorem EachR.next {w w1 : World} {g cap o : Nat} {A M : List (Rn × (Option Addr × Nat) × (Option Addr × Nat))} {x : Rn × (Option Addr × Nat) × (Option Addr × Nat)} {rs : List Rn} {y z : Option Addr} {s t : Nat} (h1 : (A ++ x :: M).map (·.1) = rs) (ho : A.length * 5 = o)
    (h2 : w1.ownsRow w.heap.size 67 5 (.slice (some ⟨g, 0, none⟩) rs.length cap) rs.length ((A ++ x :: M).flatMap rcells))
    (h3 : ∀ e ∈ A, (Strs w1 e.2.1.1 e.2.1.2 e.1.N ∧ ∀ a, e.2.1.1 = some a → w.heap.size ≤ a.block ∧ (e.1.N = [] ∨ some a.block ≠ some g)) ∧ Bys w1 e.2.2.1 e.2.2.2 e.1.D ∧ (e.2.2.1 = none → e.2.2.2 = 0) ∧ ∀ a, e.2.2.1 = some a → w.heap.size ≤ a.block ∧ (e.1.D = [] ∨ some a.block ≠ some g))
    (h4 : ∀ e ∈ x :: M, Strs w e.2.1.1 e.2.1.2 e.1.N ∧ Bys w e.2.2.1 e.2.2.2 e.1.D) (h5 : Below w.heap.size w w1) (hg : w.heap.size ≤ g) (k1 : Strs w1 y s x.1.N) (k2 : Bys w1 z t x.1.D) (k3 : z = none → t = 0) (k4 : ∀ a, y = some a → g < a.block) (k5 : ∀ a, z = some a → g < a.block) :
    EachR w rs g cap (.int .i64 ((A.length : Int) + 1)) (((((w1.setCell ⟨g, o, none⟩ (.slice y x.1.N.length s)).setCell ⟨g, o + 1, none⟩ (.int .i64 x.1.ty)).setCell ⟨g, o + 2, none⟩ (.int .i64 x.1.cl)).setCell ⟨g, o + 3, none⟩ (.int .i64 x.1.ttl)).setCell ⟨g, o + 4, none⟩ (.slice z x.1.D.length t)) := by
  have hgr := grown_put5 w1 g o (.slice y x.1.N.length s) (.int .i64 x.1.ty) (.int .i64 x.1.cl) (.int .i64 x.1.ttl) (.slice z x.1.D.length t)
  refine ⟨A ++ [(x.1, (y, s), (z, t))], M, by rw [← h1]; simp, by simp, ?_, fun e he => ?_, fun e he => h4 e (List.mem_cons_of_mem _ he), below_put h5 hg⟩
  · have e1 : (A ++ x :: M).flatMap rcells = A.flatMap rcells ++ .slice x.2.1.1 x.1.N.length x.2.1.2 :: .int .i64 x.1.ty :: .int .i64 x.1.cl :: .int .i64 x.1.ttl :: .slice x.2.2.1 x.1.D.length x.2.2.2 :: M.flatMap rcells := by simp [rcells]
    have e2 : (A ++ [(x.1, (y, s), (z, t))] ++ M).flatMap rcells = A.flatMap rcells ++ .slice y x.1.N.length s :: .int .i64 x.1.ty :: .int .i64 x.1.cl :: .int .i64 x.1.ttl :: .slice z x.1.D.length t :: M.flatMap rcells := by simp [rcells]
    rw [e1] at h2
    rw [e2]
    exact owns_put5 h2 o (by rw [flat_len rcells 5 (fun a => rfl)]; exact ho) _ _ _ _ _
  · rcases List.mem_append.1 he with he | he
    · obtain ⟨⟨q1, q2⟩, q3, q4, q5⟩ := h3 e he
      exact ⟨⟨q1.kept hgr (fun a ha => (q2 a ha).2), q2⟩, q3.kept hgr (fun a ha => (q5 a ha).2), q4, q5⟩
    · rw [List.mem_singleton.1 he]
      have n4 : ∀ a, y = some a → w.heap.size ≤ a.block ∧ (x.1.N = [] ∨ some a.block ≠ some g) := fun a ha => ⟨by have := k4 a ha; omega, Or.inr (fun q => by have := k4 a ha; cases q; omega)⟩
      have n5 : ∀ a, z = some a → w.heap.size ≤ a.block ∧ (x.1.D = [] ∨ some a.block ≠ some g) := fun a ha => ⟨by have := k5 a ha; omega, Or.inr (fun q => by have := k5 a ha; cases q; omega)⟩
      exact ⟨⟨k1.kept hgr (fun a ha => (n4 a ha).2), n4⟩, k2.kept hgr (fun a ha => (n5 a ha).2), k3, n5⟩
where
  below_put {o : Nat} {w w1 : World} {g : Nat} {v0 v1 v2 v3 v4 : Value} (h5 : Below w.heap.size w w1) (hg : w.heap.size ≤ g) : Below w.heap.size w (((((w1.setCell ⟨g, o, none⟩ v0).setCell ⟨g, o + 1, none⟩ v1).setCell ⟨g, o + 2, none⟩ v2).setCell ⟨g, o + 3, none⟩ v3).setCell ⟨g, o + 4, none⟩ v4) :=
    ((((h5.setCell hg v0).setCell hg v1).setCell hg v2).setCell hg v3).setCell hg v4

theorem EachR.done {w wr : World} {rs : List Rn} {g cap : Nat} {A M : List (Rn × (Option Addr × Nat) × (Option Addr × Nat))} (h1 : (A ++ M).map (·.1) = rs) (h0 : rs.length ≤ A.length) (h2 : wr.ownsRow w.heap.size 67 5 (.slice (some ⟨g, 0, none⟩) rs.length cap) rs.length ((A ++ M).flatMap rcells))
    (h3 : ∀ e ∈ A, (Strs wr e.2.1.1 e.2.1.2 e.1.N ∧ ∀ a, e.2.1.1 = some a → w.heap.size ≤ a.block ∧ (e.1.N = [] ∨ some a.block ≠ some g)) ∧ Bys wr e.2.2.1 e.2.2.2 e.1.D ∧ (e.2.2.1 = none → e.2.2.2 = 0) ∧ ∀ a, e.2.2.1 = some a → w.heap.size ≤ a.block ∧ (e.1.D = [] ∨ some a.block ≠ some g)) :
    RRow wr w.heap.size (.slice (some ⟨g, 0, none⟩) rs.length cap) rs := by
  have hl : (A ++ M).length = rs.length := by rw [← h1, List.length_map]
  have hM : M = [] := List.length_eq_zero_iff.1 (by rw [List.length_append] at hl; omega)
  subst hM
  rw [List.append_nil] at h1 h2 hl
  exact ⟨A, h1, by rw [hl]; exact h2, h3⟩

set_option maxHeartbeats 1000000 in
set_option maxRecDepth 100000 in
theorem each_r {x : Option Addr} {c l bq : Nat} (rs : List Rn) (w : World) (h : Rs w bq x c rs) (hl : rs.length = l) (hb : rs.length * 72 ≤ 140737488355328) :
    Calls Tryd.prog 73 #[.slice x l c, .func (.func 74) #[] #[]] w fun e w' => ∃ v, e = .returned v ∧ RRow w' w.heap.size v rs ∧ Below w.heap.size w w' := by
  subst hl
  obtain ⟨i0, hi, hz0, hz1, hz2⟩ := info_of_record
  obtain ⟨L, hL, hin, hc⟩ := h.list
  have hLl : L.length = rs.length := by rw [← hL, List.length_map]
  have hnil : x = none → rs.length = 0 := fun e => by
    rcases hc with q | ⟨b, off, q, _⟩
    · rw [q]; rfl
    · rw [e] at q; cases q
  have hn : ∀ ad, x = some ad → ∀ j u, (L.flatMap rcells)[j]? = some u → w.cell? (ad.add j) = some u := fun ad e => by
    rcases hc with q | ⟨b, off, q, _, q2⟩
    · subst q
      have : L = [] := List.map_eq_nil_iff.1 hL
      subst this; simp
    · rw [e] at q; cases q
      intro j u hj
      rw [Go.WideShapes.add_plain]
      exact q2 j u hj
  have hone : ∀ u ∈ L.flatMap rcells, u.oneCell' = true := by
    intro u hu
    obtain ⟨e, _, hu2⟩ := List.mem_flatMap.1 hu
    simp only [rcells, List.mem_cons, List.not_mem_nil, or_false] at hu2
    rcases hu2 with rfl | rfl | rfl | rfl | rfl <;> rfl
  have H1 := hid hnil
  have H2 := hid hn
  have H3 := hid hone
  have H4 : Hid ((L.flatMap rcells).length = rs.length * 5) := hid (by rw [flat_len rcells 5 (fun a => rfl), hLl])
  have H5 := hid hL
  have H6 := hid hin
  clear hnil hn h hc hone hL hLl hin
  go_enter Tryd.func73, Tryd.ntmps73
  go_wp2_with (at_builtin; refine wpList_copy 26 67 i0 (.agg #[.slice none 0 0, .int .i64 0, .int .i64 0, .int .i64 0, .slice none 0 0]) 5 72 Tryd.underlying26 hi hz0 hz1 hz2 rfl (by decide) rfl _ rfl x rs.length c (L.flatMap rcells) rfl H1.out H4.out H2.out H3.out (by unfold maxLen; omega) (by omega) ?_)
  intro v1 w1 hown hg
  have B1 := hid (grown_below0 hg)
  by_cases h0 : rs = []
  · subst h0
    have e : ∃ x c, v1 = .slice x 0 c := by
      rcases hown.2 with ⟨e, _⟩ | ⟨g, cap, cur, e, _⟩
      · exact ⟨_, _, e⟩
      · exact ⟨_, _, e⟩
    have R1 : Hid (RRow w1 w.heap.size v1 []) := hid ⟨[], rfl, by have e : L = [] := List.map_eq_nil_iff.1 H5.out; subst e; exact hown, fun e he => by simp at he⟩
    obtain ⟨x1, c1, rfl⟩ := e
    clear hown hg
    go_wp2_with fail
    go_loopw [11] (fun vi wr => vi = .int .i64 0 ∧ wr = w1) (fun _ _ => 0)
    case atStart => exact ⟨rfl, rfl⟩
    case round =>
      obtain ⟨rfl, rfl⟩ := hrel
      go_wp2_with fail
      go_ret
      exact ⟨_, rfl, R1.out, B1.out⟩
  · have hpos : 0 < rs.length := List.length_pos_iff.2 h0
    obtain ⟨g, cap, hgb, rfl⟩ : ∃ g cap, w.heap.size ≤ g ∧ v1 = .slice (some ⟨g, 0, none⟩) rs.length cap := by
      rcases hown.2 with ⟨_, e⟩ | ⟨g, cap, cur, e, hb, _⟩
      · omega
      · exact ⟨g, cap, hb, e⟩
    have S0 : EachR w rs g cap (.int .i64 0) w1 := ⟨[], L, by rw [List.nil_append]; exact H5.out, rfl, hown, fun e he => by simp at he, fun e he => ⟨(H6.out e he).1, (H6.out e he).2.1⟩, B1.out⟩
    have SS := hid S0
    have HG := hid hgb
    clear hown hg S0 h0 B1 H1 H2 H3 H4 H5 H6
    go_wp2_with fail
    go_loopw [11, 6] (fun vi _ wr => EachR w rs g cap vi wr) (fun i _ _ => rs.length - (intOf i).toNat)
    case atStart => exact SS.out
    case round =>
      obtain ⟨A, M, h1, rfl, h2, h3, h4, h5⟩ := hrel
      have hl : A.length + M.length = rs.length := by rw [← h1, List.length_map, List.length_append]
      by_cases c1 : A.length < rs.length
      · cases M with
        | nil => simp at hl; omega
        | cons e M =>
          have hlt := (World.ownsRow.lt h2 g rfl).2
          have hcell := fun k (hk : k < 5) => h2.cells rfl (A.length * 5 + k) ((rcells e)[k]'(hk)) (by
            rw [List.flatMap_append, List.getElem?_append_right (by rw [flat_len rcells 5 (fun a => rfl)]; omega), flat_len rcells 5 (fun a => rfl), Nat.add_sub_cancel_left, List.flatMap_cons, List.getElem?_append_left (by exact hk)]
            exact List.getElem?_eq_getElem hk)
          have c0 : wr.cell? ⟨g, A.length * 5, none⟩ = some (.slice e.2.1.1 e.1.N.length e.2.1.2) := by have := hcell 0 (by decide); simpa [Go.WideShapes.add_plain, rcells] using this
          have d1 : wr.cell? ⟨g, A.length * 5 + 1, none⟩ = some (.int .i64 e.1.ty) := by have := hcell 1 (by decide); simpa [Go.WideShapes.add_plain, rcells] using this
          have d2 : wr.cell? ⟨g, A.length * 5 + 2, none⟩ = some (.int .i64 e.1.cl) := by have := hcell 2 (by decide); simpa [Go.WideShapes.add_plain, rcells] using this
          have d3 : wr.cell? ⟨g, A.length * 5 + 3, none⟩ = some (.int .i64 e.1.ttl) := by have := hcell 3 (by decide); simpa [Go.WideShapes.add_plain, rcells] using this
          have d4 : wr.cell? ⟨g, A.length * 5 + 4, none⟩ = some (.slice e.2.2.1 e.1.D.length e.2.2.2) := by have := hcell 4 (by decide); simpa [Go.WideShapes.add_plain, rcells] using this
          obtain ⟨j1, j2⟩ := h4 e List.mem_cons_self
          have K1 := hid h1
          have K2 := hid h2
          have K3 := hid h3
          have K4 := hid h4
          have K5 := hid h5
          have J1 := hid (j1.below h5)
          have J2 := hid (j2.below h5)
          have c2 : (A.length : Int) < (rs.length : Int) := by omega
          clear h1 h2 h3 h4 h5 hcell j1 j2 SS hl
          go_wp2_with fail
          refine (frecord_any e.1 _ J1.out J2.out).mono ?_
          rintro _ w3 ⟨y, s, z, t, rfl, m1, m2, m3, m4, m5, m6⟩
          have own3 := owns_stay K2.out m4
          have z0 := own3.frozenAt (A.length * 5)
          have z1 := own3.frozenAt (A.length * 5 + 1)
          have z2 := own3.frozenAt (A.length * 5 + 2)
          have z3 := own3.frozenAt (A.length * 5 + 3)
          have z4 := own3.frozenAt (A.length * 5 + 4)
          have e0 : w3.cell? ⟨g, A.length * 5, none⟩ = _ := (m4.cell (p := ⟨g, A.length * 5, none⟩) hlt).trans c0
          have e1 : w3.cell? ⟨g, A.length * 5 + 1, none⟩ = _ := (m4.cell (p := ⟨g, A.length * 5 + 1, none⟩) hlt).trans d1
          have e2 : w3.cell? ⟨g, A.length * 5 + 2, none⟩ = _ := (m4.cell (p := ⟨g, A.length * 5 + 2, none⟩) hlt).trans d2
          have e3 : w3.cell? ⟨g, A.length * 5 + 3, none⟩ = _ := (m4.cell (p := ⟨g, A.length * 5 + 3, none⟩) hlt).trans d3
          have e4 : w3.cell? ⟨g, A.length * 5 + 4, none⟩ = _ := (m4.cell (p := ⟨g, A.length * 5 + 4, none⟩) hlt).trans d4
          have NX := hid (EachR.next (x := e) K1.out rfl own3 (fun e he => ⟨⟨(K3.out e he).1.1.below m4, (K3.out e he).1.2⟩, (K3.out e he).2.1.below m4, (K3.out e he).2.2⟩) K4.out (grown_on K5.out m4) HG.out m1 m2 m3 (fun a ha => Nat.lt_of_lt_of_le hlt (m5 a ha)) (fun a ha => Nat.lt_of_lt_of_le hlt (m6 a ha)))
          have hcap : rs.length ≤ cap := by
            rcases own3.2 with ⟨q, _⟩ | ⟨g', cap', cur, q, _, _, q2, _⟩
            · cases q
            · cases q; exact q2
          clear c0 d1 d2 d3 d4 m1 m2 m3 m4 m5 m6 own3 K1 K2 K3 K4 K5 J1 J2
          go_wp2_with fail
          exact ⟨NX.out, by simp [intOf]; omega⟩
      · have c2 : ¬ (A.length : Int) < (rs.length : Int) := by omega
        have R := hid (EachR.done h1 (by omega) h2 h3)
        have B := hid h5
        clear h1 h2 h3 h4 h5 SS hl
        go_wp2_with fail
        go_ret
        exact ⟨_, rfl, R.out, B.out⟩

/-- The questions of a slice, with where their parts lie. -/
theorem Qs.list {w : World} {bq : Nat} {x : Option Addr} {c : Nat} {rs : List Qn} (h : Qs w bq x c rs) : ∃ L : List (Qn × Option Addr × Nat), L.map (·.1) = rs ∧ (∀ e ∈ L, Strs w e.2.1 e.2.2 e.1.N) ∧
    (rs = [] ∨ ∃ b off, x = some ⟨b, off, none⟩ ∧ b < w.heap.size ∧ ∀ j u, (L.flatMap qcells)[j]? = some u → w.cell? ⟨b, off + j, none⟩ = some u) := by
  rcases h.2.2 with h3 | ⟨b, off, hx, hb, _, hc⟩
  · subst h3
    exact ⟨[], rfl, fun e he => by simp at he, Or.inl rfl⟩
  · obtain ⟨L, h1, h2⟩ := list_pick (P := fun i (r : Qn) (y : Option Addr × Nat) => w.cell? ⟨b, off + i * 3, none⟩ = some (.slice y.1 r.N.length y.2) ∧ w.cell? ⟨b, off + i * 3 + 1, none⟩ = some (.int .i64 r.ty) ∧ w.cell? ⟨b, off + i * 3 + 2, none⟩ = some (.int .i64 r.cl) ∧ Strs w y.1 y.2 r.N) rs (fun i hi => by
      obtain ⟨y, s, k1, k2, k3, k4, _⟩ := hc i hi
      exact ⟨(y, s), k1, k2, k3, k4⟩)
    refine ⟨L, h1, fun e he => ?_, Or.inr ⟨b, off, hx, hb, fun j u hj => ?_⟩⟩
    · obtain ⟨i, hi, rfl⟩ := List.mem_iff_getElem.1 he
      obtain ⟨_, _, _, k6⟩ := h2 i hi
      exact k6
    · have hf : ∀ a, (qcells a).length = 3 := fun a => rfl
      have hjl : j < (L.flatMap qcells).length := by
        rcases Nat.lt_or_ge j (L.flatMap qcells).length with q | q
        · exact q
        · rw [List.getElem?_eq_none q] at hj; cases hj
      rw [flat_len qcells 3 hf] at hjl
      have hi : j / 3 < L.length := by omega
      have hm : j % 3 < 3 := by omega
      have ej : j = j / 3 * 3 + j % 3 := by omega
      rw [ej, flat_get qcells 3 hf L (j / 3) (j % 3) hi hm] at hj
      obtain ⟨k0, k1, k2, _⟩ := h2 (j / 3) hi
      rw [ej, ← Nat.add_assoc]
      have hcs : j % 3 = 0 ∨ j % 3 = 1 ∨ j % 3 = 2 := by omega
      rcases hcs with q | q | q <;> rw [q] at hj ⊢
      · rw [Nat.add_zero, k0]; exact hj
      · rw [k1]; exact hj
      · rw [k2]; exact hj

/-- So many questions of a row of the call's own are copies in its own memory; the others lead to memory that was there. -/
def EachQ (w : World) (rs : List Qn) (g cap : Nat) (vi : Value) (wr : World) : Prop :=
  ∃ A M : List (Qn × Option Addr × Nat), (A ++ M).map (·.1) = rs ∧ vi = .int .i64 (A.length : Int) ∧ wr.ownsRow w.heap.size 65 3 (.slice (some ⟨g, 0, none⟩) rs.length cap) rs.length ((A ++ M).flatMap qcells) ∧
    (∀ e ∈ A, Strs wr e.2.1 e.2.2 e.1.N ∧ ∀ a, e.2.1 = some a → w.heap.size ≤ a.block ∧ (e.1.N = [] ∨ some a.block ≠ some g)) ∧
    (∀ e ∈ M, Strs w e.2.1 e.2.2 e.1.N) ∧ Below w.heap.size w wr

theorem EachQ.next {w w1 : World} {g cap o : Nat} {A M : List (Qn × Option Addr × Nat)} {x : Qn × Option Addr × Nat} {rs : List Qn} {y : Option Addr} {s : Nat} (h1 : (A ++ x :: M).map (·.1) = rs) (ho : A.length * 3 = o)
    (h2 : w1.ownsRow w.heap.size 65 3 (.slice (some ⟨g, 0, none⟩) rs.length cap) rs.length ((A ++ x :: M).flatMap qcells))
    (h3 : ∀ e ∈ A, Strs w1 e.2.1 e.2.2 e.1.N ∧ ∀ a, e.2.1 = some a → w.heap.size ≤ a.block ∧ (e.1.N = [] ∨ some a.block ≠ some g))
    (h4 : ∀ e ∈ x :: M, Strs w e.2.1 e.2.2 e.1.N) (h5 : Below w.heap.size w w1) (hg : w.heap.size ≤ g) (k1 : Strs w1 y s x.1.N) (k4 : ∀ a, y = some a → g < a.block) :
    EachQ w rs g cap (.int .i64 ((A.length : Int) + 1)) (((w1.setCell ⟨g, o, none⟩ (.slice y x.1.N.length s)).setCell ⟨g, o + 1, none⟩ (.int .i64 x.1.ty)).setCell ⟨g, o + 2, none⟩ (.int .i64 x.1.cl)) := by
  have hgr := grown_put3 w1 g o (.slice y x.1.N.length s) (.int .i64 x.1.ty) (.int .i64 x.1.cl)
  refine ⟨A ++ [(x.1, y, s)], M, by rw [← h1]; simp, by simp, ?_, fun e he => ?_, fun e he => h4 e (List.mem_cons_of_mem _ he), below_put h5 hg⟩
  · have e1 : (A ++ x :: M).flatMap qcells = A.flatMap qcells ++ .slice x.2.1 x.1.N.length x.2.2 :: .int .i64 x.1.ty :: .int .i64 x.1.cl :: M.flatMap qcells := by simp [qcells]
    have e2 : (A ++ [(x.1, y, s)] ++ M).flatMap qcells = A.flatMap qcells ++ .slice y x.1.N.length s :: .int .i64 x.1.ty :: .int .i64 x.1.cl :: M.flatMap qcells := by simp [qcells]
    rw [e1] at h2
    rw [e2]
    exact owns_put3 h2 o (by rw [flat_len qcells 3 (fun a => rfl)]; exact ho) _ _ _
  · rcases List.mem_append.1 he with he | he
    · obtain ⟨q1, q2⟩ := h3 e he
      exact ⟨q1.kept hgr (fun a ha => (q2 a ha).2), q2⟩
    · rw [List.mem_singleton.1 he]
      have n4 : ∀ a, y = some a → w.heap.size ≤ a.block ∧ (x.1.N = [] ∨ some a.block ≠ some g) := fun a ha => ⟨by have := k4 a ha; omega, Or.inr (fun q => by have := k4 a ha; cases q; omega)⟩
      exact ⟨k1.kept hgr (fun a ha => (n4 a ha).2), n4⟩
where
  below_put {o : Nat} {w w1 : World} {g : Nat} {v0 v1 v2 : Value} (h5 : Below w.heap.size w w1) (hg : w.heap.size ≤ g) : Below w.heap.size w (((w1.setCell ⟨g, o, none⟩ v0).setCell ⟨g, o + 1, none⟩ v1).setCell ⟨g, o + 2, none⟩ v2) :=
    ((h5.setCell hg v0).setCell hg v1).setCell hg v2

theorem EachQ.done {w wr : World} {rs : List Qn} {g cap : Nat} {A M : List (Qn × Option Addr × Nat)} (h1 : (A ++ M).map (·.1) = rs) (h0 : rs.length ≤ A.length) (h2 : wr.ownsRow w.heap.size 65 3 (.slice (some ⟨g, 0, none⟩) rs.length cap) rs.length ((A ++ M).flatMap qcells))
    (h3 : ∀ e ∈ A, Strs wr e.2.1 e.2.2 e.1.N ∧ ∀ a, e.2.1 = some a → w.heap.size ≤ a.block ∧ (e.1.N = [] ∨ some a.block ≠ some g)) :
    QRow wr w.heap.size (.slice (some ⟨g, 0, none⟩) rs.length cap) rs := by
  have hl : (A ++ M).length = rs.length := by rw [← h1, List.length_map]
  have hM : M = [] := List.length_eq_zero_iff.1 (by rw [List.length_append] at hl; omega)
  subst hM
  rw [List.append_nil] at h1 h2 hl
  exact ⟨A, h1, by rw [hl]; exact h2, h3⟩

set_option maxHeartbeats 1000000 in
set_option maxRecDepth 100000 in
theorem each_q {x : Option Addr} {c l bq : Nat} (rs : List Qn) (w : World) (h : Qs w bq x c rs) (hl : rs.length = l) :
    Calls Tryd.prog 71 #[.slice x l c, .func (.func 72) #[] #[]] w fun e w' => ∃ v, e = .returned v ∧ QRow w' w.heap.size v rs ∧ Below w.heap.size w w' := by
  subst hl
  obtain ⟨i0, hi, hz0, hz1, hz2⟩ := info_of_question
  obtain ⟨L, hL, hin, hc⟩ := h.list
  have hlen := h.2.1
  have hLl : L.length = rs.length := by rw [← hL, List.length_map]
  have hnil : x = none → rs.length = 0 := fun e => by
    rcases hc with q | ⟨b, off, q, _⟩
    · rw [q]; rfl
    · rw [e] at q; cases q
  have hn : ∀ ad, x = some ad → ∀ j u, (L.flatMap qcells)[j]? = some u → w.cell? (ad.add j) = some u := fun ad e => by
    rcases hc with q | ⟨b, off, q, _, q2⟩
    · subst q
      have : L = [] := List.map_eq_nil_iff.1 hL
      subst this; simp
    · rw [e] at q; cases q
      intro j u hj
      rw [Go.WideShapes.add_plain]
      exact q2 j u hj
  have hone : ∀ u ∈ L.flatMap qcells, u.oneCell' = true := by
    intro u hu
    obtain ⟨e, _, hu2⟩ := List.mem_flatMap.1 hu
    simp only [qcells, List.mem_cons, List.not_mem_nil, or_false] at hu2
    rcases hu2 with rfl | rfl | rfl <;> rfl
  have H1 := hid hnil
  have H2 := hid hn
  have H3 := hid hone
  have H4 : Hid ((L.flatMap qcells).length = rs.length * 3) := hid (by rw [flat_len qcells 3 (fun a => rfl), hLl])
  have H5 := hid hL
  have H6 := hid hin
  clear hnil hn h hc hone hL hLl hin
  go_enter Tryd.func71, Tryd.ntmps71
  go_wp2_with (at_builtin; refine wpList_copy 25 65 i0 (.agg #[.slice none 0 0, .int .i64 0, .int .i64 0]) 3 40 Tryd.underlying25 hi hz0 hz1 hz2 rfl (by decide) rfl _ rfl x rs.length c (L.flatMap qcells) rfl H1.out H4.out H2.out H3.out (by unfold maxLen; omega) (by omega) ?_)
  intro v1 w1 hown hg
  have B1 := hid (grown_below0 hg)
  by_cases h0 : rs = []
  · subst h0
    have e : ∃ x c, v1 = .slice x 0 c := by
      rcases hown.2 with ⟨e, _⟩ | ⟨g, cap, cur, e, _⟩
      · exact ⟨_, _, e⟩
      · exact ⟨_, _, e⟩
    have R1 : Hid (QRow w1 w.heap.size v1 []) := hid ⟨[], rfl, by have e : L = [] := List.map_eq_nil_iff.1 H5.out; subst e; exact hown, fun e he => by simp at he⟩
    obtain ⟨x1, c1, rfl⟩ := e
    clear hown hg
    go_wp2_with fail
    go_loopw [11] (fun vi wr => vi = .int .i64 0 ∧ wr = w1) (fun _ _ => 0)
    case atStart => exact ⟨rfl, rfl⟩
    case round =>
      obtain ⟨rfl, rfl⟩ := hrel
      go_wp2_with fail
      go_ret
      exact ⟨_, rfl, R1.out, B1.out⟩
  · have hpos : 0 < rs.length := List.length_pos_iff.2 h0
    obtain ⟨g, cap, hgb, rfl⟩ : ∃ g cap, w.heap.size ≤ g ∧ v1 = .slice (some ⟨g, 0, none⟩) rs.length cap := by
      rcases hown.2 with ⟨_, e⟩ | ⟨g, cap, cur, e, hb, _⟩
      · omega
      · exact ⟨g, cap, hb, e⟩
    have S0 : EachQ w rs g cap (.int .i64 0) w1 := ⟨[], L, by rw [List.nil_append]; exact H5.out, rfl, hown, fun e he => by simp at he, fun e he => H6.out e he, B1.out⟩
    have SS := hid S0
    have HG := hid hgb
    clear hown hg S0 h0 B1 H1 H2 H3 H4 H5 H6
    go_wp2_with fail
    go_loopw [11, 6] (fun vi _ wr => EachQ w rs g cap vi wr) (fun i _ _ => rs.length - (intOf i).toNat)
    case atStart => exact SS.out
    case round =>
      obtain ⟨A, M, h1, rfl, h2, h3, h4, h5⟩ := hrel
      have hl : A.length + M.length = rs.length := by rw [← h1, List.length_map, List.length_append]
      by_cases c1 : A.length < rs.length
      · cases M with
        | nil => simp at hl; omega
        | cons e M =>
          have hlt := (World.ownsRow.lt h2 g rfl).2
          have hcell := fun k (hk : k < 3) => h2.cells rfl (A.length * 3 + k) ((qcells e)[k]'(hk)) (by
            rw [List.flatMap_append, List.getElem?_append_right (by rw [flat_len qcells 3 (fun a => rfl)]; omega), flat_len qcells 3 (fun a => rfl), Nat.add_sub_cancel_left, List.flatMap_cons, List.getElem?_append_left (by exact hk)]
            exact List.getElem?_eq_getElem hk)
          have c0 : wr.cell? ⟨g, A.length * 3, none⟩ = some (.slice e.2.1 e.1.N.length e.2.2) := by have := hcell 0 (by decide); simpa [Go.WideShapes.add_plain, qcells] using this
          have d1 : wr.cell? ⟨g, A.length * 3 + 1, none⟩ = some (.int .i64 e.1.ty) := by have := hcell 1 (by decide); simpa [Go.WideShapes.add_plain, qcells] using this
          have d2 : wr.cell? ⟨g, A.length * 3 + 2, none⟩ = some (.int .i64 e.1.cl) := by have := hcell 2 (by decide); simpa [Go.WideShapes.add_plain, qcells] using this
          have j1 := h4 e List.mem_cons_self
          have K1 := hid h1
          have K2 := hid h2
          have K3 := hid h3
          have K4 := hid h4
          have K5 := hid h5
          have J1 := hid (j1.below h5)
          have c2 : (A.length : Int) < (rs.length : Int) := by omega
          clear h1 h2 h3 h4 h5 hcell j1 SS hl
          go_wp2_with fail
          refine (fquestion_any e.1 _ J1.out).mono ?_
          rintro _ w3 ⟨y, s, rfl, m1, m4, m5⟩
          have own3 := owns_stay K2.out m4
          have z0 := own3.frozenAt (A.length * 3)
          have z1 := own3.frozenAt (A.length * 3 + 1)
          have z2 := own3.frozenAt (A.length * 3 + 2)
          have e0 : w3.cell? ⟨g, A.length * 3, none⟩ = _ := (m4.cell (p := ⟨g, A.length * 3, none⟩) hlt).trans c0
          have e1 : w3.cell? ⟨g, A.length * 3 + 1, none⟩ = _ := (m4.cell (p := ⟨g, A.length * 3 + 1, none⟩) hlt).trans d1
          have e2 : w3.cell? ⟨g, A.length * 3 + 2, none⟩ = _ := (m4.cell (p := ⟨g, A.length * 3 + 2, none⟩) hlt).trans d2
          have NX := hid (EachQ.next (x := e) K1.out rfl own3 (fun e he => ⟨(K3.out e he).1.below m4, (K3.out e he).2⟩) K4.out (grown_on K5.out m4) HG.out m1 (fun a ha => Nat.lt_of_lt_of_le hlt (m5 a ha)))
          have hcap : rs.length ≤ cap := by
            rcases own3.2 with ⟨q, _⟩ | ⟨g', cap', cur, q, _, _, q2, _⟩
            · cases q
            · cases q; exact q2
          clear c0 d1 d2 m1 m4 m5 own3 K1 K2 K3 K4 K5 J1
          go_wp2_with fail
          exact ⟨NX.out, by simp [intOf]; omega⟩
      · have c2 : ¬ (A.length : Int) < (rs.length : Int) := by omega
        have R := hid (EachQ.done h1 (by omega) h2 h3)
        have B := hid h5
        clear h1 h2 h3 h4 h5 SS hl
        go_wp2_with fail
        go_ret
        exact ⟨_, rfl, R.out, B.out⟩

end Go.Proofs.YtbbgabdiikdjpaaDoor

namespace Go.Proofs.YtbbgabdiikdjpaaDoor
open Go.RowKit Go.Deep

/-- Two states that differ in what stands ahead alone. -/
def Alike (A A' : List Int) (s s' : List Int × List (Int × List ByteArray)) : Prop := ∃ X, s.1 = A ++ X ∧ s'.1 = A' ++ X ∧ s.2 = s'.2

theorem alike_q {A A' : List Int} (hl : A.length = A'.length) : ∀ (qs : List Qn) {s s' : List Int × List (Int × List ByteArray)}, Alike A A' s s' → Alike A A' (qs.foldl stepQ s) (qs.foldl stepQ s') := by
  intro qs
  induction qs with
  | nil => intro s s' h; exact h
  | cons q qs ih =>
    intro s s' h
    refine ih ?_
    obtain ⟨X, h1, h2, h3⟩ := h
    refine ⟨X ++ packB s.2 q.N ++ (twoN q.ty ++ twoN q.cl), ?_, ?_, ?_⟩
    · simp [stepQ, h1]
    · simp [stepQ, h2, h3]
    · simp [stepQ, h1, h2, h3, hl]

theorem alike_r {A A' : List Int} (hl : A.length = A'.length) : ∀ (rs : List Rn) {s s' : List Int × List (Int × List ByteArray)}, Alike A A' s s' → Alike A A' (rs.foldl stepR s) (rs.foldl stepR s') := by
  intro rs
  induction rs with
  | nil => intro s s' h; exact h
  | cons r rs ih =>
    intro s s' h
    refine ih ?_
    obtain ⟨X, h1, h2, h3⟩ := h
    refine ⟨X ++ packB s.2 r.N ++ fieldsN r.ty r.cl r.ttl r.D, ?_, ?_, ?_⟩
    · simp [stepR, h1]
    · simp [stepR, h2, h3]
    · simp [stepR, h1, h2, h3, hl]

/-- What a message is with one more record behind its last ones. -/
theorem grows (h : Hd) (qs : List Qn) (r1 r2 r3 : List Rn) (r : Rn) : ∃ X more, (endS h qs r1 r2 r3).1 = aheadN h qs.length r1.length r2.length r3.length ++ X ∧ (endS h qs r1 r2 (r3 ++ [r])).1 = aheadN h qs.length r1.length r2.length (r3.length + 1) ++ X ++ more ∧ 11 ≤ more.length := by
  have hq := alike_r (A := aheadN h qs.length r1.length r2.length r3.length) (A' := aheadN h qs.length r1.length r2.length (r3.length + 1)) rfl (r1 ++ r2 ++ r3) (alike_q (A := aheadN h qs.length r1.length r2.length r3.length) (A' := aheadN h qs.length r1.length r2.length (r3.length + 1)) rfl qs (s := (aheadN h qs.length r1.length r2.length r3.length, [])) (s' := (aheadN h qs.length r1.length r2.length (r3.length + 1), [])) (show Alike (aheadN h qs.length r1.length r2.length r3.length) (aheadN h qs.length r1.length r2.length (r3.length + 1)) _ _ from ⟨[], (List.append_nil _).symm, (List.append_nil _).symm, rfl⟩))
  obtain ⟨X, h1, h2, _⟩ := hq
  obtain ⟨more, h3⟩ := fold_r [r] ((r1 ++ r2 ++ r3).foldl stepR (qs.foldl stepQ (aheadN h qs.length r1.length r2.length (r3.length + 1), [])))
  have h4 := (step_r_len ((r1 ++ r2 ++ r3).foldl stepR (qs.foldl stepQ (aheadN h qs.length r1.length r2.length (r3.length + 1), []))) r).1
  rw [List.foldl_cons, List.foldl_nil] at h3
  rw [h3, List.length_append] at h4
  refine ⟨X, more, h1, ?_, by omega⟩
  unfold endS
  rw [← List.append_assoc, List.foldl_append, List.length_append, List.foldl_cons, List.foldl_nil]
  rw [← h2]
  exact h3

/-- How long the parts are. -/
def longQ (qs : List Qn) : Nat := (qs.map (fun q => Nm.total (q.N.map Nm.bs) + 1 + 4)).sum

def longR (rs : List Rn) : Nat := (rs.map (fun r => Nm.total (r.N.map Nm.bs) + 1 + 10 + r.D.length)).sum

theorem long_q : ∀ (qs : List Qn) (s : List Int × List (Int × List ByteArray)), (qs.foldl stepQ s).1.length ≤ s.1.length + longQ qs := by
  intro qs
  induction qs with
  | nil => intro s; simp [longQ]
  | cons q qs ih =>
    intro s
    have h1 := ih (stepQ s q)
    have h2 := (step_q_len s q).2
    have h3 : longQ (q :: qs) = Nm.total (q.N.map Nm.bs) + 1 + 4 + longQ qs := by simp [longQ]
    rw [List.foldl_cons]; omega

theorem long_r : ∀ (rs : List Rn) (s : List Int × List (Int × List ByteArray)), (rs.foldl stepR s).1.length ≤ s.1.length + longR rs := by
  intro rs
  induction rs with
  | nil => intro s; simp [longR]
  | cons r rs ih =>
    intro s
    have h1 := ih (stepR s r)
    have h2 := (step_r_len s r).2
    have h3 : longR (r :: rs) = Nm.total (r.N.map Nm.bs) + 1 + 10 + r.D.length + longR rs := by simp [longR]
    rw [List.foldl_cons]; omega

theorem long_all (h : Hd) (qs : List Qn) (r1 r2 r3 : List Rn) : (endS h qs r1 r2 r3).1.length ≤ 12 + longQ qs + longR (r1 ++ r2 ++ r3) := by
  have h1 := long_r (r1 ++ r2 ++ r3) (qs.foldl stepQ (aheadN h qs.length r1.length r2.length r3.length, []))
  have h2 := long_q qs (aheadN h qs.length r1.length r2.length r3.length, [])
  have h3 := ahead_len h qs.length r1.length r2.length r3.length
  unfold endS
  simp only [h3] at h2
  omega

theorem longQ_next (qs : List Qn) (i : Nat) (hi : i < qs.length) : longQ (qs.take (i + 1)) = longQ (qs.take i) + (Nm.total (qs[i].N.map Nm.bs) + 1 + 4) := by
  unfold longQ
  rw [List.take_succ_eq_append_getElem hi, List.map_append, List.sum_append]
  simp only [List.map_cons, List.map_nil, List.sum_cons, List.sum_nil, Nat.add_zero]

theorem longR_next (rs : List Rn) (i : Nat) (hi : i < rs.length) : longR (rs.take (i + 1)) = longR (rs.take i) + (Nm.total (rs[i].N.map Nm.bs) + 1 + 10 + rs[i].D.length) := by
  unfold longR
  rw [List.take_succ_eq_append_getElem hi, List.map_append, List.sum_append]
  simp only [List.map_cons, List.map_nil, List.sum_cons, List.sum_nil, Nat.add_zero]

theorem longQ_le (qs : List Qn) (h : ∀ q ∈ qs, qE q = 0) : longQ qs ≤ qs.length * 259 := by
  induction qs with
  | nil => simp [longQ]
  | cons q qs ih =>
    have h1 := ih (fun x hx => h x (List.mem_cons_of_mem _ hx))
    have h2 := (check_zero (qE_zero (h q List.mem_cons_self)).1).2
    have h3 : longQ (q :: qs) = Nm.total (q.N.map Nm.bs) + 1 + 4 + longQ qs := by simp [longQ]
    rw [List.length_cons]; omega

/-- What is sent, in both cases, part by part. -/
theorem grows_parts {h : Hd} {qs : List Qn} {r1 r2 r3 : List Rn} {r : Rn} : ((endS h qs r1 r2 r3).1.take 10 = (endS h qs r1 r2 (r3 ++ [r])).1.take 10) ∧
    ((endS h qs r1 r2 r3).1.drop 12 = ((endS h qs r1 r2 (r3 ++ [r])).1.take (endS h qs r1 r2 r3).1.length).drop 12) ∧
    (endS h qs r1 r2 r3).1.length + 11 ≤ (endS h qs r1 r2 (r3 ++ [r])).1.length ∧ 12 ≤ (endS h qs r1 r2 r3).1.length := by
  obtain ⟨X, more, h1, h2, h3⟩ := grows h qs r1 r2 r3 r
  have hA := ahead_len h qs.length r1.length r2.length r3.length
  have hA' := ahead_len h qs.length r1.length r2.length (r3.length + 1)
  rw [h1, h2]
  refine ⟨?_, ?_, ?_, ?_⟩
  · rw [List.append_assoc, List.take_append_of_le_length (by rw [hA]; decide), List.take_append_of_le_length (by rw [hA']; decide)]
    simp [aheadN, hdB, headN, twoN]
  · have e : (aheadN h qs.length r1.length r2.length r3.length ++ X).length = (aheadN h qs.length r1.length r2.length (r3.length + 1) ++ X).length := by rw [List.length_append, List.length_append, hA, hA']
    rw [e, List.take_left]
    exact (List.drop_left' hA).trans (List.drop_left' hA').symm
  · simp only [List.length_append, hA, hA']; omega
  · rw [List.length_append, hA]; omega

end Go.Proofs.YtbbgabdiikdjpaaDoor

namespace Go.Proofs.YtbbgabdiikdjpaaDoor
open Go.RowKit Go.Deep

/-- A row of the call's own (behind w0) that holds records whose parts lie in memory that was there (wp). -/
def GRow (wp w0 : World) (v : Value) (rs : List Rn) (w : World) : Prop :=
  (∃ L : List (Rn × (Option Addr × Nat) × (Option Addr × Nat)), L.map (·.1) = rs ∧ w.ownsRow w0.heap.size 67 5 v L.length (L.flatMap rcells) ∧ ∀ e ∈ L, Strs wp e.2.1.1 e.2.1.2 e.1.N ∧ Bys wp e.2.2.1 e.2.2.2 e.1.D ∧ (e.2.2.1 = none → e.2.2.2 = 0)) ∧ Below w0.heap.size w0 w

theorem GRow.below {wp w0 w w' : World} {v : Value} {rs : List Rn} (h : GRow wp w0 v rs w) (k : Below w.heap.size w w') : GRow wp w0 v rs w' := by
  obtain ⟨⟨L, h1, h2, h3⟩, hb⟩ := h
  exact ⟨⟨L, h1, owns_stay h2 k, h3⟩, grown_on hb k⟩

theorem owns_far {w : World} {B e n m : Nat} {v : Value} {xs : List Value} (h : w.ownsRow B e m v n xs) {p : Addr} (hp : p.block < B) (u : Value) : (w.setCell p u).ownsRow B e m v n xs := by
  refine h.kept (row := some p.block) ⟨rfl, rfl, rfl, by simp [World.setCell], fun k hk hne => Below.heap_setCell w p u k (fun e => hne (by rw [e]))⟩ ?_
  right
  intro q
  have := (World.ownsRow.lt h _ q).1
  omega

theorem owns_base5 {w : World} {B B' e n m : Nat} {v : Value} {xs : List Value} (h : w.ownsRow B e m v n xs) (k : B' ≤ B) : w.ownsRow B' e m v n xs := by
  obtain ⟨h1, h2⟩ := h
  refine ⟨h1, ?_⟩
  rcases h2 with q | ⟨g, cap, cur, hv, hb, r⟩
  · exact Or.inl q
  · exact Or.inr ⟨g, cap, cur, hv, Nat.le_trans k hb, r⟩

theorem wp_on {w w1 w2 : World} (h : Below w.heap.size w w1) (k : Below w1.heap.size w1 w2) : Below w.heap.size w w2 := h.trans (k.mono h.size)

/-- Such a row, with a cell of a block between the two written. -/
theorem GRow.put {wp w0 w : World} {v : Value} {rs : List Rn} (h : GRow wp w0 v rs w) (hw : Below wp.heap.size wp w0) (hl : rs.length ≤ 4000000000000) {p : Addr} (h1 : wp.heap.size ≤ p.block) (h2 : p.block < w0.heap.size) :
    ∃ x c, v = .slice x rs.length c ∧ ∀ u, Rs (w.setCell p u) 0 x c rs := by
  obtain ⟨⟨L, h3, h4, h5⟩, hb⟩ := h
  have hl' : L.length = rs.length := by rw [← h3, List.length_map]
  have hv : ∃ x c, v = .slice x rs.length c := by
    rcases h4.2 with ⟨e, e2⟩ | ⟨g, cap, cur, e, _⟩
    · exact ⟨none, 0, by rw [e, ← hl', e2]⟩
    · exact ⟨_, _, by rw [e, hl']⟩
  obtain ⟨x, c, hv⟩ := hv
  refine ⟨x, c, hv, fun u => ?_⟩
  have hbb : Below wp.heap.size wp (w.setCell p u) := Below.setCell (wp_on hw hb) h1 u
  have ho := owns_far h4 h2 u
  have hA : ARow wp v rs (w.setCell p u) := ⟨⟨L, h3, owns_base5 ho hw.size, h5⟩, hbb⟩
  obtain ⟨x', c', e, hR⟩ := hA.open hl
  rw [hv] at e
  simp only [Value.slice.injEq, true_and] at e
  obtain ⟨rfl, rfl⟩ := e
  exact hR

/-- Records that lie somewhere, one behind the other, their parts in memory that was there. -/
def RList (w0 w : World) (x : Option Addr) (m : Nat) (rs : List Rn) : Prop :=
  ∃ M : List (Rn × (Option Addr × Nat) × (Option Addr × Nat)), M.length = m ∧ M.map (·.1) = rs ∧ (∀ e ∈ M, Strs w0 e.2.1.1 e.2.1.2 e.1.N ∧ Bys w0 e.2.2.1 e.2.2.2 e.1.D ∧ (e.2.2.1 = none → e.2.2.2 = 0)) ∧
    (M = [] ∨ ∃ b off, x = some ⟨b, off, none⟩ ∧ ∀ j u, (M.flatMap rcells)[j]? = some u → w.cell? ⟨b, off + j, none⟩ = some u)

theorem Rs.rlist {w0 w : World} {bq : Nat} {x : Option Addr} {c : Nat} {rs : List Rn} (h : Rs w0 bq x c rs) (hb : Below w0.heap.size w0 w) : RList w0 w x rs.length rs := by
  obtain ⟨M, hM, hin, hc⟩ := h.list
  refine ⟨M, by rw [← hM, List.length_map], hM, hin, ?_⟩
  rcases hc with q | ⟨b, off, rfl, hlt, hcell⟩
  · left; subst q; exact List.map_eq_nil_iff.1 hM
  · right
    exact ⟨b, off, rfl, fun j u hj => by rw [hb.cell (p := ⟨b, off + j, none⟩) hlt]; exact hcell j u hj⟩

/-- Records appended to a row of the call's own. -/
theorem run_append_g {wp w0 w : World} {xs rs : List Rn} {y : Option Addr} {m c : Nat} (ty : TypeId) (v : Value) (h : GRow wp w0 v xs w) (hr : RList wp w y m rs) (hl : (xs.length + m) * 72 ≤ 140737488355328) :
    ∃ v' w', (Builtin.append_ #[26, 26] ty #[v, .slice y m c]).run Tryd.prog w = .ok v' w' ∧ GRow wp w0 v' (xs ++ rs) w' ∧ w.grownBy w' v.ownBlock := by
  obtain ⟨i0, hi, hz0, hz1, hz2⟩ := info_of_record
  obtain ⟨⟨L, hL, hown, hin⟩, hb0⟩ := h
  obtain ⟨M, hMl, hM, hMin, hMc⟩ := hr
  have hLl : L.length = xs.length := by rw [← hL, List.length_map]
  rcases hMc with h3 | ⟨b, off, rfl, hcell⟩
  · subst h3
    have hrs : rs = [] := by rw [← hM]; rfl
    have hm0 : m = 0 := by rw [← hMl]; rfl
    subst hrs hm0
    have hv : ∃ base cap, v = .slice base L.length cap ∧ L.length ≤ cap := by
      rcases hown.2 with ⟨e, e2⟩ | ⟨g, cap, cur, e, _, _, hn, _⟩
      · exact ⟨none, 0, by rw [e, e2], by omega⟩
      · exact ⟨_, cap, e, hn⟩
    obtain ⟨base, cap, rfl, hle⟩ := hv
    have hsrc : Src Tryd.prog i0.size 26 (.slice y 0 c) 0 [] w := by
      cases y with
      | none => exact Src.ofNil w Tryd.underlying26 c
      | some a => exact Src.ofSlice w Tryd.underlying26 a 0 c [] (by simp) (fun j u hj => by simp at hj) (fun u hu => by cases hu)
    refine ⟨_, w, run_append_nothing w 26 26 ty 67 i0 Tryd.underlying26 hi base L.length cap hle _ hsrc, ⟨⟨L, by rw [hL, List.append_nil], hown, hin⟩, hb0⟩, ⟨rfl, rfl, rfl, Nat.le_refl _, fun k _ _ => rfl⟩⟩
  · have hnews : ∀ j u, (M.flatMap rcells)[j]? = some u → w.cell? ((⟨b, off, none⟩ : Addr).add j) = some u := by
      intro j u hj
      rw [Go.WideShapes.add_plain]
      exact hcell j u hj
    have hone : ∀ u ∈ M.flatMap rcells, u.oneCell' = true := by
      intro u hu
      obtain ⟨e, _, hu2⟩ := List.mem_flatMap.1 hu
      simp only [rcells, List.mem_cons, List.not_mem_nil, or_false] at hu2
      rcases hu2 with rfl | rfl | rfl | rfl | rfl <;> rfl
    obtain ⟨v', w', hrun, hown', hg, _, _⟩ := run_append_own_at (P := Tryd.prog) w w0.heap.size 26 ty 67 i0 (.agg #[.slice none 0 0, .int .i64 0, .int .i64 0, .int .i64 0, .slice none 0 0]) 5 72 Tryd.underlying26 hi hz0 hz1 hz2 rfl (by decide) v L.length (L.flatMap rcells) hown ⟨b, off, none⟩ m c (M.flatMap rcells) (by rw [flat_len rcells 5 (fun a => rfl), hMl]) hnews hone (by unfold maxLen; omega) (by omega) hb0.size
    refine ⟨v', w', hrun, ⟨⟨L ++ M, by rw [List.map_append, hL, hM], ?_, fun e he => ?_⟩, ?_⟩, hg⟩
    · rw [List.length_append, hMl, List.flatMap_append]
      exact hown'
    · rcases List.mem_append.1 he with he | he
      · exact hin e he
      · exact hMin e he
    · exact hb0.grown hg hb0.size (fun k hk => (World.ownsRow.lt hown k hk).1)

/-- Records appended to a row of the call's own, as a step of a region. -/
theorem step_append_rs {wp w0 w : World} {xs rs : List Rn} {y : Option Addr} {m c : Nat} {ops : Array Oper} {o : Oper} {a : Act} {K : Act → World → Prop} {Q : Exit → Act → World → Prop} {E : Prop} (hgd : o.guard = none) (sl x : Operand)
    (ho : o.op = .call { callee := .builtin .append, args := #[sl, x], argTypes := #[26, 26] }) (v : Value) (hs : a.eval sl = v) (hx : a.eval x = .slice y m c) (h : GRow wp w0 v xs w) (hr : RList wp w y m rs) (hl : (xs.length + m) * 72 ≤ 140737488355328)
    (hK : ∀ v' w', GRow wp w0 v' (xs ++ rs) w' → w.grownBy w' v.ownBlock → K (a.put o.dst v') w') :
    if Region.wanted o (yielded ops a.tmps) = true then Oper.wp Tryd.prog o a w K Q else E := by
  have hw : Region.wanted o (yielded ops a.tmps) = true := by simp [Region.wanted, hgd]
  rw [if_pos hw]
  obtain ⟨v', w', hrun, har, hg⟩ := run_append_g (c := c) o.type v h hr hl
  unfold Oper.wp execOp
  simp only [ho, resolve, invoke, builtin, Sem.run_bind, Sem.run_pure, Result.andThen_ok, List.map_toArray, List.map_cons, List.map_nil, hs, hx, hrun]
  exact hK v' w' har hg

theorem wpList_append_g {wp w0 w : World} {bq : Nat} {xs rs : List Rn} {y : Option Addr} {c : Nat} {ops : Array Oper} {rest : List Oper} {o : Oper} {a : Act} {Q : Exit → Act → World → Prop} (hgd : o.guard = none) (sl x : Operand)
    (ho : o.op = .call { callee := .builtin .append, args := #[sl, x], argTypes := #[26, 26] }) (v : Value) (hs : a.eval sl = v) (hx : a.eval x = .slice y rs.length c) (h : GRow wp w0 v xs w) (hw : Below wp.heap.size wp w0) (hr : Rs wp bq y c rs) (hl : (xs.length + rs.length) * 72 ≤ 140737488355328)
    (hK : ∀ v' w', GRow wp w0 v' (xs ++ rs) w' → wpList Tryd.prog ops Q rest (a.put o.dst v') w') : wpList Tryd.prog ops Q (o :: rest) a w := by
  refine wpList_plain hgd fun K hK' => ?_
  obtain ⟨v', w', hrun, har, _⟩ := run_append_g (c := c) o.type v h (hr.rlist (wp_on hw h.2)) hl
  unfold Oper.wp execOp
  simp only [ho, resolve, invoke, builtin, Sem.run_bind, Sem.run_pure, Result.andThen_ok, List.map_toArray, List.map_cons, List.map_nil, hs, hx, hrun]
  exact hK' _ _ (hK v' w' har)

/-- A row that was just made, and holds nothing. -/
theorem arow_void {wp w0 u : World} {b : Nat} (hB : Below w0.heap.size w0 u) (hu : u.ownsRow w0.heap.size 67 5 (.slice (some ⟨b, 0, none⟩) 0 0) 0 []) : GRow wp w0 (.slice (some ⟨b, 0, none⟩) 0 0) [] u :=
  ⟨⟨[], rfl, hu, fun e he => by simp at he⟩, hB⟩

theorem void1 (wp w : World) : GRow wp w (.slice (some ⟨w.heap.size, 0, none⟩) 0 0) [] (w.drew.alloc (.cells #[] 67)) :=
  arow_void ((Below.drew (Below.refl _ w)).alloc (Nat.le_refl _) _) (World.ownsRow_made w.drew #[] 0 (Nat.le_refl _) (by decide) (by simp))

theorem void2 (wp w : World) (o : Obj) : GRow wp w (.slice (some ⟨w.heap.size, 0, none⟩) 0 0) [] ((w.drew.alloc (.cells #[] 67)).alloc o) :=
  (void1 wp w).below ((Below.refl _ _).alloc (Nat.le_refl _) _)

theorem void3 (wp w : World) (o : Obj) : GRow wp w (.slice (some ⟨w.heap.size + 1, 0, none⟩) 0 0) [] ((w.drew.alloc o).alloc (.cells #[] 67)) := by
  have hs : (w.drew.alloc o).heap.size = w.heap.size + 1 := by simp
  have h := World.ownsRow_made (base := w.heap.size) (e := 67) (size := 5) (w.drew.alloc o) #[] 0 (by simp) (by decide) (by simp)
  rw [hs] at h
  exact arow_void (((Below.drew (Below.refl _ w)).alloc (Nat.le_refl _) _).alloc (by simp) _) h

theorem step_append_old {wp w0 w : World} {bq : Nat} {xs rs : List Rn} {y : Option Addr} {c : Nat} {ops : Array Oper} {o : Oper} {a : Act} {K : Act → World → Prop} {Q : Exit → Act → World → Prop} {E : Prop} (hgd : o.guard = none) (sl x : Operand)
    (ho : o.op = .call { callee := .builtin .append, args := #[sl, x], argTypes := #[26, 26] }) (v : Value) (hs : a.eval sl = v) (hx : a.eval x = .slice y rs.length c) (h : GRow wp w0 v xs w) (hw : Below wp.heap.size wp w0) (hr : Rs wp bq y c rs) (hl : (xs.length + rs.length) * 72 ≤ 140737488355328)
    (hK : ∀ v' w', GRow wp w0 v' (xs ++ rs) w' → w.grownBy w' v.ownBlock → K (a.put o.dst v') w') :
    if Region.wanted o (yielded ops a.tmps) = true then Oper.wp Tryd.prog o a w K Q else E := step_append_rs hgd sl x ho v hs hx h (hr.rlist (wp_on hw h.2)) hl hK

theorem alloc1 (w : World) (o : Obj) : Below w.heap.size w (w.drew.alloc o) := (Below.drew (Below.refl _ w)).alloc (Nat.le_refl _) _

theorem alloc2 (w : World) (o o' : Obj) : Below w.heap.size w ((w.drew.alloc o).alloc o') := (alloc1 w o).alloc (by simp) _

theorem keep2 {w w2 : World} {o : Obj} {C : Array Value} (h : ((w.drew.alloc o).alloc (.cells C 67)).grownBy w2 (some w.heap.size)) : Bl 67 w2 (w.heap.size + 1) C := by
  have k := Bl.new2 67 w.drew o C
  unfold Bl at k ⊢
  rw [h.block (w.heap.size + 1) (by simp) (by simp)]
  exact k

theorem keep3 {w w2 : World} {o : Obj} {C : Array Value} (h : ((w.drew.alloc (.cells C 67)).alloc o).grownBy w2 (some (w.heap.size + 1))) : Bl 67 w2 w.heap.size C := by
  have k := (Bl.new 67 w.drew C).below ((Below.refl _ _).alloc (Nat.le_refl _) o)
  unfold Bl at k ⊢
  rw [h.block w.heap.size (by simp; omega) (by simp)]
  exact k

theorem one_of {w0 u : World} {b : Nat} {y z : Option Addr} {s t : Nat} {r : Rn} (k : Bl 67 u b #[.slice y r.N.length s, .int .i64 r.ty, .int .i64 r.cl, .int .i64 r.ttl, .slice z r.D.length t]) (hN : Strs w0 y s r.N) (hD : Bys w0 z t r.D) (hz : z = none → t = 0) : RList w0 u (some ⟨b, 0, none⟩) 1 [r] := by
  refine ⟨[(r, (y, s), (z, t))], rfl, rfl, fun e he => ?_, Or.inr ⟨b, 0, rfl, fun j v hj => ?_⟩⟩
  · rw [List.mem_singleton] at he
    subst he
    exact ⟨hN, hD, hz⟩
  · rw [Nat.zero_add]
    refine k.cell (i := j) ?_
    rw [List.getElem?_toArray]
    simpa [rcells] using hj

theorem longR_le (rs : List Rn) (h : ∀ r ∈ rs, rE r = 0) : longR rs ≤ rs.length * 65900 := by
  induction rs with
  | nil => simp [longR]
  | cons r rs ih =>
    have h1 := ih (fun x hx => h x (List.mem_cons_of_mem _ hx))
    have h4 := recE_zero (h r List.mem_cons_self)
    have h2 := (check_zero h4.1).2
    have h3 : longR (r :: rs) = Nm.total (r.N.map Nm.bs) + 1 + 10 + r.D.length + longR rs := by simp [longR]
    have h5 := h4.2.2.2.2
    rw [List.length_cons]; omega

theorem Bys.cut {w : World} {b o c : Nat} {ms : List Int} (h : Bys w (some ⟨b, o, none⟩) c ms) (i k : Nat) (hp : 0 < ms.length) (hik : i + k ≤ ms.length) : Bys w (some ⟨b, o + i, none⟩) (c - i) (Nm.cut ms i k) := by
  obtain ⟨h1, h2, h3, h4⟩ := h
  rcases h4 with q | ⟨b', o', e, hb, q⟩
  · rw [q] at hp; simp at hp
  · cases e
    exact bys_sub hb h1 h2 h3 q i k hik

theorem sent_tell {y : Option Addr} {d l : Nat} (n : List ByteArray) (tt : Nat) (w : World) (hn : Strs w y d n) (hl : n.length = l) (hk : Nm.checkN (n.map Nm.bs) = 0) (ht : Nm.total (n.map Nm.bs) = tt) :
    Calls Tryd.prog 61 #[.slice y l d] w fun e w' => ∃ x c, e = .returned (.slice x (tt + 1) c) ∧ Below w.heap.size w w' := by
  subst ht
  refine (sent_any n w hn hl hk).mono ?_
  rintro e w' ⟨x, c, he, _, hb⟩
  exact ⟨x, c, he, hb⟩

theorem gw_ok {xq x1 x2 x3 : Option Addr} {cq c1 c2 c3 bq : Nat} (h : Hd) (qs : List Qn) (r1 r2 r3 : List Rn) (F : List Int) (w : World) (hq : Qs w bq xq cq qs) (hr1 : Rs w bq x1 c1 r1) (hr2 : Rs w bq x2 c2 r2) (hr3 : Rs w bq x3 c3 r3) (hE : msgE h qs r1 r2 r3 = 0) (hF : (endS h qs r1 r2 r3).1 = F) :
    Calls Tryd.prog 10 #[.agg #[.int .i64 h.id, .bool h.an, .int .i64 h.op, .bool h.aa, .bool h.tc, .bool h.rd, .bool h.ra, .bool h.z, .bool h.ad, .bool h.cd, .int .i64 h.code, .slice xq qs.length cq, .slice x1 r1.length c1, .slice x2 r2.length c2, .slice x3 r3.length c3]] w fun e w' => ∃ g c, e = .returned (.tuple #[.slice (some ⟨g, 0, none⟩) F.length c, .nilIface]) ∧ Bys w' (some ⟨g, 0, none⟩) c F ∧ F.length ≤ c ∧ Below w.heap.size w w' := by
  refine (mwrite_any h qs r1 r2 r3 w hq hr1 hr2 hr3).mono ?_
  have hD : ∀ r ∈ r1 ++ r2 ++ r3, ∀ b ∈ r.D, 0 ≤ b ∧ b ≤ 255 := by
    intro r hr
    simp only [List.mem_append] at hr
    rcases hr with (hr | hr) | hr
    · exact hr1.data r hr
    · exact hr2.data r hr
    · exact hr3.data r hr
  have hb := (msg_back hE hD).2.2
  have hl := (msgE_zero hE).2.2.2.2
  obtain ⟨more, hm⟩ := end_form h qs r1 r2 r3
  have h12 : 12 ≤ (endS h qs r1 r2 r3).1.length := by rw [hm, List.length_append, ahead_len]; omega
  rw [hF] at hb hl h12
  rintro e w' (⟨_, x, c, he, hrow, k⟩ | ⟨k, _⟩)
  · rw [hF] at he hrow
    obtain ⟨g, cap, C, hv, _, _, hby⟩ := rowb_open hrow (by omega) (by omega) hb
    simp only [Value.slice.injEq, true_and] at hv
    obtain ⟨rfl, rfl⟩ := hv
    exact ⟨g, c, he, hby, hby.1, k⟩
  · exact absurd hE k

theorem gw_no {xq x1 x2 x3 : Option Addr} {cq c1 c2 c3 bq : Nat} (h : Hd) (qs : List Qn) (r1 r2 r3 : List Rn) (w : World) (hq : Qs w bq xq cq qs) (hr1 : Rs w bq x1 c1 r1) (hr2 : Rs w bq x2 c2 r2) (hr3 : Rs w bq x3 c3 r3) (hE : ¬ msgE h qs r1 r2 r3 = 0) :
    Calls Tryd.prog 10 #[.agg #[.int .i64 h.id, .bool h.an, .int .i64 h.op, .bool h.aa, .bool h.tc, .bool h.rd, .bool h.ra, .bool h.z, .bool h.ad, .bool h.cd, .int .i64 h.code, .slice xq qs.length cq, .slice x1 r1.length c1, .slice x2 r2.length c2, .slice x3 r3.length c3]] w fun e w' => ∃ k, e = .returned (.tuple #[.slice none 0 0, .iface 29 (.int .i64 k)]) ∧ Below w.heap.size w w' := by
  refine (mwrite_any h qs r1 r2 r3 w hq hr1 hr2 hr3).mono ?_
  rintro e w' (⟨k, _⟩ | ⟨_, k⟩)
  · exact absurd k hE
  · exact ⟨_, k⟩

end Go.Proofs.YtbbgabdiikdjpaaDoor

namespace Go.Proofs.YtbbgabdiikdjpaaDoor
open Go.RowKit Go.Deep

theorem grown_put15 (w : World) (b : Nat) (v0 v1 v2 v3 v4 v5 v6 v7 v8 v9 v10 v11 v12 v13 v14 : Value) : w.grownBy (((((((((((((((w.setCell ⟨b, 0, none⟩ v0).setCell ⟨b, 1, none⟩ v1).setCell ⟨b, 2, none⟩ v2).setCell ⟨b, 3, none⟩ v3).setCell ⟨b, 4, none⟩ v4).setCell ⟨b, 5, none⟩ v5).setCell ⟨b, 6, none⟩ v6).setCell ⟨b, 7, none⟩ v7).setCell ⟨b, 8, none⟩ v8).setCell ⟨b, 9, none⟩ v9).setCell ⟨b, 10, none⟩ v10).setCell ⟨b, 11, none⟩ v11).setCell ⟨b, 12, none⟩ v12).setCell ⟨b, 13, none⟩ v13).setCell ⟨b, 14, none⟩ v14) (some b) :=
  grown_set (grown_set (grown_set (grown_set (grown_set (grown_set (grown_set (grown_set (grown_set (grown_set (grown_set (grown_set (grown_set (grown_set (grown_set (grown_refl w _) 0 v0) 1 v1) 2 v2) 3 v3) 4 v4) 5 v5) 6 v6) 7 v7) 8 v8) 9 v9) 10 v10) 11 v11) 12 v12) 13 v13) 14 v14

set_option maxRecDepth 100000 in
theorem results_fmsg (tmps : Array Value) (w : World) (b : Nat) (v0 v1 v2 v3 v4 v5 v6 v7 v8 v9 v10 v11 v12 v13 v14 : Value) (hp : tmps.getD 2 undef = .pointer (some ⟨b, 0, none⟩)) (hb : Bl 28 w b #[v0, v1, v2, v3, v4, v5, v6, v7, v8, v9, v10, v11, v12, v13, v14]) :
    (results Tryd.f48 tmps).run Tryd.prog w = .ok (.agg #[v0, v1, v2, v3, v4, v5, v6, v7, v8, v9, v10, v11, v12, v13, v14]) w := by
  have c0 : w.cell? ⟨b, 0, none⟩ = some v0 := hb.cell (i := 0) rfl
  have c1 : w.cell? ⟨b, 1, none⟩ = some v1 := hb.cell (i := 1) rfl
  have c2 : w.cell? ⟨b, 2, none⟩ = some v2 := hb.cell (i := 2) rfl
  have c3 : w.cell? ⟨b, 3, none⟩ = some v3 := hb.cell (i := 3) rfl
  have c4 : w.cell? ⟨b, 4, none⟩ = some v4 := hb.cell (i := 4) rfl
  have c5 : w.cell? ⟨b, 5, none⟩ = some v5 := hb.cell (i := 5) rfl
  have c6 : w.cell? ⟨b, 6, none⟩ = some v6 := hb.cell (i := 6) rfl
  have c7 : w.cell? ⟨b, 7, none⟩ = some v7 := hb.cell (i := 7) rfl
  have c8 : w.cell? ⟨b, 8, none⟩ = some v8 := hb.cell (i := 8) rfl
  have c9 : w.cell? ⟨b, 9, none⟩ = some v9 := hb.cell (i := 9) rfl
  have c10 : w.cell? ⟨b, 10, none⟩ = some v10 := hb.cell (i := 10) rfl
  have c11 : w.cell? ⟨b, 11, none⟩ = some v11 := hb.cell (i := 11) rfl
  have c12 : w.cell? ⟨b, 12, none⟩ = some v12 := hb.cell (i := 12) rfl
  have c13 : w.cell? ⟨b, 13, none⟩ = some v13 := hb.cell (i := 13) rfl
  have c14 : w.cell? ⟨b, 14, none⟩ = some v14 := hb.cell (i := 14) rfl
  have hp' : tmps[2]?.getD undef = .pointer (some ⟨b, 0, none⟩) := by simpa using hp
  simp [results, Tryd.results48, go_sem, hp', c0, c1, c2, c3, c4, c5, c6, c7, c8, c9, c10, c11, c12, c13, c14]

theorem RRow.kept {w w' : World} {B b : Nat} {v : Value} {rs : List Rn} (h : RRow w B v rs) (hg : w.grownBy w' (some b)) (hb : b < B) : RRow w' B v rs := by
  obtain ⟨L, h1, h2, h3⟩ := h
  refine ⟨L, h1, h2.kept hg ?_, fun e he => ?_⟩
  · right
    intro q
    have := (World.ownsRow.lt h2 _ q).1
    omega
  · obtain ⟨⟨k1, k2⟩, k3, k4, k5⟩ := h3 e he
    exact ⟨⟨k1.kept hg (fun a ha => Or.inr (fun q => by cases q; have := (k2 a ha).1; omega)), k2⟩, k3.kept hg (fun a ha => Or.inr (fun q => by cases q; have := (k5 a ha).1; omega)), k4, k5⟩

theorem QRow.kept {w w' : World} {B b : Nat} {v : Value} {qs : List Qn} (h : QRow w B v qs) (hg : w.grownBy w' (some b)) (hb : b < B) : QRow w' B v qs := by
  obtain ⟨L, h1, h2, h3⟩ := h
  refine ⟨L, h1, h2.kept hg ?_, fun e he => ?_⟩
  · right
    intro q
    have := (World.ownsRow.lt h2 _ q).1
    omega
  · obtain ⟨k1, k2⟩ := h3 e he
    exact ⟨k1.kept hg (fun a ha => Or.inr (fun q => by cases q; have := (k2 a ha).1; omega)), k2⟩

theorem RRow.base {w : World} {B B' : Nat} {v : Value} {rs : List Rn} (h : RRow w B v rs) (k : B' ≤ B) : RRow w B' v rs := by
  obtain ⟨L, h1, h2, h3⟩ := h
  exact ⟨L, h1, owns_base5 h2 k, fun e he => ⟨⟨(h3 e he).1.1, fun a ha => ⟨Nat.le_trans k ((h3 e he).1.2 a ha).1, ((h3 e he).1.2 a ha).2⟩⟩, (h3 e he).2.1, (h3 e he).2.2.1, fun a ha => ⟨Nat.le_trans k ((h3 e he).2.2.2 a ha).1, ((h3 e he).2.2.2 a ha).2⟩⟩⟩

theorem QRow.base {w : World} {B B' : Nat} {v : Value} {rs : List Qn} (h : QRow w B v rs) (k : B' ≤ B) : QRow w B' v rs := by
  obtain ⟨L, h1, h2, h3⟩ := h
  exact ⟨L, h1, owns_base5 h2 k, fun e he => ⟨(h3 e he).1, fun a ha => ⟨Nat.le_trans k ((h3 e he).2 a ha).1, ((h3 e he).2 a ha).2⟩⟩⟩

theorem RRow.val {w : World} {B : Nat} {v : Value} {rs : List Rn} (h : RRow w B v rs) : ∃ x c, v = .slice x rs.length c := by
  obtain ⟨L, rfl, h2, _⟩ := h
  rw [List.length_map]
  rcases h2.2 with ⟨e, e2⟩ | ⟨g, cap, cur, e, _⟩
  · exact ⟨none, 0, by rw [e, e2]⟩
  · exact ⟨_, _, e⟩

theorem QRow.val {w : World} {B : Nat} {v : Value} {rs : List Qn} (h : QRow w B v rs) : ∃ x c, v = .slice x rs.length c := by
  obtain ⟨L, rfl, h2, _⟩ := h
  rw [List.length_map]
  rcases h2.2 with ⟨e, e2⟩ | ⟨g, cap, cur, e, _⟩
  · exact ⟨none, 0, by rw [e, e2]⟩
  · exact ⟨_, _, e⟩

theorem each_r2 {x : Option Addr} {c bq : Nat} (rs : List Rn) (w : World) (h : Rs w bq x c rs) (hb : rs.length * 72 ≤ 140737488355328) :
    Calls Tryd.prog 73 #[.slice x rs.length c, .func (.func 74) #[] #[]] w fun e w' => ∃ y d, e = .returned (.slice y rs.length d) ∧ RRow w' w.heap.size (.slice y rs.length d) rs ∧ Below w.heap.size w w' := by
  refine (each_r rs w h rfl hb).mono ?_
  rintro e w' ⟨v, rfl, hr, b⟩
  obtain ⟨y, d, rfl⟩ := hr.val
  exact ⟨y, d, rfl, hr, b⟩

theorem each_q2 {x : Option Addr} {c bq : Nat} (rs : List Qn) (w : World) (h : Qs w bq x c rs) :
    Calls Tryd.prog 71 #[.slice x rs.length c, .func (.func 72) #[] #[]] w fun e w' => ∃ y d, e = .returned (.slice y rs.length d) ∧ QRow w' w.heap.size (.slice y rs.length d) rs ∧ Below w.heap.size w w' := by
  refine (each_q rs w h rfl).mono ?_
  rintro e w' ⟨v, rfl, hr, b⟩
  obtain ⟨y, d, rfl⟩ := hr.val
  exact ⟨y, d, rfl, hr, b⟩

theorem Bl.pickU {t : TypeId} {w u : World} {b B : Nat} {C : Array Value} (h : Bl t w b C) (hb : b < B) (k : Below B w u) (i : Nat) {v : Value} (hv : C[i]? = some v) : u.cell? ⟨b, i, none⟩ = some v := (h.under hb k).cell hv

theorem Bl.pick {t : TypeId} {w u : World} {b : Nat} {C : Array Value} (h : Bl t w b C) (k : Below w.heap.size w u) (i : Nat) {v : Value} (hv : C[i]? = some v) : u.cell? ⟨b, i, none⟩ = some v := (h.below k).cell hv

/-- Two worlds have the same blocks from B on, as far as the first one goes. -/
def Agree (B : Nat) (u w : World) : Prop := u.heap.size ≤ w.heap.size ∧ ∀ k, B ≤ k → k < u.heap.size → w.heap[k]? = u.heap[k]?

theorem Agree.refl (B : Nat) (u : World) : Agree B u u := ⟨Nat.le_refl _, fun _ _ _ => rfl⟩

theorem Agree.below {B : Nat} {u w w' : World} (h : Agree B u w) (k : Below w.heap.size w w') : Agree B u w' :=
  ⟨Nat.le_trans h.1 k.size, fun i h1 h2 => by rw [k.block i (Nat.lt_of_lt_of_le h2 h.1)]; exact h.2 i h1 h2⟩

theorem Agree.grown {B : Nat} {u w w' : World} {row : Option Nat} (h : Agree B u w) (g : w.grownBy w' row) (hr : ∀ b, row = some b → b < B ∨ u.heap.size ≤ b) : Agree B u w' :=
  ⟨Nat.le_trans h.1 g.size, fun i h1 h2 => by rw [g.block i (Nat.lt_of_lt_of_le h2 h.1) (fun e => by rcases hr i e.symm with q | q <;> omega)]; exact h.2 i h1 h2⟩

theorem Strs.agree {B : Nat} {u w : World} {x : Option Addr} {c : Nat} {ss : List ByteArray} (h : Strs u x c ss) (k : Agree B u w) (hB : ∀ a, x = some a → B ≤ a.block) : Strs w x c ss := by
  obtain ⟨h1, h2, h3, h4⟩ := h
  refine ⟨h1, h2, h3, ?_⟩
  rcases h4 with h4 | ⟨b, off, hx, hb, hc⟩
  · exact Or.inl h4
  · refine Or.inr ⟨b, off, hx, Nat.lt_of_lt_of_le hb k.1, fun i hi => ?_⟩
    have := k.2 b (hB _ hx) hb
    rw [← hc i hi]
    simp only [World.cell?, this]

theorem Bys.agree {B : Nat} {u w : World} {x : Option Addr} {c : Nat} {ss : List Int} (h : Bys u x c ss) (k : Agree B u w) (hB : ∀ a, x = some a → B ≤ a.block) : Bys w x c ss := by
  obtain ⟨h1, h2, h3, h4⟩ := h
  refine ⟨h1, h2, h3, ?_⟩
  rcases h4 with h4 | ⟨b, off, hx, hb, hc⟩
  · exact Or.inl h4
  · refine Or.inr ⟨b, off, hx, Nat.lt_of_lt_of_le hb k.1, fun i hi => ?_⟩
    have := k.2 b (hB _ hx) hb
    rw [← hc i hi]
    simp only [World.cell?, this]

theorem owns_agree {u w : World} {B e n m : Nat} {v : Value} {xs : List Value} (h : u.ownsRow B e m v n xs) (k : Agree B u w) : w.ownsRow B e m v n xs := by
  have hlt := fun g hg => World.ownsRow.lt h g hg
  obtain ⟨h1, h2⟩ := h
  refine ⟨h1, ?_⟩
  rcases h2 with q | ⟨g, cap, cur, hv, hb, hg, r⟩
  · exact Or.inl q
  · refine Or.inr ⟨g, cap, cur, hv, hb, ?_, r⟩
    have := (hlt g (by rw [hv]; rfl)).2
    rw [k.2 g hb this, hg]

theorem RRow.agree {B : Nat} {u w : World} {v : Value} {rs : List Rn} (h : RRow u B v rs) (k : Agree B u w) : RRow w B v rs := by
  obtain ⟨L, h1, h2, h3⟩ := h
  exact ⟨L, h1, owns_agree h2 k, fun e he => ⟨⟨(h3 e he).1.1.agree k (fun a ha => ((h3 e he).1.2 a ha).1), (h3 e he).1.2⟩, (h3 e he).2.1.agree k (fun a ha => ((h3 e he).2.2.2 a ha).1), (h3 e he).2.2⟩⟩

theorem QRow.agree {B : Nat} {u w : World} {v : Value} {rs : List Qn} (h : QRow u B v rs) (k : Agree B u w) : QRow w B v rs := by
  obtain ⟨L, h1, h2, h3⟩ := h
  exact ⟨L, h1, owns_agree h2 k, fun e he => ⟨(h3 e he).1.agree k (fun a ha => ((h3 e he).2 a ha).1), (h3 e he).2⟩⟩

/-- The parts of a message in memory of the call's own, from block W on: its last records a row of their own, behind all else. -/
def MRows (W : Nat) (vq v1 v2 v3 : Value) (qs : List Qn) (r1 r2 r3 : List Rn) (w : World) : Prop :=
  ∃ (u : World) (B : Nat), W ≤ B ∧ B ≤ u.heap.size ∧ QRow u B vq qs ∧ RRow u B v1 r1 ∧ RRow u B v2 r2 ∧ Agree B u w ∧ RRow w u.heap.size v3 r3

theorem MRows.put {W : Nat} {vq v1 v2 v3 : Value} {qs : List Qn} {r1 r2 r3 : List Rn} {w w' : World} {b : Nat} (h : MRows W vq v1 v2 v3 qs r1 r2 r3 w) (g : w.grownBy w' (some b)) (hb : b < W) : MRows W vq v1 v2 v3 qs r1 r2 r3 w' := by
  obtain ⟨u, B, h1, h2, h3, h4, h5, h6, h7⟩ := h
  exact ⟨u, B, h1, h2, h3, h4, h5, h6.grown g (fun c hc => by cases hc; left; omega), h7.kept g (by omega)⟩

theorem MRows.base {W W' : Nat} {vq v1 v2 v3 : Value} {qs : List Qn} {r1 r2 r3 : List Rn} {w : World} (h : MRows W vq v1 v2 v3 qs r1 r2 r3 w) (k : W' ≤ W) : MRows W' vq v1 v2 v3 qs r1 r2 r3 w := by
  obtain ⟨u, B, h1, r⟩ := h
  exact ⟨u, B, Nat.le_trans k h1, r⟩

theorem MRows.below {W : Nat} {vq v1 v2 v3 : Value} {qs : List Qn} {r1 r2 r3 : List Rn} {w w' : World} (h : MRows W vq v1 v2 v3 qs r1 r2 r3 w) (k : Below w.heap.size w w') : MRows W vq v1 v2 v3 qs r1 r2 r3 w' := by
  obtain ⟨u, B, h1, h2, h3, h4, h5, h6, h7⟩ := h
  exact ⟨u, B, h1, h2, h3, h4, h5, h6.below k, h7.below k⟩

/-- The same message, in memory of its own (its last records a row of the call's own). -/
def MCopy (h : Hd) (qs : List Qn) (r1 r2 r3 : List Rn) (w : World) (e : Ending) (w' : World) : Prop :=
  ∃ yq dq y1 d1 y2 d2 y3 d3, e = .returned (.agg #[.int .i64 h.id, .bool h.an, .int .i64 h.op, .bool h.aa, .bool h.tc, .bool h.rd, .bool h.ra, .bool h.z, .bool h.ad, .bool h.cd, .int .i64 h.code, .slice yq qs.length dq, .slice y1 r1.length d1, .slice y2 r2.length d2, .slice y3 r3.length d3]) ∧ MRows w.heap.size (.slice yq qs.length dq) (.slice y1 r1.length d1) (.slice y2 r2.length d2) (.slice y3 r3.length d3) qs r1 r2 r3 w' ∧ Below w.heap.size w w'

set_option maxHeartbeats 8000000 in
set_option maxRecDepth 100000 in
theorem fmsg_any {xq x1 x2 x3 : Option Addr} {cq c1 c2 c3 bq b1 b2 b3 : Nat} (h : Hd) (qs : List Qn) (r1 r2 r3 : List Rn) (w : World) (hq : Qs w bq xq cq qs) (hr1 : Rs w b1 x1 c1 r1) (hr2 : Rs w b2 x2 c2 r2) (hr3 : Rs w b3 x3 c3 r3) (l1 : r1.length * 72 ≤ 140737488355328) (l2 : r2.length * 72 ≤ 140737488355328) (l3 : r3.length * 72 ≤ 140737488355328) :
    Calls Tryd.prog 48 #[.agg #[.int .i64 h.id, .bool h.an, .int .i64 h.op, .bool h.aa, .bool h.tc, .bool h.rd, .bool h.ra, .bool h.z, .bool h.ad, .bool h.cd, .int .i64 h.code, .slice xq qs.length cq, .slice x1 r1.length c1, .slice x2 r2.length c2, .slice x3 r3.length c3]] w (MCopy h qs r1 r2 r3 w) := by
  obtain ⟨k1, k2, k3⟩ := Bl.two 28 28 w #[.int .i64 h.id, .bool h.an, .int .i64 h.op, .bool h.aa, .bool h.tc, .bool h.rd, .bool h.ra, .bool h.z, .bool h.ad, .bool h.cd, .int .i64 h.code, .slice xq qs.length cq, .slice x1 r1.length c1, .slice x2 r2.length c2, .slice x3 r3.length c3] ms0
  have HQ := hid (hq.below k3)
  have H1 := hid (hr1.below k3)
  have H2 := hid (hr2.below k3)
  have H3 := hid (hr3.below k3)
  have L1 := hid l1
  have L2 := hid l2
  have L3 := hid l3
  have K1 := hid k1
  have K2 := hid k2
  have K3 := hid k3
  clear hq hr1 hr2 hr3 k1 k2 k3 l1 l2 l3
  go_enter Tryd.func48, Tryd.ntmps48
  go_upto_region 1 with fail
  have HS : Hid (((w.alloc (.cells #[.int .i64 h.id, .bool h.an, .int .i64 h.op, .bool h.aa, .bool h.tc, .bool h.rd, .bool h.ra, .bool h.z, .bool h.ad, .bool h.cd, .int .i64 h.code, .slice xq qs.length cq, .slice x1 r1.length c1, .slice x2 r2.length c2, .slice x3 r3.length c3] 28)).alloc (.cells ms0 28)).heap.size = w.heap.size + 2) := hid (by simp)
  unfold ms0 at K1 K2 K3 HQ H1 H2 H3 HS
  generalize HW : (w.alloc (.cells #[.int .i64 h.id, .bool h.an, .int .i64 h.op, .bool h.aa, .bool h.tc, .bool h.rd, .bool h.ra, .bool h.z, .bool h.ad, .bool h.cd, .int .i64 h.code, .slice xq qs.length cq, .slice x1 r1.length c1, .slice x2 r2.length c2, .slice x3 r3.length c3] 28)).alloc (.cells #[.int .i64 0, .bool false, .int .i64 0, .bool false, .bool false, .bool false, .bool false, .bool false, .bool false, .bool false, .int .i64 0, .slice none 0 0, .slice none 0 0, .slice none 0 0, .slice none 0 0] 28) = W at *
  clear HW
  have CQ : Hid (∀ u, Below W.heap.size W u → Calls Tryd.prog 71 #[.slice xq qs.length cq, .func (.func 72) #[] #[]] u fun e w' => ∃ y d, e = .returned (.slice y qs.length d) ∧ QRow w' u.heap.size (.slice y qs.length d) qs ∧ Below u.heap.size u w') := hid (fun u hu => each_q2 qs u (HQ.out.below hu))
  have C1 : Hid (∀ u, Below W.heap.size W u → Calls Tryd.prog 73 #[.slice x1 r1.length c1, .func (.func 74) #[] #[]] u fun e w' => ∃ y d, e = .returned (.slice y r1.length d) ∧ RRow w' u.heap.size (.slice y r1.length d) r1 ∧ Below u.heap.size u w') := hid (fun u hu => each_r2 r1 u (H1.out.below hu) L1.out)
  have C2 : Hid (∀ u, Below W.heap.size W u → Calls Tryd.prog 73 #[.slice x2 r2.length c2, .func (.func 74) #[] #[]] u fun e w' => ∃ y d, e = .returned (.slice y r2.length d) ∧ RRow w' u.heap.size (.slice y r2.length d) r2 ∧ Below u.heap.size u w') := hid (fun u hu => each_r2 r2 u (H2.out.below hu) L2.out)
  have C3 : Hid (∀ u, Below W.heap.size W u → Calls Tryd.prog 73 #[.slice x3 r3.length c3, .func (.func 74) #[] #[]] u fun e w' => ∃ y d, e = .returned (.slice y r3.length d) ∧ RRow w' u.heap.size (.slice y r3.length d) r3 ∧ Below u.heap.size u w') := hid (fun u hu => each_r2 r3 u (H3.out.below hu) L3.out)
  have PK : Hid (∀ u, Below (w.heap.size + 1) W u → u.cell? ⟨w.heap.size, 0, none⟩ = some (.int .i64 h.id) ∧ u.cell? ⟨w.heap.size, 1, none⟩ = some (.bool h.an) ∧ u.cell? ⟨w.heap.size, 2, none⟩ = some (.int .i64 h.op) ∧ u.cell? ⟨w.heap.size, 3, none⟩ = some (.bool h.aa) ∧ u.cell? ⟨w.heap.size, 4, none⟩ = some (.bool h.tc) ∧ u.cell? ⟨w.heap.size, 5, none⟩ = some (.bool h.rd) ∧ u.cell? ⟨w.heap.size, 6, none⟩ = some (.bool h.ra) ∧ u.cell? ⟨w.heap.size, 7, none⟩ = some (.bool h.z) ∧ u.cell? ⟨w.heap.size, 8, none⟩ = some (.bool h.ad) ∧ u.cell? ⟨w.heap.size, 9, none⟩ = some (.bool h.cd) ∧ u.cell? ⟨w.heap.size, 10, none⟩ = some (.int .i64 h.code) ∧ u.cell? ⟨w.heap.size, 11, none⟩ = some (.slice xq qs.length cq) ∧ u.cell? ⟨w.heap.size, 12, none⟩ = some (.slice x1 r1.length c1) ∧ u.cell? ⟨w.heap.size, 13, none⟩ = some (.slice x2 r2.length c2) ∧ u.cell? ⟨w.heap.size, 14, none⟩ = some (.slice x3 r3.length c3) ∧ Below (w.heap.size + 1) W u) := hid (fun u hu => ⟨K1.out.pickU (Nat.lt_succ_self _) hu 0 rfl, K1.out.pickU (Nat.lt_succ_self _) hu 1 rfl, K1.out.pickU (Nat.lt_succ_self _) hu 2 rfl, K1.out.pickU (Nat.lt_succ_self _) hu 3 rfl, K1.out.pickU (Nat.lt_succ_self _) hu 4 rfl, K1.out.pickU (Nat.lt_succ_self _) hu 5 rfl, K1.out.pickU (Nat.lt_succ_self _) hu 6 rfl, K1.out.pickU (Nat.lt_succ_self _) hu 7 rfl, K1.out.pickU (Nat.lt_succ_self _) hu 8 rfl, K1.out.pickU (Nat.lt_succ_self _) hu 9 rfl, K1.out.pickU (Nat.lt_succ_self _) hu 10 rfl, K1.out.pickU (Nat.lt_succ_self _) hu 11 rfl, K1.out.pickU (Nat.lt_succ_self _) hu 12 rfl, K1.out.pickU (Nat.lt_succ_self _) hu 13 rfl, K1.out.pickU (Nat.lt_succ_self _) hu 14 rfl, hu⟩)
  clear HQ H1 H2 H3 L1 L2 L3
  go_region_held3 (fun u => u.cell? ⟨w.heap.size, 0, none⟩ = some (.int .i64 h.id) ∧ u.cell? ⟨w.heap.size, 1, none⟩ = some (.bool h.an) ∧ u.cell? ⟨w.heap.size, 2, none⟩ = some (.int .i64 h.op) ∧ u.cell? ⟨w.heap.size, 3, none⟩ = some (.bool h.aa) ∧ u.cell? ⟨w.heap.size, 4, none⟩ = some (.bool h.tc) ∧ u.cell? ⟨w.heap.size, 5, none⟩ = some (.bool h.rd) ∧ u.cell? ⟨w.heap.size, 6, none⟩ = some (.bool h.ra) ∧ u.cell? ⟨w.heap.size, 7, none⟩ = some (.bool h.z) ∧ u.cell? ⟨w.heap.size, 8, none⟩ = some (.bool h.ad) ∧ u.cell? ⟨w.heap.size, 9, none⟩ = some (.bool h.cd) ∧ u.cell? ⟨w.heap.size, 10, none⟩ = some (.int .i64 h.code) ∧ u.cell? ⟨w.heap.size, 11, none⟩ = some (.slice xq qs.length cq) ∧ u.cell? ⟨w.heap.size, 12, none⟩ = some (.slice x1 r1.length c1) ∧ u.cell? ⟨w.heap.size, 13, none⟩ = some (.slice x2 r2.length c2) ∧ u.cell? ⟨w.heap.size, 14, none⟩ = some (.slice x3 r3.length c3) ∧ Below (w.heap.size + 1) W u) (with_reducible (refine PK.out _ ?_; first | exact HX3 | exact HX2 | exact HX1 | exact HXq | exact Below.drew (Below.refl _ _) | exact below_put15 HX3 (Nat.le_refl _) _ _ _ _ _ _ _ _ _ _ _ _ _ _ _))
    (first
      | (go_at_call 71; refine (CQ.out _ (Below.drew (Below.refl _ _))).mono ?_; rintro e wq ⟨yq, dq, rfl, rq, bq'⟩; have RQ := hid rq; have HBq : Below W.heap.size W wq := grown_on (Below.drew (Below.refl _ _)) bq'; have HXq : Below (w.heap.size + 1) W wq := HBq.mono (by rw [HS.out]; omega); have BQ := hid bq'; clear rq bq')
      | (go_at_call_of 73 (Value.slice x1 r1.length c1); refine (C1.out _ HBq).mono ?_; rintro e w1 ⟨y1, d1, rfl, rr1, bb1⟩; have R1 := hid rr1; have HB1 : Below W.heap.size W w1 := grown_on HBq bb1; have HX1 : Below (w.heap.size + 1) W w1 := HB1.mono (by rw [HS.out]; omega); have BB1 := hid bb1; clear rr1 bb1)
      | (go_at_call_of 73 (Value.slice x2 r2.length c2); refine (C2.out _ HB1).mono ?_; rintro e w2 ⟨y2, d2, rfl, rr2, bb2⟩; have R2 := hid rr2; have HB2 : Below W.heap.size W w2 := grown_on HB1 bb2; have HX2 : Below (w.heap.size + 1) W w2 := HB2.mono (by rw [HS.out]; omega); have BB2 := hid bb2; clear rr2 bb2)
      | (go_at_call_of 73 (Value.slice x3 r3.length c3); refine (C3.out _ HB2).mono ?_; rintro e w3 ⟨y3, d3, rfl, rr3, bb3⟩; have R3 := hid rr3; have HB3 : Below W.heap.size W w3 := grown_on HB2 bb3; have HX3 : Below (w.heap.size + 1) W w3 := HB3.mono (by rw [HS.out]; omega); have BB3 := hid bb3; have K5 := K2.out.below HB3; have fz0 : w3.frozen? ⟨w.heap.size + 1, 0, none⟩ = false := K5.frozen 0; have yc0 : w3.cell? ⟨w.heap.size + 1, 0, none⟩ = some (.int .i64 0) := K5.cell (i := 0) rfl; have fz1 : w3.frozen? ⟨w.heap.size + 1, 1, none⟩ = false := K5.frozen 1; have yc1 : w3.cell? ⟨w.heap.size + 1, 1, none⟩ = some (.bool false) := K5.cell (i := 1) rfl; have fz2 : w3.frozen? ⟨w.heap.size + 1, 2, none⟩ = false := K5.frozen 2; have yc2 : w3.cell? ⟨w.heap.size + 1, 2, none⟩ = some (.int .i64 0) := K5.cell (i := 2) rfl; have fz3 : w3.frozen? ⟨w.heap.size + 1, 3, none⟩ = false := K5.frozen 3; have yc3 : w3.cell? ⟨w.heap.size + 1, 3, none⟩ = some (.bool false) := K5.cell (i := 3) rfl; have fz4 : w3.frozen? ⟨w.heap.size + 1, 4, none⟩ = false := K5.frozen 4; have yc4 : w3.cell? ⟨w.heap.size + 1, 4, none⟩ = some (.bool false) := K5.cell (i := 4) rfl; have fz5 : w3.frozen? ⟨w.heap.size + 1, 5, none⟩ = false := K5.frozen 5; have yc5 : w3.cell? ⟨w.heap.size + 1, 5, none⟩ = some (.bool false) := K5.cell (i := 5) rfl; have fz6 : w3.frozen? ⟨w.heap.size + 1, 6, none⟩ = false := K5.frozen 6; have yc6 : w3.cell? ⟨w.heap.size + 1, 6, none⟩ = some (.bool false) := K5.cell (i := 6) rfl; have fz7 : w3.frozen? ⟨w.heap.size + 1, 7, none⟩ = false := K5.frozen 7; have yc7 : w3.cell? ⟨w.heap.size + 1, 7, none⟩ = some (.bool false) := K5.cell (i := 7) rfl; have fz8 : w3.frozen? ⟨w.heap.size + 1, 8, none⟩ = false := K5.frozen 8; have yc8 : w3.cell? ⟨w.heap.size + 1, 8, none⟩ = some (.bool false) := K5.cell (i := 8) rfl; have fz9 : w3.frozen? ⟨w.heap.size + 1, 9, none⟩ = false := K5.frozen 9; have yc9 : w3.cell? ⟨w.heap.size + 1, 9, none⟩ = some (.bool false) := K5.cell (i := 9) rfl; have fz10 : w3.frozen? ⟨w.heap.size + 1, 10, none⟩ = false := K5.frozen 10; have yc10 : w3.cell? ⟨w.heap.size + 1, 10, none⟩ = some (.int .i64 0) := K5.cell (i := 10) rfl; have fz11 : w3.frozen? ⟨w.heap.size + 1, 11, none⟩ = false := K5.frozen 11; have yc11 : w3.cell? ⟨w.heap.size + 1, 11, none⟩ = some (.slice none 0 0) := K5.cell (i := 11) rfl; have fz12 : w3.frozen? ⟨w.heap.size + 1, 12, none⟩ = false := K5.frozen 12; have yc12 : w3.cell? ⟨w.heap.size + 1, 12, none⟩ = some (.slice none 0 0) := K5.cell (i := 12) rfl; have fz13 : w3.frozen? ⟨w.heap.size + 1, 13, none⟩ = false := K5.frozen 13; have yc13 : w3.cell? ⟨w.heap.size + 1, 13, none⟩ = some (.slice none 0 0) := K5.cell (i := 13) rfl; have fz14 : w3.frozen? ⟨w.heap.size + 1, 14, none⟩ = false := K5.frozen 14; have yc14 : w3.cell? ⟨w.heap.size + 1, 14, none⟩ = some (.slice none 0 0) := K5.cell (i := 14) rfl; have KK5 := hid K5; clear rr3 bb3 K5))
  have hs : w.heap.size + 1 < W.heap.size := by rw [HS.out]; omega
  have s0 : W.heap.size ≤ wq.heap.size := HBq.size
  have s1 : W.heap.size ≤ w1.heap.size := HB1.size
  have s2 : W.heap.size ≤ w2.heap.size := HB2.size
  have KR := hid ((show Bl 28 w3 (w.heap.size + 1) ms0 from KK5.out).put15 (.int .i64 h.id) (.bool h.an) (.int .i64 h.op) (.bool h.aa) (.bool h.tc) (.bool h.rd) (.bool h.ra) (.bool h.z) (.bool h.ad) (.bool h.cd) (.int .i64 h.code) (.slice yq qs.length dq) (.slice y1 r1.length d1) (.slice y2 r2.length d2) (.slice y3 r3.length d3))
  have GR := hid (grown_put15 w3 (w.heap.size + 1) (.int .i64 h.id) (.bool h.an) (.int .i64 h.op) (.bool h.aa) (.bool h.tc) (.bool h.rd) (.bool h.ra) (.bool h.z) (.bool h.ad) (.bool h.cd) (.int .i64 h.code) (.slice yq qs.length dq) (.slice y1 r1.length d1) (.slice y2 r2.length d2) (.slice y3 r3.length d3))
  have BR := hid (below_put15 (b := w.heap.size + 1) (grown_on K3.out HB3) (by omega) (.int .i64 h.id) (.bool h.an) (.int .i64 h.op) (.bool h.aa) (.bool h.tc) (.bool h.rd) (.bool h.ra) (.bool h.z) (.bool h.ad) (.bool h.cd) (.int .i64 h.code) (.slice yq qs.length dq) (.slice y1 r1.length d1) (.slice y2 r2.length d2) (.slice y3 r3.length d3))
  have MR : Hid (MRows (w.heap.size + 2) (.slice yq qs.length dq) (.slice y1 r1.length d1) (.slice y2 r2.length d2) (.slice y3 r3.length d3) qs r1 r2 r3 w3) := hid ⟨w2, W.heap.size, by rw [HS.out]; exact Nat.le_refl _, s2, ((show QRow wq W.heap.size _ _ from RQ.out).below BB1.out).below BB2.out, (R1.out.base s0).below BB2.out, R2.out.base s1, (Agree.refl _ _).below BB3.out, R3.out⟩
  generalize (((((((((((((((w3.setCell ⟨w.heap.size + 1, 0, none⟩ (.int .i64 h.id)).setCell ⟨w.heap.size + 1, 1, none⟩ (.bool h.an)).setCell ⟨w.heap.size + 1, 2, none⟩ (.int .i64 h.op)).setCell ⟨w.heap.size + 1, 3, none⟩ (.bool h.aa)).setCell ⟨w.heap.size + 1, 4, none⟩ (.bool h.tc)).setCell ⟨w.heap.size + 1, 5, none⟩ (.bool h.rd)).setCell ⟨w.heap.size + 1, 6, none⟩ (.bool h.ra)).setCell ⟨w.heap.size + 1, 7, none⟩ (.bool h.z)).setCell ⟨w.heap.size + 1, 8, none⟩ (.bool h.ad)).setCell ⟨w.heap.size + 1, 9, none⟩ (.bool h.cd)).setCell ⟨w.heap.size + 1, 10, none⟩ (.int .i64 h.code)).setCell ⟨w.heap.size + 1, 11, none⟩ (.slice yq qs.length dq)).setCell ⟨w.heap.size + 1, 12, none⟩ (.slice y1 r1.length d1)).setCell ⟨w.heap.size + 1, 13, none⟩ (.slice y2 r2.length d2)).setCell ⟨w.heap.size + 1, 14, none⟩ (.slice y3 r3.length d3)) = w4 at *
  clear CQ C1 C2 C3 PK K1 K2 KK5 RQ R1 R2 R3 BQ BB1 BB2 BB3 HBq HB1 HB2 HXq HX1 HX2 HX3
  clear fz0 yc0 fz1 yc1 fz2 yc2 fz3 yc3 fz4 yc4 fz5 yc5 fz6 yc6 fz7 yc7 fz8 yc8 fz9 yc9 fz10 yc10 fz11 yc11 fz12 yc12 fz13 yc13 fz14 yc14
  go_wp2_with fail
  refine bodyPost_ret (results_fmsg _ _ (w.heap.size + 1) _ _ _ _ _ _ _ _ _ _ _ _ _ _ _ rfl KR.out) rfl ?_
  exact ⟨yq, dq, y1, d1, y2, d2, y3, d3, rfl, (MR.out.put GR.out (Nat.lt_succ_self _)).base (by omega), BR.out⟩

end Go.Proofs.YtbbgabdiikdjpaaDoor

namespace Go.Proofs.YtbbgabdiikdjpaaDoor
open Go.RowKit Go.Deep

/-- Records but those of type 41. -/
def silR (rs : List Rn) : List Rn := rs.filter (fun r => !decide (r.ty = 41))

theorem sil_next {rs : List Rn} {i : Nat} (hi : i < rs.length) : silR (rs.take (i + 1)) = if rs[i].ty = 41 then silR (rs.take i) else silR (rs.take i) ++ [rs[i]] := by
  unfold silR
  rw [List.take_succ_eq_append_getElem hi, List.filter_append]
  by_cases c : rs[i].ty = 41
  · rw [if_pos c]; simp [c]
  · rw [if_neg c]; simp [c]

theorem sil_len (rs : List Rn) : (silR rs).length ≤ rs.length := List.length_filter_le _ _

set_option maxRecDepth 100000 in
theorem results_drop (tmps : Array Value) (w : World) (b : Nat) (v0 v1 v2 v3 v4 v5 v6 v7 v8 v9 v10 v11 v12 v13 v14 : Value) (hp : tmps.getD 2 undef = .pointer (some ⟨b, 0, none⟩)) (hb : Bl 28 w b #[v0, v1, v2, v3, v4, v5, v6, v7, v8, v9, v10, v11, v12, v13, v14]) :
    (results Tryd.f16 tmps).run Tryd.prog w = .ok (.agg #[v0, v1, v2, v3, v4, v5, v6, v7, v8, v9, v10, v11, v12, v13, v14]) w := by
  have c0 : w.cell? ⟨b, 0, none⟩ = some v0 := hb.cell (i := 0) rfl
  have c1 : w.cell? ⟨b, 1, none⟩ = some v1 := hb.cell (i := 1) rfl
  have c2 : w.cell? ⟨b, 2, none⟩ = some v2 := hb.cell (i := 2) rfl
  have c3 : w.cell? ⟨b, 3, none⟩ = some v3 := hb.cell (i := 3) rfl
  have c4 : w.cell? ⟨b, 4, none⟩ = some v4 := hb.cell (i := 4) rfl
  have c5 : w.cell? ⟨b, 5, none⟩ = some v5 := hb.cell (i := 5) rfl
  have c6 : w.cell? ⟨b, 6, none⟩ = some v6 := hb.cell (i := 6) rfl
  have c7 : w.cell? ⟨b, 7, none⟩ = some v7 := hb.cell (i := 7) rfl
  have c8 : w.cell? ⟨b, 8, none⟩ = some v8 := hb.cell (i := 8) rfl
  have c9 : w.cell? ⟨b, 9, none⟩ = some v9 := hb.cell (i := 9) rfl
  have c10 : w.cell? ⟨b, 10, none⟩ = some v10 := hb.cell (i := 10) rfl
  have c11 : w.cell? ⟨b, 11, none⟩ = some v11 := hb.cell (i := 11) rfl
  have c12 : w.cell? ⟨b, 12, none⟩ = some v12 := hb.cell (i := 12) rfl
  have c13 : w.cell? ⟨b, 13, none⟩ = some v13 := hb.cell (i := 13) rfl
  have c14 : w.cell? ⟨b, 14, none⟩ = some v14 := hb.cell (i := 14) rfl
  have hp' : tmps[2]?.getD undef = .pointer (some ⟨b, 0, none⟩) := by simpa using hp
  simp [results, Tryd.results16, go_sem, hp', c0, c1, c2, c3, c4, c5, c6, c7, c8, c9, c10, c11, c12, c13, c14]

theorem wpList_append_rl {wp w0 w : World} {xs rs : List Rn} {y : Option Addr} {m c : Nat} {ops : Array Oper} {rest : List Oper} {o : Oper} {a : Act} {Q : Exit → Act → World → Prop} (hgd : o.guard = none) (sl x : Operand)
    (ho : o.op = .call { callee := .builtin .append, args := #[sl, x], argTypes := #[26, 26] }) (v : Value) (hs : a.eval sl = v) (hx : a.eval x = .slice y m c) (h : GRow wp w0 v xs w) (hr : RList wp w y m rs) (hl : (xs.length + m) * 72 ≤ 140737488355328)
    (hK : ∀ v' w', GRow wp w0 v' (xs ++ rs) w' → w.grownBy w' v.ownBlock → wpList Tryd.prog ops Q rest (a.put o.dst v') w') : wpList Tryd.prog ops Q (o :: rest) a w := by
  refine wpList_plain hgd fun K hK' => ?_
  obtain ⟨v', w', hrun, har, hg⟩ := run_append_g (c := c) o.type v h hr hl
  unfold Oper.wp execOp
  simp only [ho, resolve, invoke, builtin, Sem.run_bind, Sem.run_pure, Result.andThen_ok, List.map_toArray, List.map_cons, List.map_nil, hs, hx, hrun]
  exact hK' _ _ (hK v' w' har hg)

theorem GRow.zero (wp w : World) : GRow wp w (.slice none 0 0) [] w := ⟨⟨[], rfl, World.ownsRow_nil _ _ _ _, fun e he => by simp at he⟩, Below.refl _ _⟩

/-- The loop of Drop: those of the first so many records that stay. -/
def DropRel (w W0 : World) (r3 : List Rn) (v vi : Value) (wr : World) : Prop := ∃ i : Nat, i ≤ r3.length ∧ vi = .int .i64 (i : Int) ∧ GRow w W0 v (silR (r3.take i)) wr

set_option maxHeartbeats 8000000 in
set_option maxRecDepth 100000 in
theorem drop_any {xq x1 x2 x3 : Option Addr} {cq c1 c2 c3 bq b1 b2 b3 : Nat} (h : Hd) (qs : List Qn) (r1 r2 r3 : List Rn) (w : World) (hq : Qs w bq xq cq qs) (hr1 : Rs w b1 x1 c1 r1) (hr2 : Rs w b2 x2 c2 r2) (hr3 : Rs w b3 x3 c3 r3) (l1 : r1.length * 72 ≤ 140737488355328) (l2 : r2.length * 72 ≤ 140737488355328) (l3 : r3.length * 72 ≤ 140737488355328) :
    Calls Tryd.prog 16 #[.agg #[.int .i64 h.id, .bool h.an, .int .i64 h.op, .bool h.aa, .bool h.tc, .bool h.rd, .bool h.ra, .bool h.z, .bool h.ad, .bool h.cd, .int .i64 h.code, .slice xq qs.length cq, .slice x1 r1.length c1, .slice x2 r2.length c2, .slice x3 r3.length c3]] w (MCopy h qs r1 r2 (silR r3) w) := by
  obtain ⟨k1, k2, k3⟩ := Bl.two 28 28 w #[.int .i64 h.id, .bool h.an, .int .i64 h.op, .bool h.aa, .bool h.tc, .bool h.rd, .bool h.ra, .bool h.z, .bool h.ad, .bool h.cd, .int .i64 h.code, .slice xq qs.length cq, .slice x1 r1.length c1, .slice x2 r2.length c2, .slice x3 r3.length c3] #[.int .i64 0, .bool false, .int .i64 0, .bool false, .bool false, .bool false, .bool false, .bool false, .bool false, .bool false, .int .i64 0, .slice none 0 0, .slice none 0 0, .slice none 0 0, .slice none 0 0]
  have hs : ((w.alloc (.cells #[.int .i64 h.id, .bool h.an, .int .i64 h.op, .bool h.aa, .bool h.tc, .bool h.rd, .bool h.ra, .bool h.z, .bool h.ad, .bool h.cd, .int .i64 h.code, .slice xq qs.length cq, .slice x1 r1.length c1, .slice x2 r2.length c2, .slice x3 r3.length c3] 28)).alloc (.cells #[.int .i64 0, .bool false, .int .i64 0, .bool false, .bool false, .bool false, .bool false, .bool false, .bool false, .bool false, .int .i64 0, .slice none 0 0, .slice none 0 0, .slice none 0 0, .slice none 0 0] 28)).heap.size = w.heap.size + 2 := by simp
  have HQ := hid hq
  have H1 := hid hr1
  have H2 := hid hr2
  have H3 := hid hr3
  have L1 := hid l1
  have L2 := hid l2
  have hlen := hr3.2.1
  have G14 : _ := k1.cell (i := 14) rfl
  clear hq hr1 hr2 hr3 l1 l2
  go_enter Tryd.func16, Tryd.ntmps16
  go_upto_region 2 with fail
  generalize (w.alloc (.cells #[.int .i64 h.id, .bool h.an, .int .i64 h.op, .bool h.aa, .bool h.tc, .bool h.rd, .bool h.ra, .bool h.z, .bool h.ad, .bool h.cd, .int .i64 h.code, .slice xq qs.length cq, .slice x1 r1.length c1, .slice x2 r2.length c2, .slice x3 r3.length c3] 28)).alloc (.cells #[.int .i64 0, .bool false, .int .i64 0, .bool false, .bool false, .bool false, .bool false, .bool false, .bool false, .bool false, .int .i64 0, .slice none 0 0, .slice none 0 0, .slice none 0 0, .slice none 0 0] 28) = W0 at *
  have K1 := hid k1
  have K2 := hid k2
  have K3 := hid k3
  have HS := hid hs
  clear k1 k2 k3 hs
  go_wp2_with fail
  go_loopw [3, 9] (fun v vi wr => DropRel w W0 r3 v vi wr) (fun _ i _ => r3.length - (intOf i).toNat)
  case atStart => exact ⟨0, Nat.zero_le _, rfl, GRow.zero w W0⟩
  case round =>
    obtain ⟨i, hi, rfl, hrow⟩ := hrel
    have HR := hid hrow
    clear hrow
    by_cases ci : i < r3.length
    · obtain ⟨b0, o0, y, s, z, t, rfl, hb0, p0, p1, p2, p3, p4, q1, q2, q3⟩ := H3.out.at ci
      have B0 := grown_on K3.out HR.out.2
      have e0 := (B0.cell (p := ⟨b0, o0 + i * 5, none⟩) hb0).trans p0
      have e1 := (B0.cell (p := ⟨b0, o0 + i * 5 + 1, none⟩) hb0).trans p1
      have e2 := (B0.cell (p := ⟨b0, o0 + i * 5 + 2, none⟩) hb0).trans p2
      have e3 := (B0.cell (p := ⟨b0, o0 + i * 5 + 3, none⟩) hb0).trans p3
      have e4 := (B0.cell (p := ⟨b0, o0 + i * 5 + 4, none⟩) hb0).trans p4
      have NX := hid (sil_next ci)
      have hsl : (silR (r3.take i)).length ≤ i := Nat.le_trans (sil_len _) (by rw [List.length_take]; omega)
      generalize r3[i] = r at *
      have Q1 := hid q1
      have Q2 := hid q2
      have Q3 := hid q3
      have ci2 : (i : Int) < (r3.length : Int) := by omega
      have hcap := H3.out.1
      have BA := hid ((Below.refl wr.heap.size wr).alloc (Nat.le_refl _) (.cells #[.slice y r.N.length s, .int .i64 r.ty, .int .i64 r.cl, .int .i64 r.ttl, .slice z r.D.length t] 67))
      clear p0 p1 p2 p3 p4 q1 q2 q3 B0 G14
      by_cases ct : r.ty = 41
      · have G2 := hid (HR.out.below BA.out)
        rw [ct] at e1
        go_wp2_with fail
        refine ⟨⟨i + 1, by omega, by go_num, ?_⟩, by simp [intOf]; omega⟩
        rw [NX.out, if_pos ct]
        have := G2.out
        rw [ct] at this
        exact this
      · have G2 : Hid (GRow w W0 u3 (silR (r3.take i)) ((wr.alloc (.cells #[.slice y r.N.length s, .int .i64 r.ty, .int .i64 r.cl, .int .i64 r.ttl, .slice z r.D.length t] 67)).alloc (.cells #[.slice y r.N.length s, .int .i64 r.ty, .int .i64 r.cl, .int .i64 r.ttl, .slice z r.D.length t] 67))) := hid ((HR.out.below BA.out).below ((Below.refl _ _).alloc (Nat.le_refl _) _))
        have RL : Hid (RList w ((wr.alloc (.cells #[.slice y r.N.length s, .int .i64 r.ty, .int .i64 r.cl, .int .i64 r.ttl, .slice z r.D.length t] 67)).alloc (.cells #[.slice y r.N.length s, .int .i64 r.ty, .int .i64 r.cl, .int .i64 r.ttl, .slice z r.D.length t] 67)) (some ⟨wr.heap.size + 1, 0, none⟩) 1 [r]) := hid (one_of (Bl.new2 67 wr (.cells #[.slice y r.N.length s, .int .i64 r.ty, .int .i64 r.cl, .int .i64 r.ttl, .slice z r.D.length t] 67) _) Q1.out Q2.out Q3.out)
        have hl2 : ((silR (r3.take i)).length + 1) * 72 ≤ 140737488355328 := by omega
        go_wp2_with (at_builtin; refine wpList_append_rl rfl _ _ rfl _ rfl rfl G2.out RL.out hl2 ?_)
        intro v1 w2 hg2 _
        have G3 := hid hg2
        clear hg2 G2 RL
        go_wp2_with fail
        refine ⟨⟨i + 1, by omega, by go_num, ?_⟩, by simp [intOf]; omega⟩
        rw [NX.out, if_neg ct]
        exact G3.out
    · have ei : i = r3.length := by omega
      subst ei
      rw [List.take_of_length_le (Nat.le_refl _)] at HR
      have hsl := sil_len r3
      have KW1 := hid (K1.out.below HR.out.2)
      have KW2 := hid (K2.out.below HR.out.2)
      have BW := hid (grown_on K3.out HR.out.2)
      obtain ⟨x4, c4, rfl, hput⟩ := HR.out.put K3.out (by omega) (p := ⟨w.heap.size, 14, none⟩) (Nat.le_refl _) (by rw [HS.out]; exact Nat.lt_succ_of_lt (Nat.lt_succ_self _))
      have R4 := hid (hput (.slice x4 (silR r3).length c4))
      have c14 : wr.cell? ⟨w.heap.size, 14, none⟩ = _ := KW1.out.cell (i := 14) rfl
      have z14 := KW1.out.frozen 14
      clear G14 hput HR
      go_upto_region 9 with fail
      have KA : Hid (Bl 28 (wr.setCell ⟨w.heap.size, 14, none⟩ (.slice x4 (silR r3).length c4)) w.heap.size #[.int .i64 h.id, .bool h.an, .int .i64 h.op, .bool h.aa, .bool h.tc, .bool h.rd, .bool h.ra, .bool h.z, .bool h.ad, .bool h.cd, .int .i64 h.code, .slice xq qs.length cq, .slice x1 r1.length c1, .slice x2 r2.length c2, .slice x4 (silR r3).length c4]) := hid (KW1.out.set 14 _)
      have KB := hid (KW2.out.far (p := ⟨w.heap.size, 14, none⟩) (by simp) (.slice x4 (silR r3).length c4))
      have BB := hid (BW.out.setCell (p := ⟨w.heap.size, 14, none⟩) (Nat.le_refl _) (.slice x4 (silR r3).length c4))
      generalize wr.setCell ⟨w.heap.size, 14, none⟩ (.slice x4 (silR r3).length c4) = w3 at *
      clear c14 z14 KW1 KW2 BW
      have g0 : w3.cell? ⟨w.heap.size, 0, none⟩ = some (.int .i64 h.id) := KA.out.cell (i := 0) rfl
      have g1 : w3.cell? ⟨w.heap.size, 1, none⟩ = some (.bool h.an) := KA.out.cell (i := 1) rfl
      have g2 : w3.cell? ⟨w.heap.size, 2, none⟩ = some (.int .i64 h.op) := KA.out.cell (i := 2) rfl
      have g3 : w3.cell? ⟨w.heap.size, 3, none⟩ = some (.bool h.aa) := KA.out.cell (i := 3) rfl
      have g4 : w3.cell? ⟨w.heap.size, 4, none⟩ = some (.bool h.tc) := KA.out.cell (i := 4) rfl
      have g5 : w3.cell? ⟨w.heap.size, 5, none⟩ = some (.bool h.rd) := KA.out.cell (i := 5) rfl
      have g6 : w3.cell? ⟨w.heap.size, 6, none⟩ = some (.bool h.ra) := KA.out.cell (i := 6) rfl
      have g7 : w3.cell? ⟨w.heap.size, 7, none⟩ = some (.bool h.z) := KA.out.cell (i := 7) rfl
      have g8 : w3.cell? ⟨w.heap.size, 8, none⟩ = some (.bool h.ad) := KA.out.cell (i := 8) rfl
      have g9 : w3.cell? ⟨w.heap.size, 9, none⟩ = some (.bool h.cd) := KA.out.cell (i := 9) rfl
      have g10 : w3.cell? ⟨w.heap.size, 10, none⟩ = some (.int .i64 h.code) := KA.out.cell (i := 10) rfl
      have g11 : w3.cell? ⟨w.heap.size, 11, none⟩ = some (.slice xq qs.length cq) := KA.out.cell (i := 11) rfl
      have g12 : w3.cell? ⟨w.heap.size, 12, none⟩ = some (.slice x1 r1.length c1) := KA.out.cell (i := 12) rfl
      have g13 : w3.cell? ⟨w.heap.size, 13, none⟩ = some (.slice x2 r2.length c2) := KA.out.cell (i := 13) rfl
      have g14 : w3.cell? ⟨w.heap.size, 14, none⟩ = some (.slice x4 (silR r3).length c4) := KA.out.cell (i := 14) rfl
      go_wp2_with fail
      refine (fmsg_any h qs r1 r2 (silR r3) w3 (HQ.out.below BB.out) (H1.out.below BB.out) (H2.out.below BB.out) R4.out L1.out L2.out (by omega)).mono ?_
      rintro e w5 ⟨yq, dq, y1, d1, y2, d2, y3, d3, rfl, m1, m5⟩
      have s3 : w.heap.size + 1 < w3.heap.size := KB.out.lt
      have KZ := hid (KB.out.below m5)
      have BZ := hid (grown_on BB.out m5)
      have M1 := hid m1
      clear m1 m5 g0 g1 g2 g3 g4 g5 g6 g7 g8 g9 g10 g11 g12 g13 g14
      have f0 : w5.frozen? ⟨w.heap.size + 1, 0, none⟩ = false := KZ.out.frozen 0
      have e0 : w5.cell? ⟨w.heap.size + 1, 0, none⟩ = some (.int .i64 0) := KZ.out.cell (i := 0) rfl
      have f1 : w5.frozen? ⟨w.heap.size + 1, 1, none⟩ = false := KZ.out.frozen 1
      have e1 : w5.cell? ⟨w.heap.size + 1, 1, none⟩ = some (.bool false) := KZ.out.cell (i := 1) rfl
      have f2 : w5.frozen? ⟨w.heap.size + 1, 2, none⟩ = false := KZ.out.frozen 2
      have e2 : w5.cell? ⟨w.heap.size + 1, 2, none⟩ = some (.int .i64 0) := KZ.out.cell (i := 2) rfl
      have f3 : w5.frozen? ⟨w.heap.size + 1, 3, none⟩ = false := KZ.out.frozen 3
      have e3 : w5.cell? ⟨w.heap.size + 1, 3, none⟩ = some (.bool false) := KZ.out.cell (i := 3) rfl
      have f4 : w5.frozen? ⟨w.heap.size + 1, 4, none⟩ = false := KZ.out.frozen 4
      have e4 : w5.cell? ⟨w.heap.size + 1, 4, none⟩ = some (.bool false) := KZ.out.cell (i := 4) rfl
      have f5 : w5.frozen? ⟨w.heap.size + 1, 5, none⟩ = false := KZ.out.frozen 5
      have e5 : w5.cell? ⟨w.heap.size + 1, 5, none⟩ = some (.bool false) := KZ.out.cell (i := 5) rfl
      have f6 : w5.frozen? ⟨w.heap.size + 1, 6, none⟩ = false := KZ.out.frozen 6
      have e6 : w5.cell? ⟨w.heap.size + 1, 6, none⟩ = some (.bool false) := KZ.out.cell (i := 6) rfl
      have f7 : w5.frozen? ⟨w.heap.size + 1, 7, none⟩ = false := KZ.out.frozen 7
      have e7 : w5.cell? ⟨w.heap.size + 1, 7, none⟩ = some (.bool false) := KZ.out.cell (i := 7) rfl
      have f8 : w5.frozen? ⟨w.heap.size + 1, 8, none⟩ = false := KZ.out.frozen 8
      have e8 : w5.cell? ⟨w.heap.size + 1, 8, none⟩ = some (.bool false) := KZ.out.cell (i := 8) rfl
      have f9 : w5.frozen? ⟨w.heap.size + 1, 9, none⟩ = false := KZ.out.frozen 9
      have e9 : w5.cell? ⟨w.heap.size + 1, 9, none⟩ = some (.bool false) := KZ.out.cell (i := 9) rfl
      have f10 : w5.frozen? ⟨w.heap.size + 1, 10, none⟩ = false := KZ.out.frozen 10
      have e10 : w5.cell? ⟨w.heap.size + 1, 10, none⟩ = some (.int .i64 0) := KZ.out.cell (i := 10) rfl
      have f11 : w5.frozen? ⟨w.heap.size + 1, 11, none⟩ = false := KZ.out.frozen 11
      have e11 : w5.cell? ⟨w.heap.size + 1, 11, none⟩ = some (.slice none 0 0) := KZ.out.cell (i := 11) rfl
      have f12 : w5.frozen? ⟨w.heap.size + 1, 12, none⟩ = false := KZ.out.frozen 12
      have e12 : w5.cell? ⟨w.heap.size + 1, 12, none⟩ = some (.slice none 0 0) := KZ.out.cell (i := 12) rfl
      have f13 : w5.frozen? ⟨w.heap.size + 1, 13, none⟩ = false := KZ.out.frozen 13
      have e13 : w5.cell? ⟨w.heap.size + 1, 13, none⟩ = some (.slice none 0 0) := KZ.out.cell (i := 13) rfl
      have f14 : w5.frozen? ⟨w.heap.size + 1, 14, none⟩ = false := KZ.out.frozen 14
      have e14 : w5.cell? ⟨w.heap.size + 1, 14, none⟩ = some (.slice none 0 0) := KZ.out.cell (i := 14) rfl
      go_wp2_with fail
      have GR := grown_put15 w5 (w.heap.size + 1) (.int .i64 h.id) (.bool h.an) (.int .i64 h.op) (.bool h.aa) (.bool h.tc) (.bool h.rd) (.bool h.ra) (.bool h.z) (.bool h.ad) (.bool h.cd) (.int .i64 h.code) (.slice yq qs.length dq) (.slice y1 r1.length d1) (.slice y2 r2.length d2) (.slice y3 (silR r3).length d3)
      refine bodyPost_ret (results_drop _ _ (w.heap.size + 1) _ _ _ _ _ _ _ _ _ _ _ _ _ _ _ rfl ((show Bl 28 w5 (w.heap.size + 1) ms0 from KZ.out).put15 _ _ _ _ _ _ _ _ _ _ _ _ _ _ _)) rfl ?_
      exact ⟨yq, dq, y1, d1, y2, d2, y3, d3, rfl, (M1.out.put GR s3).base (by omega), below_put15 BZ.out (by omega) _ _ _ _ _ _ _ _ _ _ _ _ _ _ _⟩

end Go.Proofs.YtbbgabdiikdjpaaDoor

namespace Go.Proofs.YtbbgabdiikdjpaaDoor
open Go.RowKit Go.Deep

/-- Records of type 41. -/
def telR (rs : List Rn) : List Rn := rs.filter (fun r => decide (r.ty = 41))

theorem tel_next {rs : List Rn} {i : Nat} (hi : i < rs.length) : telR (rs.take (i + 1)) = if rs[i].ty = 41 then telR (rs.take i) ++ [rs[i]] else telR (rs.take i) := by
  unfold telR
  rw [List.take_succ_eq_append_getElem hi, List.filter_append]
  by_cases c : rs[i].ty = 41
  · rw [if_pos c]; simp [c]
  · rw [if_neg c]; simp [c]

theorem tel_len (rs : List Rn) : (telR rs).length ≤ rs.length := List.length_filter_le _ _

/-- What records tell. -/
def findN (rs : List Rn) : Int × Option Ot :=
  match telR rs with
  | [] => (0, none)
  | [r] => match recO r with | some o => (0, some o) | none => (1, none)
  | _ => (10, none)

/-- What Find answers. -/
def FindP (rs : List Rn) (w : World) (e : Ending) (w' : World) : Prop :=
  (∃ k, findN rs = (k, none) ∧ e = .returned (.tuple #[.agg #[.int .i64 0, .int .i64 0, .int .i64 0, .bool false, .int .i64 0, .slice none 0 0], .bool false, errV k]) ∧ Below w.heap.size w w') ∨
  (∃ o x c, findN rs = (0, some o) ∧ e = .returned (.tuple #[.agg #[.int .i64 o.size, .int .i64 o.code, .int .i64 o.ver, .bool o.dO, .int .i64 o.z, .slice x o.os.length c], .bool true, .nilIface]) ∧ Ops w' w.heap.size x c o.os ∧ Below w.heap.size w w')

theorem findN_none {rs : List Rn} (h : telR rs = []) : findN rs = (0, none) := by unfold findN; rw [h]
theorem findN_two {rs : List Rn} (h : 1 < (telR rs).length) : findN rs = (10, none) := by
  unfold findN
  cases q : telR rs with
  | nil => rw [q] at h; simp at h
  | cons a l =>
    cases l with
    | nil => rw [q] at h; simp at h
    | cons b l => rfl
theorem findN_one {rs : List Rn} {r : Rn} (h : telR rs = [r]) : findN rs = match recO r with | some o => (0, some o) | none => (1, none) := by unfold findN; rw [h]
theorem findN_bad {rs : List Rn} {r : Rn} (h : telR rs = [r]) (h2 : recO r = none) : findN rs = (1, none) := by rw [findN_one h, h2]
theorem findN_good {rs : List Rn} {r : Rn} {o : Ot} (h : telR rs = [r]) (h2 : recO r = some o) : findN rs = (0, some o) := by rw [findN_one h, h2]

theorem results_find (tmps : Array Value) (w : World) (b : Nat) (v0 v1 v2 v3 v4 v5 : Value) (hp : tmps.getD 2 undef = .pointer (some ⟨b, 0, none⟩)) (hb : Bl 46 w b #[v0, v1, v2, v3, v4, v5]) :
    (results Tryd.f14 tmps).run Tryd.prog w = .ok (.tuple #[.agg #[v0, v1, v2, v3, v4, v5], tmps.getD 3 undef, tmps.getD 4 undef]) w := by
  have c0 : w.cell? ⟨b, 0, none⟩ = some v0 := hb.cell (i := 0) rfl
  have c1 : w.cell? ⟨b, 1, none⟩ = some v1 := hb.cell (i := 1) rfl
  have c2 : w.cell? ⟨b, 2, none⟩ = some v2 := hb.cell (i := 2) rfl
  have c3 : w.cell? ⟨b, 3, none⟩ = some v3 := hb.cell (i := 3) rfl
  have c4 : w.cell? ⟨b, 4, none⟩ = some v4 := hb.cell (i := 4) rfl
  have c5 : w.cell? ⟨b, 5, none⟩ = some v5 := hb.cell (i := 5) rfl
  have hp' : tmps[2]?.getD undef = .pointer (some ⟨b, 0, none⟩) := by simpa using hp
  simp [results, Tryd.results14, go_sem, hp', c0, c1, c2, c3, c4, c5]

theorem GRow.open' {wp w0 w : World} {v : Value} {rs : List Rn} (h : GRow wp w0 v rs w) (hw : Below wp.heap.size wp w0) (hl : rs.length ≤ 4000000000000) : ∃ x c, v = .slice x rs.length c ∧ Rs w 0 x c rs := by
  obtain ⟨⟨L, h3, h4, h5⟩, hb⟩ := h
  exact ARow.open ⟨⟨L, h3, owns_base5 h4 hw.size, h5⟩, wp_on hw hb⟩ hl

/-- The loop of Find: those of the first so many records that tell. -/
def FindRel (w W0 : World) (r3 : List Rn) (v vi : Value) (wr : World) : Prop := ∃ i : Nat, i ≤ r3.length ∧ vi = .int .i64 (i : Int) ∧ GRow w W0 v (telR (r3.take i)) wr

set_option maxHeartbeats 8000000 in
set_option maxRecDepth 100000 in
theorem find_any {xq x1 x2 x3 : Option Addr} {lq l1 l2 cq c1 c2 c3 b3 : Nat} (h : Hd) (r3 : List Rn) (w : World) (hr3 : Rs w b3 x3 c3 r3) (l3 : r3.length * 72 ≤ 140737488355328) (hD : ∀ r ∈ telR r3, r.D.length ≤ 100000000) :
    Calls Tryd.prog 14 #[.agg #[.int .i64 h.id, .bool h.an, .int .i64 h.op, .bool h.aa, .bool h.tc, .bool h.rd, .bool h.ra, .bool h.z, .bool h.ad, .bool h.cd, .int .i64 h.code, .slice xq lq cq, .slice x1 l1 c1, .slice x2 l2 c2, .slice x3 r3.length c3]] w (FindP r3 w) := by
  obtain ⟨k1, k2, k3⟩ := Bl.two 28 46 w #[.int .i64 h.id, .bool h.an, .int .i64 h.op, .bool h.aa, .bool h.tc, .bool h.rd, .bool h.ra, .bool h.z, .bool h.ad, .bool h.cd, .int .i64 h.code, .slice xq lq cq, .slice x1 l1 c1, .slice x2 l2 c2, .slice x3 r3.length c3] #[.int .i64 0, .int .i64 0, .int .i64 0, .bool false, .int .i64 0, .slice none 0 0]
  have hs : ((w.alloc (.cells #[.int .i64 h.id, .bool h.an, .int .i64 h.op, .bool h.aa, .bool h.tc, .bool h.rd, .bool h.ra, .bool h.z, .bool h.ad, .bool h.cd, .int .i64 h.code, .slice xq lq cq, .slice x1 l1 c1, .slice x2 l2 c2, .slice x3 r3.length c3] 28)).alloc (.cells #[.int .i64 0, .int .i64 0, .int .i64 0, .bool false, .int .i64 0, .slice none 0 0] 46)).heap.size = w.heap.size + 1 + 1 := by simp
  have H3 := hid hr3
  have HDL := hid hD
  have hlen := hr3.2.1
  have G4 : _ := k1.cell (i := 14) rfl
  clear hr3 hD
  go_enter Tryd.func14, Tryd.ntmps14
  go_upto_region 2 with fail
  generalize (w.alloc (.cells #[.int .i64 h.id, .bool h.an, .int .i64 h.op, .bool h.aa, .bool h.tc, .bool h.rd, .bool h.ra, .bool h.z, .bool h.ad, .bool h.cd, .int .i64 h.code, .slice xq lq cq, .slice x1 l1 c1, .slice x2 l2 c2, .slice x3 r3.length c3] 28)).alloc (.cells #[.int .i64 0, .int .i64 0, .int .i64 0, .bool false, .int .i64 0, .slice none 0 0] 46) = W0 at *
  have K1 := hid k1
  have K2 := hid k2
  have K3 := hid k3
  have HS := hid hs
  clear k1 k2 k3 hs
  go_wp2_with fail
  go_loopw [5, 13] (fun v vi wr => FindRel w W0 r3 v vi wr) (fun _ i _ => r3.length - (intOf i).toNat)
  case atStart => exact ⟨0, Nat.zero_le _, rfl, GRow.zero w W0⟩
  case round =>
    obtain ⟨i, hi, rfl, hrow⟩ := hrel
    have HR := hid hrow
    clear hrow
    by_cases ci : i < r3.length
    · obtain ⟨b0, o0, y, s, z, t, rfl, hb0, p0, p1, p2, p3, p4, q1, q2, q3⟩ := H3.out.at ci
      have B0 := grown_on K3.out HR.out.2
      have e0 := (B0.cell (p := ⟨b0, o0 + i * 5, none⟩) hb0).trans p0
      have e1 := (B0.cell (p := ⟨b0, o0 + i * 5 + 1, none⟩) hb0).trans p1
      have e2 := (B0.cell (p := ⟨b0, o0 + i * 5 + 2, none⟩) hb0).trans p2
      have e3 := (B0.cell (p := ⟨b0, o0 + i * 5 + 3, none⟩) hb0).trans p3
      have e4 := (B0.cell (p := ⟨b0, o0 + i * 5 + 4, none⟩) hb0).trans p4
      have NX := hid (tel_next ci)
      have hsl : (telR (r3.take i)).length ≤ i := Nat.le_trans (tel_len _) (by rw [List.length_take]; omega)
      generalize r3[i] = r at *
      have Q1 := hid q1
      have Q2 := hid q2
      have Q3 := hid q3
      have ci2 : (i : Int) < (r3.length : Int) := by omega
      have hcap := H3.out.1
      have BA := hid ((Below.refl wr.heap.size wr).alloc (Nat.le_refl _) (.cells #[.slice y r.N.length s, .int .i64 r.ty, .int .i64 r.cl, .int .i64 r.ttl, .slice z r.D.length t] 67))
      clear p0 p1 p2 p3 p4 q1 q2 q3 B0 G4
      by_cases ct : r.ty = 41
      · obtain ⟨N, ty, cl, ttl, D⟩ := r
        dsimp only at ct
        subst ct
        dsimp only at *
        have G2 : Hid (GRow w W0 _ (telR (r3.take i)) ((wr.alloc (.cells #[.slice y N.length s, .int .i64 41, .int .i64 cl, .int .i64 ttl, .slice z D.length t] 67)).alloc (.cells #[.slice y N.length s, .int .i64 41, .int .i64 cl, .int .i64 ttl, .slice z D.length t] 67))) := hid ((HR.out.below BA.out).below ((Below.refl _ _).alloc (Nat.le_refl _) _))
        have RL : Hid (RList w ((wr.alloc (.cells #[.slice y N.length s, .int .i64 41, .int .i64 cl, .int .i64 ttl, .slice z D.length t] 67)).alloc (.cells #[.slice y N.length s, .int .i64 41, .int .i64 cl, .int .i64 ttl, .slice z D.length t] 67)) (some ⟨wr.heap.size + 1, 0, none⟩) 1 [⟨N, 41, cl, ttl, D⟩]) := hid (one_of (Bl.new2 67 wr (.cells #[.slice y N.length s, .int .i64 41, .int .i64 cl, .int .i64 ttl, .slice z D.length t] 67) _) Q1.out Q2.out Q3.out)
        have hl2 : ((telR (r3.take i)).length + 1) * 72 ≤ 140737488355328 := by omega
        go_wp2_with (at_builtin; refine wpList_append_rl rfl _ _ rfl _ rfl rfl G2.out RL.out hl2 ?_)
        intro v1 w2 hg2 _
        have G3 := hid hg2
        clear hg2 G2 RL
        go_wp2_with fail
        refine ⟨⟨i + 1, by omega, by go_num, ?_⟩, by simp [intOf]; omega⟩
        rw [NX.out, if_pos trivial]
        exact G3.out
      · have G2 := hid (HR.out.below BA.out)
        go_wp2_with fail
        refine ⟨⟨i + 1, by omega, by go_num, ?_⟩, by simp [intOf]; omega⟩
        rw [NX.out, if_neg ct]
        exact G2.out
    · have ei : i = r3.length := by omega
      subst ei
      rw [List.take_of_length_le (Nat.le_refl _)] at HR
      have hsl := tel_len r3
      have KW2 := hid (K2.out.below HR.out.2)
      have BW := hid (grown_on K3.out HR.out.2)
      have HWR : Hid (w.heap.size + 2 ≤ wr.heap.size) := hid (by have q1 := HR.out.2.size; have q2 := HS.out; omega)
      obtain ⟨x4, c4, rfl, hR4⟩ := HR.out.open' K3.out (by omega)
      have R4 := hid hR4
      clear G4 hR4 HR
      have f0 := KW2.out.frozen 0
      have f1 := KW2.out.frozen 1
      have f2 := KW2.out.frozen 2
      have f3 := KW2.out.frozen 3
      have f4 := KW2.out.frozen 4
      have f5 := KW2.out.frozen 5
      have g0 : wr.cell? ⟨w.heap.size + 1, 0, none⟩ = some (.int .i64 0) := KW2.out.cell (i := 0) rfl
      have g1 : wr.cell? ⟨w.heap.size + 1, 1, none⟩ = some (.int .i64 0) := KW2.out.cell (i := 1) rfl
      have g2 : wr.cell? ⟨w.heap.size + 1, 2, none⟩ = some (.int .i64 0) := KW2.out.cell (i := 2) rfl
      have g3 : wr.cell? ⟨w.heap.size + 1, 3, none⟩ = some (.bool false) := KW2.out.cell (i := 3) rfl
      have g4 : wr.cell? ⟨w.heap.size + 1, 4, none⟩ = some (.int .i64 0) := KW2.out.cell (i := 4) rfl
      have g5 : wr.cell? ⟨w.heap.size + 1, 5, none⟩ = some (.slice none 0 0) := KW2.out.cell (i := 5) rfl
      generalize hq : telR r3 = rs at *
      rcases rs with _ | ⟨r, _ | ⟨r', l⟩⟩
      · go_wp2_with fail
        refine bodyPost_ret (results_find _ _ (w.heap.size + 1) _ _ _ _ _ _ rfl (Bl.put6 KW2.out _ _ _ _ _ _)) rfl ?_
        exact Or.inl ⟨0, findN_none hq, by rw [errV_none]; rfl, below_put6 BW.out (by omega) _ _ _ _ _ _⟩
      · have hmem : r ∈ [r] := List.mem_singleton.2 rfl
        have hlD := HDL.out r hmem
        obtain ⟨b0, o0, y, s, z, t, rfl, hb0, p0, p1, p2, p3, p4, q1, q2, q3⟩ := R4.out.at (i := 0) (by simp)
        simp only [List.getElem_cons_zero, Nat.zero_mul, Nat.add_zero] at p0 p1 p2 p3 p4 q1 q2 q3
        have Q2 := hid q2
        clear f0 f1 f2 f3 f4 f5 g0 g1 g2 g3 g4 g5
        go_wp2_with fail
        refine (optOf_any r wr rfl rfl Q2.out hlD).mono ?_
        clear hmem hlD p0 p1 p2 p3 p4 q1 q2 q3 hb0 HDL H3 hlen
        rintro e w2 (⟨hO, rfl, d2⟩ | ⟨o, x2, c2', hO, rfl, o2, d2⟩)
        all_goals
          have HO := hid hO
          have B2 := grown_on BW.out d2
          have L3 := KW2.out.below d2
          clear hO d2
        · have L4 := L3.below ((Below.refl _ _).alloc (Nat.le_refl _) (.cells #[.int .i64 0, .int .i64 0, .int .i64 0, .bool false, .int .i64 0, .slice none 0 0] 46))
          have B4 := hid (B2.alloc B2.size (.cells #[.int .i64 0, .int .i64 0, .int .i64 0, .bool false, .int .i64 0, .slice none 0 0] 46))
          clear B2 L3
          go_upto_region 13 with fail
          generalize w2.alloc (.cells #[.int .i64 0, .int .i64 0, .int .i64 0, .bool false, .int .i64 0, .slice none 0 0] 46) = w4 at *
          have fa0 := L4.frozen 0
          have fa1 := L4.frozen 1
          have fa2 := L4.frozen 2
          have fa3 := L4.frozen 3
          have fa4 := L4.frozen 4
          have fa5 := L4.frozen 5
          have ga0 : w4.cell? ⟨w.heap.size + 1, 0, none⟩ = some (.int .i64 0) := L4.cell (i := 0) rfl
          have ga1 : w4.cell? ⟨w.heap.size + 1, 1, none⟩ = some (.int .i64 0) := L4.cell (i := 1) rfl
          have ga2 : w4.cell? ⟨w.heap.size + 1, 2, none⟩ = some (.int .i64 0) := L4.cell (i := 2) rfl
          have ga3 : w4.cell? ⟨w.heap.size + 1, 3, none⟩ = some (.bool false) := L4.cell (i := 3) rfl
          have ga4 : w4.cell? ⟨w.heap.size + 1, 4, none⟩ = some (.int .i64 0) := L4.cell (i := 4) rfl
          have ga5 : w4.cell? ⟨w.heap.size + 1, 5, none⟩ = some (.slice none 0 0) := L4.cell (i := 5) rfl
          have L5 := hid L4
          clear L4 KW2
          go_wp2_with fail
          refine bodyPost_ret (results_find _ _ (w.heap.size + 1) _ _ _ _ _ _ rfl (Bl.put6 L5.out _ _ _ _ _ _)) rfl ?_
          exact Or.inl ⟨1, findN_bad hq HO.out, rfl, below_put6 B4.out (by omega) _ _ _ _ _ _⟩
        · have L4 := L3.below ((Below.refl _ _).alloc (Nat.le_refl _) (.cells #[.int .i64 o.size, .int .i64 o.code, .int .i64 o.ver, .bool o.dO, .int .i64 o.z, .slice x2 o.os.length c2'] 46))
          have B4 := hid (B2.alloc B2.size (.cells #[.int .i64 o.size, .int .i64 o.code, .int .i64 o.ver, .bool o.dO, .int .i64 o.z, .slice x2 o.os.length c2'] 46))
          have N4 := Bl.new 46 w2 #[.int .i64 o.size, .int .i64 o.code, .int .i64 o.ver, .bool o.dO, .int .i64 o.z, .slice x2 o.os.length c2']
          have O4 := hid ((o2.below ((Below.refl _ _).alloc (Nat.le_refl _) (.cells #[.int .i64 o.size, .int .i64 o.code, .int .i64 o.ver, .bool o.dO, .int .i64 o.z, .slice x2 o.os.length c2'] 46))).base (show w.heap.size + 2 ≤ wr.heap.size from HWR.out))
          clear B2 L3 o2
          go_upto_region 13 with fail
          generalize w2.alloc (.cells #[.int .i64 o.size, .int .i64 o.code, .int .i64 o.ver, .bool o.dO, .int .i64 o.z, .slice x2 o.os.length c2'] 46) = w4 at *
          have fa0 := L4.frozen 0
          have fa1 := L4.frozen 1
          have fa2 := L4.frozen 2
          have fa3 := L4.frozen 3
          have fa4 := L4.frozen 4
          have fa5 := L4.frozen 5
          have ga0 : w4.cell? ⟨w.heap.size + 1, 0, none⟩ = some (.int .i64 0) := L4.cell (i := 0) rfl
          have ga1 : w4.cell? ⟨w.heap.size + 1, 1, none⟩ = some (.int .i64 0) := L4.cell (i := 1) rfl
          have ga2 : w4.cell? ⟨w.heap.size + 1, 2, none⟩ = some (.int .i64 0) := L4.cell (i := 2) rfl
          have ga3 : w4.cell? ⟨w.heap.size + 1, 3, none⟩ = some (.bool false) := L4.cell (i := 3) rfl
          have ga4 : w4.cell? ⟨w.heap.size + 1, 4, none⟩ = some (.int .i64 0) := L4.cell (i := 4) rfl
          have ga5 : w4.cell? ⟨w.heap.size + 1, 5, none⟩ = some (.slice none 0 0) := L4.cell (i := 5) rfl
          have fb0 := N4.frozen 0
          have fb1 := N4.frozen 1
          have fb2 := N4.frozen 2
          have fb3 := N4.frozen 3
          have fb4 := N4.frozen 4
          have fb5 := N4.frozen 5
          have gb0 : w4.cell? ⟨w2.heap.size, 0, none⟩ = some (.int .i64 o.size) := N4.cell (i := 0) rfl
          have gb1 : w4.cell? ⟨w2.heap.size, 1, none⟩ = some (.int .i64 o.code) := N4.cell (i := 1) rfl
          have gb2 : w4.cell? ⟨w2.heap.size, 2, none⟩ = some (.int .i64 o.ver) := N4.cell (i := 2) rfl
          have gb3 : w4.cell? ⟨w2.heap.size, 3, none⟩ = some (.bool o.dO) := N4.cell (i := 3) rfl
          have gb4 : w4.cell? ⟨w2.heap.size, 4, none⟩ = some (.int .i64 o.z) := N4.cell (i := 4) rfl
          have gb5 : w4.cell? ⟨w2.heap.size, 5, none⟩ = some (.slice x2 o.os.length c2') := N4.cell (i := 5) rfl
          have L5 := hid L4
          clear L4 KW2 N4
          go_wp2_with fail
          refine bodyPost_ret (results_find _ _ (w.heap.size + 1) _ _ _ _ _ _ rfl (Bl.put6 L5.out _ _ _ _ _ _)) rfl ?_
          exact Or.inr ⟨o, x2, c2', findN_good hq HO.out, rfl, (O4.out.put6 (by omega) _ _ _ _ _ _).base (by omega), below_put6 B4.out (by omega) _ _ _ _ _ _⟩
      · have hlen2 : (1 : Int) < ((r :: r' :: l).length : Int) := by simp; omega
        have hz : ¬ (((r :: r' :: l).length : Int) = 0) := by omega
        have hf := findN_two (rs := r3) (by rw [hq]; simp)
        generalize (r :: r' :: l).length = n at *
        go_wp2_with fail
        refine bodyPost_ret (results_find _ _ (w.heap.size + 1) _ _ _ _ _ _ rfl (Bl.put6 KW2.out _ _ _ _ _ _)) rfl ?_
        exact Or.inl ⟨10, hf, rfl, below_put6 BW.out (by omega) _ _ _ _ _ _⟩

end Go.Proofs.YtbbgabdiikdjpaaDoor

namespace Go.Proofs.YtbbgabdiikdjpaaDoor
open Go.RowKit Go.Deep

set_option maxRecDepth 100000 in
theorem results_set (tmps : Array Value) (w : World) (b : Nat) (v0 v1 v2 v3 v4 v5 v6 v7 v8 v9 v10 v11 v12 v13 v14 : Value) (hp : tmps.getD 4 undef = .pointer (some ⟨b, 0, none⟩)) (hb : Bl 28 w b #[v0, v1, v2, v3, v4, v5, v6, v7, v8, v9, v10, v11, v12, v13, v14]) :
    (results Tryd.f20 tmps).run Tryd.prog w = .ok (.tuple #[.agg #[v0, v1, v2, v3, v4, v5, v6, v7, v8, v9, v10, v11, v12, v13, v14], tmps.getD 5 undef]) w := by
  have c0 : w.cell? ⟨b, 0, none⟩ = some v0 := hb.cell (i := 0) rfl
  have c1 : w.cell? ⟨b, 1, none⟩ = some v1 := hb.cell (i := 1) rfl
  have c2 : w.cell? ⟨b, 2, none⟩ = some v2 := hb.cell (i := 2) rfl
  have c3 : w.cell? ⟨b, 3, none⟩ = some v3 := hb.cell (i := 3) rfl
  have c4 : w.cell? ⟨b, 4, none⟩ = some v4 := hb.cell (i := 4) rfl
  have c5 : w.cell? ⟨b, 5, none⟩ = some v5 := hb.cell (i := 5) rfl
  have c6 : w.cell? ⟨b, 6, none⟩ = some v6 := hb.cell (i := 6) rfl
  have c7 : w.cell? ⟨b, 7, none⟩ = some v7 := hb.cell (i := 7) rfl
  have c8 : w.cell? ⟨b, 8, none⟩ = some v8 := hb.cell (i := 8) rfl
  have c9 : w.cell? ⟨b, 9, none⟩ = some v9 := hb.cell (i := 9) rfl
  have c10 : w.cell? ⟨b, 10, none⟩ = some v10 := hb.cell (i := 10) rfl
  have c11 : w.cell? ⟨b, 11, none⟩ = some v11 := hb.cell (i := 11) rfl
  have c12 : w.cell? ⟨b, 12, none⟩ = some v12 := hb.cell (i := 12) rfl
  have c13 : w.cell? ⟨b, 13, none⟩ = some v13 := hb.cell (i := 13) rfl
  have c14 : w.cell? ⟨b, 14, none⟩ = some v14 := hb.cell (i := 14) rfl
  have hp' : tmps[4]?.getD undef = .pointer (some ⟨b, 0, none⟩) := by simpa using hp
  simp [results, Tryd.results20, go_sem, hp', c0, c1, c2, c3, c4, c5, c6, c7, c8, c9, c10, c11, c12, c13, c14]

theorem Bl.three (t t2 t3 : TypeId) (w : World) (C D E : Array Value) : Bl t (((w.alloc (.cells C t)).alloc (.cells D t2)).alloc (.cells E t3)) w.heap.size C ∧ Bl t2 (((w.alloc (.cells C t)).alloc (.cells D t2)).alloc (.cells E t3)) (w.heap.size + 1) D ∧ Bl t3 (((w.alloc (.cells C t)).alloc (.cells D t2)).alloc (.cells E t3)) (w.heap.size + 2) E ∧ Below w.heap.size w (((w.alloc (.cells C t)).alloc (.cells D t2)).alloc (.cells E t3)) := by
  obtain ⟨h1, h2, h3⟩ := Bl.two t t2 w C D
  have hb := (Below.refl _ ((w.alloc (.cells C t)).alloc (.cells D t2))).alloc (Nat.le_refl _) (.cells E t3)
  refine ⟨h1.below hb, h2.below hb, ?_, h3.alloc (by simp; omega) _⟩
  have := Bl.new t3 ((w.alloc (.cells C t)).alloc (.cells D t2)) E
  simpa using this

/-- What Set answers where something is wrong. -/
def SetBad (k : Int) (w : World) (e : Ending) (w' : World) : Prop := e = .returned (.tuple #[.agg #[.int .i64 0, .bool false, .int .i64 0, .bool false, .bool false, .bool false, .bool false, .bool false, .bool false, .bool false, .int .i64 0, .slice none 0 0, .slice none 0 0, .slice none 0 0, .slice none 0 0], .iface 29 (.int .i64 k)]) ∧ Below w.heap.size w w'

theorem recordOf_bad {x : Option Addr} {c bq : Nat} (k : Int) (o : Ot) (w : World) (hs : Ops w bq x c o.os) (hk : otE o = k) (h0 : ¬ k = 0) :
    Calls Tryd.prog 50 #[.agg #[.int .i64 o.size, .int .i64 o.code, .int .i64 o.ver, .bool o.dO, .int .i64 o.z, .slice x o.os.length c]] w fun e w' => e = .returned (.tuple #[.agg #[.slice none 0 0, .int .i64 0, .int .i64 0, .int .i64 0, .slice none 0 0], .iface 29 (.int .i64 k)]) ∧ Below w.heap.size w w' := by
  unfold otE at hk
  by_cases h : OtIn o
  · rw [if_neg (by simpa using h)] at hk
    exact recordOf_data k o w h hs hk h0
  · rw [if_pos h] at hk
    subst hk
    exact recordOf_range o w h

set_option maxHeartbeats 4000000 in
set_option maxRecDepth 100000 in
theorem set_bad {xq x1 x2 x3 x : Option Addr} {lq l1 l2 l3 cq c1 c2 c3 c bo : Nat} (k : Int) (h : Hd) (o : Ot) (w : World) (hs : Ops w bo x c o.os) (hk : otE o = k) (h0 : ¬ k = 0) :
    Calls Tryd.prog 20 #[.agg #[.int .i64 h.id, .bool h.an, .int .i64 h.op, .bool h.aa, .bool h.tc, .bool h.rd, .bool h.ra, .bool h.z, .bool h.ad, .bool h.cd, .int .i64 h.code, .slice xq lq cq, .slice x1 l1 c1, .slice x2 l2 c2, .slice x3 l3 c3], .agg #[.int .i64 o.size, .int .i64 o.code, .int .i64 o.ver, .bool o.dO, .int .i64 o.z, .slice x o.os.length c]] w (SetBad k w) := by
  obtain ⟨k1, k2, k3, k4⟩ := Bl.three 28 46 28 w #[.int .i64 h.id, .bool h.an, .int .i64 h.op, .bool h.aa, .bool h.tc, .bool h.rd, .bool h.ra, .bool h.z, .bool h.ad, .bool h.cd, .int .i64 h.code, .slice xq lq cq, .slice x1 l1 c1, .slice x2 l2 c2, .slice x3 l3 c3] #[.int .i64 o.size, .int .i64 o.code, .int .i64 o.ver, .bool o.dO, .int .i64 o.z, .slice x o.os.length c] #[.int .i64 0, .bool false, .int .i64 0, .bool false, .bool false, .bool false, .bool false, .bool false, .bool false, .bool false, .int .i64 0, .slice none 0 0, .slice none 0 0, .slice none 0 0, .slice none 0 0]
  have K3 := hid k3
  have K4 := hid k4
  have HS := hid (hs.below k4)
  have HK := hid hk
  have H0 := hid h0
  clear k1 k2 k3 k4 hs hk h0
  go_enter Tryd.func20, Tryd.ntmps20
  go_wp2_with fail
  refine (recordOf_bad k o _ HS.out HK.out H0.out).mono ?_
  rintro e w1 ⟨rfl, b1⟩
  have L3 := hid (K3.out.below b1)
  have L4 := hid (grown_on K4.out b1)
  have f0 : w1.frozen? ⟨w.heap.size + 2, 0, none⟩ = false := L3.out.frozen 0
  have e0 : w1.cell? ⟨w.heap.size + 2, 0, none⟩ = some (.int .i64 0) := L3.out.cell (i := 0) rfl
  have f1 : w1.frozen? ⟨w.heap.size + 2, 1, none⟩ = false := L3.out.frozen 1
  have e1 : w1.cell? ⟨w.heap.size + 2, 1, none⟩ = some (.bool false) := L3.out.cell (i := 1) rfl
  have f2 : w1.frozen? ⟨w.heap.size + 2, 2, none⟩ = false := L3.out.frozen 2
  have e2 : w1.cell? ⟨w.heap.size + 2, 2, none⟩ = some (.int .i64 0) := L3.out.cell (i := 2) rfl
  have f3 : w1.frozen? ⟨w.heap.size + 2, 3, none⟩ = false := L3.out.frozen 3
  have e3 : w1.cell? ⟨w.heap.size + 2, 3, none⟩ = some (.bool false) := L3.out.cell (i := 3) rfl
  have f4 : w1.frozen? ⟨w.heap.size + 2, 4, none⟩ = false := L3.out.frozen 4
  have e4 : w1.cell? ⟨w.heap.size + 2, 4, none⟩ = some (.bool false) := L3.out.cell (i := 4) rfl
  have f5 : w1.frozen? ⟨w.heap.size + 2, 5, none⟩ = false := L3.out.frozen 5
  have e5 : w1.cell? ⟨w.heap.size + 2, 5, none⟩ = some (.bool false) := L3.out.cell (i := 5) rfl
  have f6 : w1.frozen? ⟨w.heap.size + 2, 6, none⟩ = false := L3.out.frozen 6
  have e6 : w1.cell? ⟨w.heap.size + 2, 6, none⟩ = some (.bool false) := L3.out.cell (i := 6) rfl
  have f7 : w1.frozen? ⟨w.heap.size + 2, 7, none⟩ = false := L3.out.frozen 7
  have e7 : w1.cell? ⟨w.heap.size + 2, 7, none⟩ = some (.bool false) := L3.out.cell (i := 7) rfl
  have f8 : w1.frozen? ⟨w.heap.size + 2, 8, none⟩ = false := L3.out.frozen 8
  have e8 : w1.cell? ⟨w.heap.size + 2, 8, none⟩ = some (.bool false) := L3.out.cell (i := 8) rfl
  have f9 : w1.frozen? ⟨w.heap.size + 2, 9, none⟩ = false := L3.out.frozen 9
  have e9 : w1.cell? ⟨w.heap.size + 2, 9, none⟩ = some (.bool false) := L3.out.cell (i := 9) rfl
  have f10 : w1.frozen? ⟨w.heap.size + 2, 10, none⟩ = false := L3.out.frozen 10
  have e10 : w1.cell? ⟨w.heap.size + 2, 10, none⟩ = some (.int .i64 0) := L3.out.cell (i := 10) rfl
  have f11 : w1.frozen? ⟨w.heap.size + 2, 11, none⟩ = false := L3.out.frozen 11
  have e11 : w1.cell? ⟨w.heap.size + 2, 11, none⟩ = some (.slice none 0 0) := L3.out.cell (i := 11) rfl
  have f12 : w1.frozen? ⟨w.heap.size + 2, 12, none⟩ = false := L3.out.frozen 12
  have e12 : w1.cell? ⟨w.heap.size + 2, 12, none⟩ = some (.slice none 0 0) := L3.out.cell (i := 12) rfl
  have f13 : w1.frozen? ⟨w.heap.size + 2, 13, none⟩ = false := L3.out.frozen 13
  have e13 : w1.cell? ⟨w.heap.size + 2, 13, none⟩ = some (.slice none 0 0) := L3.out.cell (i := 13) rfl
  have f14 : w1.frozen? ⟨w.heap.size + 2, 14, none⟩ = false := L3.out.frozen 14
  have e14 : w1.cell? ⟨w.heap.size + 2, 14, none⟩ = some (.slice none 0 0) := L3.out.cell (i := 14) rfl
  have s1 := L3.out.lt
  clear b1
  go_wp2_with fail
  have BZ := below_put15 (b := w.heap.size + 1 + 1) L4.out (by omega) (.int .i64 0) (.bool false) (.int .i64 0) (.bool false) (.bool false) (.bool false) (.bool false) (.bool false) (.bool false) (.bool false) (.int .i64 0) (.slice none 0 0) (.slice none 0 0) (.slice none 0 0) (.slice none 0 0)
  refine bodyPost_ret (results_set _ _ (w.heap.size + 1 + 1) _ _ _ _ _ _ _ _ _ _ _ _ _ _ _ rfl (((show Bl 28 w1 (w.heap.size + 1 + 1) ms0 from L3.out).put15 _ _ _ _ _ _ _ _ _ _ _ _ _ _ _).below ((Below.refl _ _).alloc (Nat.le_refl _) _))) rfl ?_
  exact ⟨rfl, BZ.alloc BZ.size _⟩

/-- A row of records that the call owns from block B on, whose parts lie in blocks of which P holds. -/
def RRowP (w : World) (B : Nat) (P : Nat → Prop) (v : Value) (rs : List Rn) : Prop :=
  ∃ L : List (Rn × (Option Addr × Nat) × (Option Addr × Nat)), L.map (·.1) = rs ∧ w.ownsRow B 67 5 v L.length (L.flatMap rcells) ∧ ∀ e ∈ L, (Strs w e.2.1.1 e.2.1.2 e.1.N ∧ ∀ a, e.2.1.1 = some a → B ≤ a.block ∧ (e.1.N = [] ∨ (P a.block ∧ some a.block ≠ v.ownBlock))) ∧
    Bys w e.2.2.1 e.2.2.2 e.1.D ∧ (e.2.2.1 = none → e.2.2.2 = 0) ∧ ∀ a, e.2.2.1 = some a → B ≤ a.block ∧ (e.1.D = [] ∨ (P a.block ∧ some a.block ≠ v.ownBlock))

theorem RRow.toP {w : World} {B n m : Nat} {v : Value} {rs : List Rn} (h : RRow w B v rs) (hn : w.heap.size ≤ n) (hm : m < B) : RRowP w B (fun k => k < n ∧ m < k) v rs := by
  obtain ⟨L, h1, h2, h3⟩ := h
  refine ⟨L, h1, h2, fun e he => ?_⟩
  obtain ⟨⟨k1, k2⟩, k3, k4, k5⟩ := h3 e he
  refine ⟨⟨k1, fun a ha => ⟨(k2 a ha).1, ?_⟩⟩, k3, k4, fun a ha => ⟨(k5 a ha).1, ?_⟩⟩
  · rcases (k2 a ha).2 with q | q
    · exact Or.inl q
    · exact (strs_lt k1 ha).imp_right (fun l => ⟨⟨Nat.lt_of_lt_of_le l hn, Nat.lt_of_lt_of_le hm (k2 a ha).1⟩, q⟩)
  · rcases (k5 a ha).2 with q | q
    · exact Or.inl q
    · exact (bys_lt k3 ha).imp_right (fun l => ⟨⟨Nat.lt_of_lt_of_le l hn, Nat.lt_of_lt_of_le hm (k5 a ha).1⟩, q⟩)

theorem RRowP.toR {w : World} {B : Nat} {P : Nat → Prop} {v : Value} {rs : List Rn} (h : RRowP w B P v rs) : RRow w B v rs := by
  obtain ⟨L, h1, h2, h3⟩ := h
  exact ⟨L, h1, h2, fun e he => ⟨⟨(h3 e he).1.1, fun a ha => ⟨((h3 e he).1.2 a ha).1, ((h3 e he).1.2 a ha).2.imp_right And.right⟩⟩, (h3 e he).2.1, (h3 e he).2.2.1, fun a ha => ⟨((h3 e he).2.2.2 a ha).1, ((h3 e he).2.2.2 a ha).2.imp_right And.right⟩⟩⟩

theorem RRowP.below {w w' : World} {B : Nat} {P : Nat → Prop} {v : Value} {rs : List Rn} (h : RRowP w B P v rs) (k : Below w.heap.size w w') : RRowP w' B P v rs := by
  obtain ⟨L, h1, h2, h3⟩ := h
  exact ⟨L, h1, owns_stay h2 k, fun e he => ⟨⟨(h3 e he).1.1.below k, (h3 e he).1.2⟩, (h3 e he).2.1.below k, (h3 e he).2.2⟩⟩

theorem RRowP.base {w : World} {B B' : Nat} {P : Nat → Prop} {v : Value} {rs : List Rn} (h : RRowP w B P v rs) (k : B' ≤ B) : RRowP w B' P v rs := by
  obtain ⟨L, h1, h2, h3⟩ := h
  exact ⟨L, h1, owns_base5 h2 k, fun e he => ⟨⟨(h3 e he).1.1, fun a ha => ⟨Nat.le_trans k ((h3 e he).1.2 a ha).1, ((h3 e he).1.2 a ha).2⟩⟩, (h3 e he).2.1, (h3 e he).2.2.1, fun a ha => ⟨Nat.le_trans k ((h3 e he).2.2.2 a ha).1, ((h3 e he).2.2.2 a ha).2⟩⟩⟩

theorem RRowP.kept {w w' : World} {B b : Nat} {P : Nat → Prop} {v : Value} {rs : List Rn} (h : RRowP w B P v rs) (hg : w.grownBy w' (some b)) (hb : ¬ P b) (ho : v.ownBlock ≠ some b) : RRowP w' B P v rs := by
  obtain ⟨L, h1, h2, h3⟩ := h
  refine ⟨L, h1, h2.kept hg (Or.inr ho), fun e he => ?_⟩
  obtain ⟨⟨k1, k2⟩, k3, k4, k5⟩ := h3 e he
  exact ⟨⟨k1.kept hg (fun a ha => (k2 a ha).2.imp_right (fun q e => by cases e; exact hb q.1)), k2⟩, k3.kept hg (fun a ha => (k5 a ha).2.imp_right (fun q e => by cases e; exact hb q.1)), k4, k5⟩

/-- A record appended to a row of the call's own. -/
theorem wpList_append_rrow {w : World} {B g cc : Nat} {P : Nat → Prop} {v : Value} {xs : List Rn} {r : Rn} {y z : Option Addr} {s t : Nat} {ops : Array Oper} {rest : List Oper} {op : Oper} {a : Act} {Q : Exit → Act → World → Prop} (hgd : op.guard = none) (sl x : Operand)
    (ho : op.op = .call { callee := .builtin .append, args := #[sl, x], argTypes := #[26, 26] }) (hs : a.eval sl = v) (hx : a.eval x = .slice (some ⟨g, 0, none⟩) 1 cc) (hr : RRowP w B P v xs) (hk : Bl 67 w g #[.slice y r.N.length s, .int .i64 r.ty, .int .i64 r.cl, .int .i64 r.ttl, .slice z r.D.length t])
    (h1 : Strs w y s r.N) (h2 : Bys w z t r.D) (h3 : z = none → t = 0) (h4 : ∀ a, y = some a → B ≤ a.block ∧ (r.N = [] ∨ (P a.block ∧ some a.block ≠ v.ownBlock))) (h5 : ∀ a, z = some a → B ≤ a.block ∧ (r.D = [] ∨ (P a.block ∧ some a.block ≠ v.ownBlock))) (hl : (xs.length + 1) * 72 ≤ 140737488355328) (hB : B ≤ w.heap.size) (hP : ∀ k, P k → k < w.heap.size)
    (hK : ∀ v' w', RRowP w' B P v' (xs ++ [r]) → w.grownBy w' v.ownBlock → (v'.ownBlock = v.ownBlock ∨ v'.ownBlock = some w.heap.size) → wpList Tryd.prog ops Q rest (a.put op.dst v') w') : wpList Tryd.prog ops Q (op :: rest) a w := by
  obtain ⟨i0, hi, hz0, hz1, hz2⟩ := info_of_record
  obtain ⟨L, hL, hown, hin⟩ := hr
  have hLl : L.length = xs.length := by rw [← hL, List.length_map]
  refine wpList_append_own_at _ hgd sl x 26 ho B 67 i0 (.agg #[.slice none 0 0, .int .i64 0, .int .i64 0, .int .i64 0, .slice none 0 0]) 5 72 Tryd.underlying26 hi hz0 hz1 hz2 rfl (by decide) v L.length (L.flatMap rcells) hs hown ⟨g, 0, none⟩ 1 cc [.slice y r.N.length s, .int .i64 r.ty, .int .i64 r.cl, .int .i64 r.ttl, .slice z r.D.length t] hx rfl (fun j u hj => ?_) (by intro u hu; simp at hu; rcases hu with rfl | rfl | rfl | rfl | rfl <;> rfl) (by unfold maxLen; omega) (by omega) hB ?_
  · rw [Go.WideShapes.add_plain, Nat.zero_add]
    exact hk.cell (i := j) (by rw [List.getElem?_toArray]; exact hj)
  · intro v1 w2 hown1 hgrow1 _ hloc
    refine hK v1 w2 ?_ hgrow1 hloc
    have hne : ∀ k, P k → some k ≠ v.ownBlock → some k ≠ v1.ownBlock := by
      intro k h1 h2 q
      rcases hloc with e | e
      · rw [e] at q; exact h2 q
      · rw [e] at q; cases q; have := hP _ h1; omega
    refine ⟨L ++ [(r, (y, s), (z, t))], by rw [List.map_append, hL]; rfl, ?_, fun e he => ?_⟩
    · rw [List.length_append, List.flatMap_append, List.flatMap_cons, List.flatMap_nil, List.append_nil]
      exact hown1
    · rcases List.mem_append.1 he with he | he
      · obtain ⟨⟨k1, k2⟩, k3, k4, k5⟩ := hin e he
        exact ⟨⟨k1.kept hgrow1 (fun a ha => (k2 a ha).2.imp_right And.right), fun a ha => ⟨(k2 a ha).1, (k2 a ha).2.imp_right (fun q => ⟨q.1, hne _ q.1 q.2⟩)⟩⟩, k3.kept hgrow1 (fun a ha => (k5 a ha).2.imp_right And.right), k4, fun a ha => ⟨(k5 a ha).1, (k5 a ha).2.imp_right (fun q => ⟨q.1, hne _ q.1 q.2⟩)⟩⟩
      · rw [List.mem_singleton.1 he]
        exact ⟨⟨h1.kept hgrow1 (fun a ha => (h4 a ha).2.imp_right And.right), fun a ha => ⟨(h4 a ha).1, (h4 a ha).2.imp_right (fun q => ⟨q.1, hne _ q.1 q.2⟩)⟩⟩, h2.kept hgrow1 (fun a ha => (h5 a ha).2.imp_right And.right), h3, fun a ha => ⟨(h5 a ha).1, (h5 a ha).2.imp_right (fun q => ⟨q.1, hne _ q.1 q.2⟩)⟩⟩

/-- What Set answers where nothing is wrong. -/
def SetP (h : Hd) (qs : List Qn) (r1 r2 r3 : List Rn) (w : World) (e : Ending) (w' : World) : Prop :=
  ∃ yq dq y1 d1 y2 d2 y3 d3, e = .returned (.tuple #[.agg #[.int .i64 h.id, .bool h.an, .int .i64 h.op, .bool h.aa, .bool h.tc, .bool h.rd, .bool h.ra, .bool h.z, .bool h.ad, .bool h.cd, .int .i64 h.code, .slice yq qs.length dq, .slice y1 r1.length d1, .slice y2 r2.length d2, .slice y3 r3.length d3], .nilIface]) ∧ QRow w' w.heap.size (.slice yq qs.length dq) qs ∧ RRow w' w.heap.size (.slice y1 r1.length d1) r1 ∧ RRow w' w.heap.size (.slice y2 r2.length d2) r2 ∧ RRow w' w.heap.size (.slice y3 r3.length d3) r3 ∧ Below w.heap.size w w'

theorem otE_zero {o : Ot} (h : otE o = 0) : OtIn o ∧ dataE o.os = 0 := by
  unfold otE at h
  by_cases c : OtIn o
  · rw [if_neg (by simpa using c)] at h; exact ⟨c, h⟩
  · rw [if_pos c] at h; cases h

set_option maxHeartbeats 8000000 in
set_option maxRecDepth 100000 in
theorem set_good {xq x1 x2 x3 x : Option Addr} {cq c1 c2 c3 c bq b1 b2 b3 bo : Nat} (h : Hd) (qs : List Qn) (r1 r2 r3 : List Rn) (o : Ot) (w : World) (hq : Qs w bq xq cq qs) (hr1 : Rs w b1 x1 c1 r1) (hr2 : Rs w b2 x2 c2 r2) (hr3 : Rs w b3 x3 c3 r3) (l1 : r1.length * 72 ≤ 140737488355328) (l2 : r2.length * 72 ≤ 140737488355328) (l3 : (r3.length + 1) * 72 ≤ 140737488355328) (hs : Ops w bo x c o.os) (hk : otE o = 0) :
    Calls Tryd.prog 20 #[.agg #[.int .i64 h.id, .bool h.an, .int .i64 h.op, .bool h.aa, .bool h.tc, .bool h.rd, .bool h.ra, .bool h.z, .bool h.ad, .bool h.cd, .int .i64 h.code, .slice xq qs.length cq, .slice x1 r1.length c1, .slice x2 r2.length c2, .slice x3 r3.length c3], .agg #[.int .i64 o.size, .int .i64 o.code, .int .i64 o.ver, .bool o.dO, .int .i64 o.z, .slice x o.os.length c]] w (SetP h qs r1 r2 (silR r3 ++ [otR o]) w) := by
  obtain ⟨k1, k2, k3, k4⟩ := Bl.three 28 46 28 w #[.int .i64 h.id, .bool h.an, .int .i64 h.op, .bool h.aa, .bool h.tc, .bool h.rd, .bool h.ra, .bool h.z, .bool h.ad, .bool h.cd, .int .i64 h.code, .slice xq qs.length cq, .slice x1 r1.length c1, .slice x2 r2.length c2, .slice x3 r3.length c3] #[.int .i64 o.size, .int .i64 o.code, .int .i64 o.ver, .bool o.dO, .int .i64 o.z, .slice x o.os.length c] #[.int .i64 0, .bool false, .int .i64 0, .bool false, .bool false, .bool false, .bool false, .bool false, .bool false, .bool false, .int .i64 0, .slice none 0 0, .slice none 0 0, .slice none 0 0, .slice none 0 0]
  have K1 := hid k1
  have K3 := hid k3
  have K4 := hid k4
  have HS := hid (hs.below k4)
  have HK := hid (otE_zero hk)
  have HQ := hid hq
  have H1 := hid hr1
  have H2 := hid hr2
  have H3 := hid hr3
  have L1 := hid l1
  have L2 := hid l2
  have L3 := hid l3
  clear k1 k2 k3 k4 hs hk hq hr1 hr2 hr3 l1 l2 l3
  go_enter Tryd.func20, Tryd.ntmps20
  go_wp2_with fail
  refine (recordOf_good o _ HK.out.1 HS.out HK.out.2).mono ?_
  rintro e w1 ⟨z, t, rfl, m1, m2, m3, m4⟩
  have M1 := hid m1
  have M2 := hid m2
  have M3 : Hid (∀ a, z = some a → w.heap.size + 3 ≤ a.block) := hid (fun a ha => by have := m3 a ha; simp at this; omega)
  have N1 := hid (K1.out.below m4)
  have N3 := hid (K3.out.below m4)
  have N4 := hid (grown_on K4.out m4)
  clear m1 m2 m3 m4 K1 K3 K4 HS
  have g0 : w1.cell? ⟨w.heap.size, 0, none⟩ = some (.int .i64 h.id) := N1.out.cell (i := 0) rfl
  have g1 : w1.cell? ⟨w.heap.size, 1, none⟩ = some (.bool h.an) := N1.out.cell (i := 1) rfl
  have g2 : w1.cell? ⟨w.heap.size, 2, none⟩ = some (.int .i64 h.op) := N1.out.cell (i := 2) rfl
  have g3 : w1.cell? ⟨w.heap.size, 3, none⟩ = some (.bool h.aa) := N1.out.cell (i := 3) rfl
  have g4 : w1.cell? ⟨w.heap.size, 4, none⟩ = some (.bool h.tc) := N1.out.cell (i := 4) rfl
  have g5 : w1.cell? ⟨w.heap.size, 5, none⟩ = some (.bool h.rd) := N1.out.cell (i := 5) rfl
  have g6 : w1.cell? ⟨w.heap.size, 6, none⟩ = some (.bool h.ra) := N1.out.cell (i := 6) rfl
  have g7 : w1.cell? ⟨w.heap.size, 7, none⟩ = some (.bool h.z) := N1.out.cell (i := 7) rfl
  have g8 : w1.cell? ⟨w.heap.size, 8, none⟩ = some (.bool h.ad) := N1.out.cell (i := 8) rfl
  have g9 : w1.cell? ⟨w.heap.size, 9, none⟩ = some (.bool h.cd) := N1.out.cell (i := 9) rfl
  have g10 : w1.cell? ⟨w.heap.size, 10, none⟩ = some (.int .i64 h.code) := N1.out.cell (i := 10) rfl
  have g11 : w1.cell? ⟨w.heap.size, 11, none⟩ = some (.slice xq qs.length cq) := N1.out.cell (i := 11) rfl
  have g12 : w1.cell? ⟨w.heap.size, 12, none⟩ = some (.slice x1 r1.length c1) := N1.out.cell (i := 12) rfl
  have g13 : w1.cell? ⟨w.heap.size, 13, none⟩ = some (.slice x2 r2.length c2) := N1.out.cell (i := 13) rfl
  have g14 : w1.cell? ⟨w.heap.size, 14, none⟩ = some (.slice x3 r3.length c3) := N1.out.cell (i := 14) rfl
  have BA := hid ((Below.refl w1.heap.size w1).alloc (Nat.le_refl _) (.cells #[.slice none 0 0, .int .i64 41, .int .i64 o.size, .int .i64 (ttlN o), .slice z (optB o.os).length t] 67))
  have KA := hid (Bl.new 67 w1 #[.slice none 0 0, .int .i64 41, .int .i64 o.size, .int .i64 (ttlN o), .slice z (optB o.os).length t])
  go_upto_region 4 with fail
  have P1 := hid (N1.out.below BA.out)
  have P3 := hid (N3.out.below BA.out)
  have P4 := hid (grown_on N4.out BA.out)
  have PM := hid (M1.out.below BA.out)
  have hrb : w.heap.size + 2 < w1.heap.size := N3.out.lt
  clear g0 g1 g2 g3 g4 g5 g6 g7 g8 g9 g10 g11 g12 g13 g14
  have hW2 : w1.heap.size < (w1.alloc (.cells #[.slice none 0 0, .int .i64 41, .int .i64 o.size, .int .i64 (ttlN o), .slice z (optB o.os).length t] 67)).heap.size := by simp
  generalize w1.alloc (.cells #[.slice none 0 0, .int .i64 41, .int .i64 o.size, .int .i64 (ttlN o), .slice z (optB o.os).length t] 67) = W2 at *
  generalize w1.heap.size = rb at *
  clear N1 N3 N4 M1 BA
  have g0 : W2.cell? ⟨w.heap.size, 0, none⟩ = some (.int .i64 h.id) := P1.out.cell (i := 0) rfl
  have g1 : W2.cell? ⟨w.heap.size, 1, none⟩ = some (.bool h.an) := P1.out.cell (i := 1) rfl
  have g2 : W2.cell? ⟨w.heap.size, 2, none⟩ = some (.int .i64 h.op) := P1.out.cell (i := 2) rfl
  have g3 : W2.cell? ⟨w.heap.size, 3, none⟩ = some (.bool h.aa) := P1.out.cell (i := 3) rfl
  have g4 : W2.cell? ⟨w.heap.size, 4, none⟩ = some (.bool h.tc) := P1.out.cell (i := 4) rfl
  have g5 : W2.cell? ⟨w.heap.size, 5, none⟩ = some (.bool h.rd) := P1.out.cell (i := 5) rfl
  have g6 : W2.cell? ⟨w.heap.size, 6, none⟩ = some (.bool h.ra) := P1.out.cell (i := 6) rfl
  have g7 : W2.cell? ⟨w.heap.size, 7, none⟩ = some (.bool h.z) := P1.out.cell (i := 7) rfl
  have g8 : W2.cell? ⟨w.heap.size, 8, none⟩ = some (.bool h.ad) := P1.out.cell (i := 8) rfl
  have g9 : W2.cell? ⟨w.heap.size, 9, none⟩ = some (.bool h.cd) := P1.out.cell (i := 9) rfl
  have g10 : W2.cell? ⟨w.heap.size, 10, none⟩ = some (.int .i64 h.code) := P1.out.cell (i := 10) rfl
  have g11 : W2.cell? ⟨w.heap.size, 11, none⟩ = some (.slice xq qs.length cq) := P1.out.cell (i := 11) rfl
  have g12 : W2.cell? ⟨w.heap.size, 12, none⟩ = some (.slice x1 r1.length c1) := P1.out.cell (i := 12) rfl
  have g13 : W2.cell? ⟨w.heap.size, 13, none⟩ = some (.slice x2 r2.length c2) := P1.out.cell (i := 13) rfl
  have g14 : W2.cell? ⟨w.heap.size, 14, none⟩ = some (.slice x3 r3.length c3) := P1.out.cell (i := 14) rfl
  go_wp2_with fail
  refine (drop_any h qs r1 r2 r3 W2 (HQ.out.below P4.out) (H1.out.below P4.out) (H2.out.below P4.out) (H3.out.below P4.out) L1.out L2.out (by have := L3.out; omega)).mono ?_
  rintro e w3 ⟨yq, dq, y1, d1, y2, d2, y3, d3, rfl, q1, q5⟩
  obtain ⟨u, B, h1, h2, h3, h4, h5, h6, h7⟩ := q1
  have R3 := hid (P3.out.below q5)
  have R4 := hid (grown_on P4.out q5)
  have RA := hid (KA.out.below q5)
  have RM := hid (PM.out.below q5)
  have Q1 := hid h3
  have Q2 := hid h4
  have Q3 := hid h5
  have AG := hid h6
  have RP := hid (h7.toP (m := w.heap.size + 2) (Nat.le_refl _) (by omega))
  have hu3 : u.heap.size ≤ w3.heap.size := h6.1
  have hs3 : W2.heap.size ≤ w3.heap.size := q5.size
  have TO : Hid (∀ g, (Value.slice y3 (silR r3).length d3).ownBlock = some g → u.heap.size ≤ g ∧ g < w3.heap.size) := hid (fun g hg => by obtain ⟨L, _, o1, _⟩ := h7; exact World.ownsRow.lt o1 g hg)
  have ZN : Hid (∀ a, z = some a → optB o.os = [] ∨ a.block < W2.heap.size) := hid (fun a ha => bys_lt PM.out ha)
  clear q5 h3 h4 h5 h6 h7 g0 g1 g2 g3 g4 g5 g6 g7 g8 g9 g10 g11 g12 g13 g14 P1 P3 P4 PM KA
  go_upto_region 5 with fail
  have BT := (Below.refl w3.heap.size w3).alloc (Nat.le_refl _) (.cells #[.int .i64 h.id, .bool h.an, .int .i64 h.op, .bool h.aa, .bool h.tc, .bool h.rd, .bool h.ra, .bool h.z, .bool h.ad, .bool h.cd, .int .i64 h.code, .slice yq qs.length dq, .slice y1 r1.length d1, .slice y2 r2.length d2, .slice y3 (silR r3).length d3] 28)
  have KT := hid (Bl.new 28 w3 #[.int .i64 h.id, .bool h.an, .int .i64 h.op, .bool h.aa, .bool h.tc, .bool h.rd, .bool h.ra, .bool h.z, .bool h.ad, .bool h.cd, .int .i64 h.code, .slice yq qs.length dq, .slice y1 r1.length d1, .slice y2 r2.length d2, .slice y3 (silR r3).length d3])
  have S3 := hid (R3.out.below BT)
  have S4 := hid (grown_on R4.out BT)
  have SA := hid (RA.out.below BT)
  have SM := hid (RM.out.below BT)
  have AT := hid (AG.out.below BT)
  have RT := hid (RP.out.below BT)
  have hW5 : (w3.alloc (.cells #[.int .i64 h.id, .bool h.an, .int .i64 h.op, .bool h.aa, .bool h.tc, .bool h.rd, .bool h.ra, .bool h.z, .bool h.ad, .bool h.cd, .int .i64 h.code, .slice yq qs.length dq, .slice y1 r1.length d1, .slice y2 r2.length d2, .slice y3 (silR r3).length d3] 28)).heap.size = w3.heap.size + 1 := by simp
  have HW5 := hid hW5
  clear BT R3 R4 RA RM AG RP hW5
  generalize w3.alloc (.cells #[.int .i64 h.id, .bool h.an, .int .i64 h.op, .bool h.aa, .bool h.tc, .bool h.rd, .bool h.ra, .bool h.z, .bool h.ad, .bool h.cd, .int .i64 h.code, .slice yq qs.length dq, .slice y1 r1.length d1, .slice y2 r2.length d2, .slice y3 (silR r3).length d3] 28) = W5 at *
  have a14 : W5.cell? ⟨w3.heap.size, 14, none⟩ = some (.slice y3 (silR r3).length d3) := KT.out.cell (i := 14) rfl
  have ra0 : W5.cell? ⟨rb, 0, none⟩ = some (.slice none 0 0) := SA.out.cell (i := 0) rfl
  have ra1 : W5.cell? ⟨rb, 1, none⟩ = some (.int .i64 41) := SA.out.cell (i := 1) rfl
  have ra2 : W5.cell? ⟨rb, 2, none⟩ = some (.int .i64 o.size) := SA.out.cell (i := 2) rfl
  have ra3 : W5.cell? ⟨rb, 3, none⟩ = some (.int .i64 (ttlN o)) := SA.out.cell (i := 3) rfl
  have ra4 : W5.cell? ⟨rb, 4, none⟩ = some (.slice z (optB o.os).length t) := SA.out.cell (i := 4) rfl
  have BC := hid ((Below.refl W5.heap.size W5).alloc (Nat.le_refl _) (.cells #[.slice none 0 0, .int .i64 41, .int .i64 o.size, .int .i64 (ttlN o), .slice z (optB o.os).length t] 67))
  have KC := hid (Bl.new 67 W5 #[.slice none 0 0, .int .i64 41, .int .i64 o.size, .int .i64 (ttlN o), .slice z (optB o.os).length t])
  have hl2 : ((silR r3).length + 1) * 72 ≤ 140737488355328 := by have := L3.out; have := sil_len r3; omega
  have hw5 : w.heap.size ≤ (W5.alloc (.cells #[.slice none 0 0, .int .i64 41, .int .i64 o.size, .int .i64 (ttlN o), .slice z (optB o.os).length t] 67)).heap.size := (grown_on S4.out BC.out).size
  have SM2 := hid (SM.out.below BC.out)
  have RT2 := hid (RT.out.below BC.out)
  have hw6 : w3.heap.size < (W5.alloc (.cells #[.slice none 0 0, .int .i64 41, .int .i64 o.size, .int .i64 (ttlN o), .slice z (optB o.os).length t] 67)).heap.size := by rw [show (W5.alloc (.cells #[.slice none 0 0, .int .i64 41, .int .i64 o.size, .int .i64 (ttlN o), .slice z (optB o.os).length t] 67)).heap.size = W5.heap.size + 1 by simp, HW5.out]; omega
  go_wp2_with (at_builtin; refine wpList_append_rrow (r := otR o) (B := w.heap.size) (P := fun k => k < w3.heap.size ∧ w.heap.size + 2 < k) (y := none) (s := 0) rfl _ _ rfl rfl rfl (RT2.out.base (by omega)) KC.out (Strs.empty _) SM2.out M2.out (fun a ha => by cases ha) (fun a ha => ⟨by have := M3.out a ha; omega, (ZN.out a ha).imp_right (fun q => ⟨⟨by omega, by have := M3.out a ha; omega⟩, fun e => by have := TO.out _ e.symm; omega⟩)⟩) hl2 hw5 (fun k hk => Nat.lt_trans hk.1 hw6) ?_)
  intro v4 w6 hr6 hg6 hloc
  obtain ⟨y4, d4, hv4⟩ := hr6.toR.val
  obtain ⟨n4, hn4⟩ : ∃ n, (silR r3 ++ [otR o]).length = n := ⟨_, rfl⟩
  rw [hn4] at hv4
  subst hv4
  have HN := hid hn4
  clear hn4
  have NE : Hid (∀ b, b = w3.heap.size ∨ b = w.heap.size + 2 → some b ≠ (Value.slice y3 (silR r3).length d3).ownBlock) := hid (fun b hb e => by have := TO.out b e.symm; omega)
  have KT6 := hid ((KT.out.below BC.out).grown hg6 (NE.out _ (Or.inl rfl)))
  have S36 := hid ((S3.out.below BC.out).grown hg6 (NE.out _ (Or.inr rfl)))
  have A6 := hid ((AT.out.below BC.out).grown hg6 (fun b hb => Or.inr (TO.out b hb).1))
  have B6 := hid ((grown_on S4.out BC.out).grown hg6 hw5 (fun k hk => by have := TO.out k hk; omega))
  have R6 := hid hr6
  have NO : Hid ((Value.slice y4 n4 d4).ownBlock ≠ some w3.heap.size) := hid (fun e => by
    rcases hloc with q | q
    · rw [q] at e; exact NE.out _ (Or.inl rfl) e.symm
    · rw [q] at e; simp at e; have := HW5.out; omega)
  have NP : Hid ((Value.slice y4 n4 d4).ownBlock ≠ some (w.heap.size + 2)) := hid (fun e => by
    rcases hloc with q | q
    · rw [q] at e; exact NE.out _ (Or.inr rfl) e.symm
    · rw [q] at e; simp at e; have := HW5.out; omega)
  have c14 : w6.cell? ⟨w3.heap.size, 14, none⟩ = some (.slice y3 (silR r3).length d3) := KT6.out.cell (i := 14) rfl
  have z14 : w6.frozen? ⟨w3.heap.size, 14, none⟩ = false := KT6.out.frozen 14
  clear hr6 hg6 hloc a14 ra0 ra1 ra2 ra3 ra4 KT S3 AT S4 RT RT2 SM SM2 SA BC KC
  go_upto_region 6 with fail
  have KT7 : Bl 28 (w6.setCell ⟨w3.heap.size, 14, none⟩ (.slice y4 n4 d4)) w3.heap.size #[.int .i64 h.id, .bool h.an, .int .i64 h.op, .bool h.aa, .bool h.tc, .bool h.rd, .bool h.ra, .bool h.z, .bool h.ad, .bool h.cd, .int .i64 h.code, .slice yq qs.length dq, .slice y1 r1.length d1, .slice y2 r2.length d2, .slice y4 n4 d4] := KT6.out.set 14 _
  have S37 := hid (S36.out.far (p := ⟨w3.heap.size, 14, none⟩) (by simp; omega) (.slice y4 n4 d4))
  have G7 := grown_set (grown_refl w6 (some w3.heap.size)) 14 (.slice y4 n4 d4)
  have A7 := hid (A6.out.grown G7 (fun b hb => by cases hb; exact Or.inr hu3))
  have B7 := hid (B6.out.setCell (p := ⟨w3.heap.size, 14, none⟩) (show w.heap.size ≤ w3.heap.size by omega) (.slice y4 n4 d4))
  have R7 := hid (R6.out.kept G7 (by simp) NO.out)
  have KK7 := hid KT7
  clear G7 KT7 KT6 S36 A6 B6 R6 c14 z14
  generalize w6.setCell ⟨w3.heap.size, 14, none⟩ (.slice y4 n4 d4) = w7 at *
  have t0 : w7.cell? ⟨w3.heap.size, 0, none⟩ = some (.int .i64 h.id) := KK7.out.cell (i := 0) rfl
  have t1 : w7.cell? ⟨w3.heap.size, 1, none⟩ = some (.bool h.an) := KK7.out.cell (i := 1) rfl
  have t2 : w7.cell? ⟨w3.heap.size, 2, none⟩ = some (.int .i64 h.op) := KK7.out.cell (i := 2) rfl
  have t3 : w7.cell? ⟨w3.heap.size, 3, none⟩ = some (.bool h.aa) := KK7.out.cell (i := 3) rfl
  have t4 : w7.cell? ⟨w3.heap.size, 4, none⟩ = some (.bool h.tc) := KK7.out.cell (i := 4) rfl
  have t5 : w7.cell? ⟨w3.heap.size, 5, none⟩ = some (.bool h.rd) := KK7.out.cell (i := 5) rfl
  have t6 : w7.cell? ⟨w3.heap.size, 6, none⟩ = some (.bool h.ra) := KK7.out.cell (i := 6) rfl
  have t7 : w7.cell? ⟨w3.heap.size, 7, none⟩ = some (.bool h.z) := KK7.out.cell (i := 7) rfl
  have t8 : w7.cell? ⟨w3.heap.size, 8, none⟩ = some (.bool h.ad) := KK7.out.cell (i := 8) rfl
  have t9 : w7.cell? ⟨w3.heap.size, 9, none⟩ = some (.bool h.cd) := KK7.out.cell (i := 9) rfl
  have t10 : w7.cell? ⟨w3.heap.size, 10, none⟩ = some (.int .i64 h.code) := KK7.out.cell (i := 10) rfl
  have t11 : w7.cell? ⟨w3.heap.size, 11, none⟩ = some (.slice yq qs.length dq) := KK7.out.cell (i := 11) rfl
  have t12 : w7.cell? ⟨w3.heap.size, 12, none⟩ = some (.slice y1 r1.length d1) := KK7.out.cell (i := 12) rfl
  have t13 : w7.cell? ⟨w3.heap.size, 13, none⟩ = some (.slice y2 r2.length d2) := KK7.out.cell (i := 13) rfl
  have t14 : w7.cell? ⟨w3.heap.size, 14, none⟩ = some (.slice y4 n4 d4) := KK7.out.cell (i := 14) rfl
  have f0 : w7.frozen? ⟨w.heap.size + 2, 0, none⟩ = false := S37.out.frozen 0
  have f1 : w7.frozen? ⟨w.heap.size + 2, 1, none⟩ = false := S37.out.frozen 1
  have f2 : w7.frozen? ⟨w.heap.size + 2, 2, none⟩ = false := S37.out.frozen 2
  have f3 : w7.frozen? ⟨w.heap.size + 2, 3, none⟩ = false := S37.out.frozen 3
  have f4 : w7.frozen? ⟨w.heap.size + 2, 4, none⟩ = false := S37.out.frozen 4
  have f5 : w7.frozen? ⟨w.heap.size + 2, 5, none⟩ = false := S37.out.frozen 5
  have f6 : w7.frozen? ⟨w.heap.size + 2, 6, none⟩ = false := S37.out.frozen 6
  have f7 : w7.frozen? ⟨w.heap.size + 2, 7, none⟩ = false := S37.out.frozen 7
  have f8 : w7.frozen? ⟨w.heap.size + 2, 8, none⟩ = false := S37.out.frozen 8
  have f9 : w7.frozen? ⟨w.heap.size + 2, 9, none⟩ = false := S37.out.frozen 9
  have f10 : w7.frozen? ⟨w.heap.size + 2, 10, none⟩ = false := S37.out.frozen 10
  have f11 : w7.frozen? ⟨w.heap.size + 2, 11, none⟩ = false := S37.out.frozen 11
  have f12 : w7.frozen? ⟨w.heap.size + 2, 12, none⟩ = false := S37.out.frozen 12
  have f13 : w7.frozen? ⟨w.heap.size + 2, 13, none⟩ = false := S37.out.frozen 13
  have f14 : w7.frozen? ⟨w.heap.size + 2, 14, none⟩ = false := S37.out.frozen 14
  have e0 : w7.cell? ⟨w.heap.size + 2, 0, none⟩ = some (.int .i64 0) := S37.out.cell (i := 0) rfl
  have e1 : w7.cell? ⟨w.heap.size + 2, 1, none⟩ = some (.bool false) := S37.out.cell (i := 1) rfl
  have e2 : w7.cell? ⟨w.heap.size + 2, 2, none⟩ = some (.int .i64 0) := S37.out.cell (i := 2) rfl
  have e3 : w7.cell? ⟨w.heap.size + 2, 3, none⟩ = some (.bool false) := S37.out.cell (i := 3) rfl
  have e4 : w7.cell? ⟨w.heap.size + 2, 4, none⟩ = some (.bool false) := S37.out.cell (i := 4) rfl
  have e5 : w7.cell? ⟨w.heap.size + 2, 5, none⟩ = some (.bool false) := S37.out.cell (i := 5) rfl
  have e6 : w7.cell? ⟨w.heap.size + 2, 6, none⟩ = some (.bool false) := S37.out.cell (i := 6) rfl
  have e7 : w7.cell? ⟨w.heap.size + 2, 7, none⟩ = some (.bool false) := S37.out.cell (i := 7) rfl
  have e8 : w7.cell? ⟨w.heap.size + 2, 8, none⟩ = some (.bool false) := S37.out.cell (i := 8) rfl
  have e9 : w7.cell? ⟨w.heap.size + 2, 9, none⟩ = some (.bool false) := S37.out.cell (i := 9) rfl
  have e10 : w7.cell? ⟨w.heap.size + 2, 10, none⟩ = some (.int .i64 0) := S37.out.cell (i := 10) rfl
  have e11 : w7.cell? ⟨w.heap.size + 2, 11, none⟩ = some (.slice none 0 0) := S37.out.cell (i := 11) rfl
  have e12 : w7.cell? ⟨w.heap.size + 2, 12, none⟩ = some (.slice none 0 0) := S37.out.cell (i := 12) rfl
  have e13 : w7.cell? ⟨w.heap.size + 2, 13, none⟩ = some (.slice none 0 0) := S37.out.cell (i := 13) rfl
  have e14 : w7.cell? ⟨w.heap.size + 2, 14, none⟩ = some (.slice none 0 0) := S37.out.cell (i := 14) rfl
  clear hl2 hw5 hw6
  go_wp2_with fail
  have GR := grown_put15 w7 (w.heap.size + 1 + 1) (.int .i64 h.id) (.bool h.an) (.int .i64 h.op) (.bool h.aa) (.bool h.tc) (.bool h.rd) (.bool h.ra) (.bool h.z) (.bool h.ad) (.bool h.cd) (.int .i64 h.code) (.slice yq qs.length dq) (.slice y1 r1.length d1) (.slice y2 r2.length d2) (.slice y4 n4 d4)
  have A8 := A7.out.grown GR (fun b hb => by cases hb; left; omega)
  refine bodyPost_ret (results_set _ _ (w.heap.size + 1 + 1) _ _ _ _ _ _ _ _ _ _ _ _ _ _ _ rfl ((show Bl 28 w7 (w.heap.size + 1 + 1) ms0 from S37.out).put15 _ _ _ _ _ _ _ _ _ _ _ _ _ _ _)) rfl ?_
  have hn := HN.out
  subst hn
  exact ⟨yq, dq, y1, d1, y2, d2, y4, d4, rfl, (Q1.out.agree A8).base (by omega), (Q2.out.agree A8).base (by omega), (Q3.out.agree A8).base (by omega), (R7.out.kept GR (fun q => Nat.lt_irrefl _ q.2) NP.out).toR, below_put15 B7.out (by omega) _ _ _ _ _ _ _ _ _ _ _ _ _ _ _⟩

end Go.Proofs.YtbbgabdiikdjpaaDoor
