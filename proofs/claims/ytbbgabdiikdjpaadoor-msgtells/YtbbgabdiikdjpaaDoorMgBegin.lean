/-
  The walk of begin: the draft with all that stands ahead of the parts; or what is wrong.
-/
import Derived.Test.YtbbgabdiikdjpaaDoorMgStep
import Derived.Test.YtbbgabdiikdjpaaDoorMgHead
namespace Go.Proofs.YtbbgabdiikdjpaaDoor
open Go.RowKit Go.Deep Go.Maps

/-- What stands ahead of the parts. -/
def aheadN (h : Hd) (l0 l1 l2 l3 : Nat) : List Int := hdB h ++ twoN (l0 : Int) ++ twoN (l1 : Int) ++ twoN (l2 : Int) ++ twoN (l3 : Int)

theorem ahead_len (h : Hd) (l0 l1 l2 l3 : Nat) : (aheadN h l0 l1 l2 l3).length = 12 := rfl

theorem ahead_bytes {h : Hd} (k : HdOk h) (l0 l1 l2 l3 : Nat) : ∀ b ∈ aheadN h l0 l1 l2 l3, 0 ≤ b ∧ b ≤ 255 := by
  intro b hb
  unfold aheadN at hb
  simp only [List.mem_append] at hb
  rcases hb with (((hb | hb) | hb) | hb) | hb
  · exact hdB_bytes k b hb
  · exact two_bytes _ b hb
  · exact two_bytes _ b hb
  · exact two_bytes _ b hb
  · exact two_bytes _ b hb

def BeginPost (h : Hd) (l0 l1 l2 l3 : Nat) (w : World) (e : Ending) (w' : World) : Prop :=
  (¬ HdOk h ∧ e = .returned (.tuple #[.pointer none, .iface 29 (.int .i64 6)]) ∧ Below w.heap.size w w') ∨
    (HdOk h ∧ (65535 < l0 ∨ 65535 < l1 ∨ 65535 < l2 ∨ 65535 < l3) ∧ e = .returned (.tuple #[.pointer none, .iface 29 (.int .i64 7)]) ∧ Below w.heap.size w w') ∨
    (HdOk h ∧ (l0 ≤ 65535 ∧ l1 ≤ 65535 ∧ l2 ≤ 65535 ∧ l3 ≤ 65535) ∧ ∃ g, e = .returned (.tuple #[.pointer (some ⟨g, 0, none⟩), .nilIface]) ∧ Dr w' g w.heap.size (aheadN h l0 l1 l2 l3) [] ∧ Below w.heap.size w w')

def BRow (w : World) (B : Nat) (v : Value) (xs : List Int) (wr : World) : Prop := Rowb wr B v xs ∧ Below B w wr ∧ B ≤ wr.heap.size

def BRel (h : Hd) (l0 l1 l2 l3 : Nat) (w : World) (B : Nat) (v vi : Value) (wr : World) : Prop :=
  (vi = .int .i64 0 ∧ BRow w B v (hdB h) wr) ∨ (l0 ≤ 65535 ∧ vi = .int .i64 1 ∧ BRow w B v (hdB h ++ twoN (l0 : Int)) wr) ∨
    (l0 ≤ 65535 ∧ l1 ≤ 65535 ∧ vi = .int .i64 2 ∧ BRow w B v (hdB h ++ twoN (l0 : Int) ++ twoN (l1 : Int)) wr) ∨
    (l0 ≤ 65535 ∧ l1 ≤ 65535 ∧ l2 ≤ 65535 ∧ vi = .int .i64 3 ∧ BRow w B v (hdB h ++ twoN (l0 : Int) ++ twoN (l1 : Int) ++ twoN (l2 : Int)) wr) ∨
    (l0 ≤ 65535 ∧ l1 ≤ 65535 ∧ l2 ≤ 65535 ∧ l3 ≤ 65535 ∧ vi = .int .i64 4 ∧ BRow w B v (aheadN h l0 l1 l2 l3) wr)

theorem Bl.new2 (t : TypeId) (w : World) (o : Obj) (C : Array Value) : Bl t ((w.alloc o).alloc (.cells C t)) (w.heap.size + 1) C := by
  have h := Bl.new t (w.alloc o) C
  have e : (w.alloc o).heap.size = w.heap.size + 1 := by simp
  rw [e] at h
  exact h

set_option maxHeartbeats 2000000 in
set_option maxRecDepth 100000 in
theorem begin_any {xq x1 x2 x3 : Option Addr} {cq c1 c2 c3 : Nat} (h : Hd) (l0 l1 l2 l3 : Nat) (w : World) (b0 : l0 ≤ 4000000000000) (b1 : l1 ≤ 4000000000000) (b2 : l2 ≤ 4000000000000) (b3 : l3 ≤ 4000000000000) :
    Calls Tryd.prog 44 #[.agg #[.int .i64 h.id, .bool h.an, .int .i64 h.op, .bool h.aa, .bool h.tc, .bool h.rd, .bool h.ra, .bool h.z, .bool h.ad, .bool h.cd, .int .i64 h.code, .slice xq l0 cq, .slice x1 l1 c1, .slice x2 l2 c2, .slice x3 l3 c3]] w (BeginPost h l0 l1 l2 l3 w) := by
  have hmm := @run_makeMap Tryd.prog
  have j0 : ∀ u : World, (Instr.index 132 (.agg #[.int .i64 (l0 : Int), .int .i64 (l1 : Int), .int .i64 (l2 : Int), .int .i64 (l3 : Int)]) (.int .i64 0)).run Tryd.prog u = .ok (.int .i64 (l0 : Int)) u := fun _ => by kernel_rfl
  have j1 : ∀ u : World, (Instr.index 132 (.agg #[.int .i64 (l0 : Int), .int .i64 (l1 : Int), .int .i64 (l2 : Int), .int .i64 (l3 : Int)]) (.int .i64 1)).run Tryd.prog u = .ok (.int .i64 (l1 : Int)) u := fun _ => by kernel_rfl
  have j2 : ∀ u : World, (Instr.index 132 (.agg #[.int .i64 (l0 : Int), .int .i64 (l1 : Int), .int .i64 (l2 : Int), .int .i64 (l3 : Int)]) (.int .i64 2)).run Tryd.prog u = .ok (.int .i64 (l2 : Int)) u := fun _ => by kernel_rfl
  have j3 : ∀ u : World, (Instr.index 132 (.agg #[.int .i64 (l0 : Int), .int .i64 (l1 : Int), .int .i64 (l2 : Int), .int .i64 (l3 : Int)]) (.int .i64 3)).run Tryd.prog u = .ok (.int .i64 (l3 : Int)) u := fun _ => by kernel_rfl
  go_enter Tryd.func44, Tryd.ntmps44
  go_wp2_with fail
  have B0 : Below w.heap.size w _ := (Below.refl _ w).alloc (Nat.le_refl _) (.cells #[.int .i64 h.id, .bool h.an, .int .i64 h.op, .bool h.aa, .bool h.tc, .bool h.rd, .bool h.ra, .bool h.z, .bool h.ad, .bool h.cd, .int .i64 h.code, .slice xq l0 cq, .slice x1 l1 c1, .slice x2 l2 c2, .slice x3 l3 c3] 28)
  have K0 := Bl.new 28 w #[.int .i64 h.id, .bool h.an, .int .i64 h.op, .bool h.aa, .bool h.tc, .bool h.rd, .bool h.ra, .bool h.z, .bool h.ad, .bool h.cd, .int .i64 h.code, .slice xq l0 cq, .slice x1 l1 c1, .slice x2 l2 c2, .slice x3 l3 c3]
  by_cases hh : HdOk h
  case neg =>
    refine (hwrite_no h _ hh).mono ?_
    rintro e w1 ⟨rfl, d1⟩
    have B1 := hid (grown_on B0 d1)
    have HN := hid hh
    clear B0 K0 d1 hh
    go_wp2_with fail
    go_ret2
    exact Or.inl ⟨HN.out, rfl, B1.out⟩
  refine (hwrite_hd h _ hh).mono ?_
  rintro e w1 ⟨y, c, rfl, r1, s1, d1⟩
  have B1 := hid (grown_on B0 d1)
  have K1 := K0.below d1
  have R1 : Hid (Rowb w1 w.heap.size (.slice y 4 c) (hdB h)) := hid (owns_base r1 (by simp))
  have k11 := K1.cell (i := 11) rfl
  have k12 := K1.cell (i := 12) rfl
  have k13 := K1.cell (i := 13) rfl
  have k14 := K1.cell (i := 14) rfl
  have HY := hid hh
  clear B0 K0 d1 K1 s1 r1 hh
  go_wp2_with fail
  go_loopw [4, 30] (fun v vi wr => BRel h l0 l1 l2 l3 w w.heap.size v vi wr) (fun _ i _ => 4 - (intOf i).toNat)
  case atStart => exact Or.inl ⟨rfl, R1.out, B1.out, B1.out.size⟩
  case round =>
    clear R1 B1 k11 k12 k13 k14
    rcases hrel with ⟨rfl, hr, hb, hB⟩ | ⟨g0, rfl, hr, hb, hB⟩ | ⟨g0, g1, rfl, hr, hb, hB⟩ | ⟨g0, g1, g2, rfl, hr, hb, hB⟩ | ⟨g0, g1, g2, g3, rfl, hr, hb, hB⟩
    · by_cases cl : l0 ≤ 65535
      · have cl2 : ¬ (65535 : Int) < (l0 : Int) := by omega
        go_wp2_with fail
        refine (appendTwo_any w.heap.size _ (hdB h) (l0 : Int) _ hr (by rw [hdB_len]; omega) hB).mono ?_
        rintro e w2 ⟨v2, rfl, hr2, d2, _⟩
        have HB2 := hid (hb.trans d2)
        have hB2 : w.heap.size ≤ w2.heap.size := Nat.le_trans hB d2.size
        clear d2 hr hb
        go_wp2_with fail
        exact ⟨Or.inr (Or.inl ⟨(by omega), rfl, hr2, HB2.out, hB2⟩), by simp [intOf]⟩
      · have cl2 : (65535 : Int) < (l0 : Int) := by omega
        have HBB := hid hb
        clear hr hb
        go_wp2_with fail
        go_ret2
        exact Or.inr (Or.inl ⟨HY.out, (Or.inl) (by omega), rfl, HBB.out⟩)
    · by_cases cl : l1 ≤ 65535
      · have cl2 : ¬ (65535 : Int) < (l1 : Int) := by omega
        go_wp2_with fail
        refine (appendTwo_any w.heap.size _ (hdB h ++ twoN (l0 : Int)) (l1 : Int) _ hr (by simp only [List.length_append, hdB_len, two_len]; omega) hB).mono ?_
        rintro e w2 ⟨v2, rfl, hr2, d2, _⟩
        have HB2 := hid (hb.trans d2)
        have hB2 : w.heap.size ≤ w2.heap.size := Nat.le_trans hB d2.size
        clear d2 hr hb
        go_wp2_with fail
        exact ⟨Or.inr (Or.inr (Or.inl ⟨g0, (by omega), rfl, hr2, HB2.out, hB2⟩)), by simp [intOf]⟩
      · have cl2 : (65535 : Int) < (l1 : Int) := by omega
        have HBB := hid hb
        clear hr hb
        go_wp2_with fail
        go_ret2
        exact Or.inr (Or.inl ⟨HY.out, (fun q => Or.inr (Or.inl q)) (by omega), rfl, HBB.out⟩)
    · by_cases cl : l2 ≤ 65535
      · have cl2 : ¬ (65535 : Int) < (l2 : Int) := by omega
        go_wp2_with fail
        refine (appendTwo_any w.heap.size _ (hdB h ++ twoN (l0 : Int) ++ twoN (l1 : Int)) (l2 : Int) _ hr (by simp only [List.length_append, hdB_len, two_len]; omega) hB).mono ?_
        rintro e w2 ⟨v2, rfl, hr2, d2, _⟩
        have HB2 := hid (hb.trans d2)
        have hB2 : w.heap.size ≤ w2.heap.size := Nat.le_trans hB d2.size
        clear d2 hr hb
        go_wp2_with fail
        exact ⟨Or.inr (Or.inr (Or.inr (Or.inl ⟨g0, g1, (by omega), rfl, hr2, HB2.out, hB2⟩))), by simp [intOf]⟩
      · have cl2 : (65535 : Int) < (l2 : Int) := by omega
        have HBB := hid hb
        clear hr hb
        go_wp2_with fail
        go_ret2
        exact Or.inr (Or.inl ⟨HY.out, (fun q => Or.inr (Or.inr (Or.inl q))) (by omega), rfl, HBB.out⟩)
    · by_cases cl : l3 ≤ 65535
      · have cl2 : ¬ (65535 : Int) < (l3 : Int) := by omega
        go_wp2_with fail
        refine (appendTwo_any w.heap.size _ (hdB h ++ twoN (l0 : Int) ++ twoN (l1 : Int) ++ twoN (l2 : Int)) (l3 : Int) _ hr (by simp only [List.length_append, hdB_len, two_len]; omega) hB).mono ?_
        rintro e w2 ⟨v2, rfl, hr2, d2, _⟩
        have HB2 := hid (hb.trans d2)
        have hB2 : w.heap.size ≤ w2.heap.size := Nat.le_trans hB d2.size
        clear d2 hr hb
        go_wp2_with fail
        exact ⟨Or.inr (Or.inr (Or.inr (Or.inr ⟨g0, g1, g2, (by omega), rfl, hr2, HB2.out, hB2⟩))), by simp [intOf]⟩
      · have cl2 : (65535 : Int) < (l3 : Int) := by omega
        have HBB := hid hb
        clear hr hb
        go_wp2_with fail
        go_ret2
        exact Or.inr (Or.inl ⟨HY.out, (fun q => Or.inr (Or.inr (Or.inr q))) (by omega), rfl, HBB.out⟩)
    · obtain ⟨x, cx, rfl⟩ := rowb_len hr (ahead_len h l0 l1 l2 l3)
      have HR := hid hr
      have HB := hid hb
      clear hr hb
      go_wp2_with fail
      go_ret2
      refine Or.inr (Or.inr ⟨HY.out, ⟨g0, g1, g2, g3⟩, _, rfl, ?_, ?_⟩)
      · refine ⟨x, cx, wr.heap.size, Bl.new2 _ _ _ _, ?_, (MapIs.empty wr).below ((Below.refl _ _).alloc (Nat.le_refl _) _), by omega, hB⟩
        exact (World.ownsRow.alloc (World.ownsRow.alloc HR.out _) _)
      · exact (HB.out.alloc hB _).alloc (by simp; omega) _

end Go.Proofs.YtbbgabdiikdjpaaDoor
