/-
  The walk of the document's own answer Silent. The walk of the document's own answer OptFault. The walk of Pair of package pointsmanref1, that only reads; a row of options behind B, their data in older memory. The walk of the document's own answer OptOf: its search, and where it tells nothing. The walk of the document's own answer Telling.
-/
import Derived.Test.YtbbgabdiikdjpaaDoorJA
import Derived.Test.YtbbgabdiikdjpaaDoorJF
import Derived.Laws.Tables
import Derived.Laws.CopyOwn
import Derived.Deep.CutRange
namespace Go.Proofs.YtbbgabdiikdjpaaDoor
open Go.RowKit Go.Deep

/-- A row of records behind B, their parts in memory that was there, whatever lies between. -/
def GMid (wp : World) (B : Nat) (v : Value) (rs : List Rn) (w : World) : Prop :=
  (∃ L : List (Rn × (Option Addr × Nat) × (Option Addr × Nat)), L.map (·.1) = rs ∧ w.ownsRow B 67 5 v L.length (L.flatMap rcells) ∧ ∀ e ∈ L, Strs wp e.2.1.1 e.2.1.2 e.1.N ∧ Bys wp e.2.2.1 e.2.2.2 e.1.D ∧ (e.2.2.1 = none → e.2.2.2 = 0)) ∧ Below wp.heap.size wp w ∧ wp.heap.size ≤ B

theorem GRow.mid {wp w0 w : World} {v : Value} {rs : List Rn} (h : GRow wp w0 v rs w) (hw : Below wp.heap.size wp w0) : GMid wp w0.heap.size v rs w := ⟨h.1, wp_on hw h.2, hw.size⟩

theorem GMid.set {wp w : World} {B : Nat} {v : Value} {rs : List Rn} (h : GMid wp B v rs w) {p : Addr} (h1 : wp.heap.size ≤ p.block) (h2 : p.block < B) (u : Value) : GMid wp B v rs (w.setCell p u) := by
  obtain ⟨⟨L, a, b, c⟩, d, e⟩ := h
  exact ⟨⟨L, a, owns_far b h2 u, c⟩, d.setCell h1 u, e⟩

theorem GMid.below {wp w w' : World} {B : Nat} {v : Value} {rs : List Rn} (h : GMid wp B v rs w) (k : Below w.heap.size w w') : GMid wp B v rs w' := by
  obtain ⟨⟨L, a, b, c⟩, d, e⟩ := h
  exact ⟨⟨L, a, owns_stay b k, c⟩, wp_on d k, e⟩

theorem GMid.rs {wp w : World} {B : Nat} {v : Value} {rs : List Rn} (h : GMid wp B v rs w) (hl : rs.length ≤ 4000000000000) : ∃ x c, v = .slice x rs.length c ∧ Rs w 0 x c rs := by
  obtain ⟨⟨L, a, b, c⟩, d, e⟩ := h
  have hA : ARow wp v rs w := ⟨⟨L, a, owns_base5 b e, c⟩, d⟩
  exact hA.open hl

set_option maxRecDepth 100000 in
theorem results_silent (tmps : Array Value) (w : World) (b : Nat) (v0 v1 v2 v3 v4 v5 v6 v7 v8 v9 v10 v11 v12 v13 v14 : Value) (hp : tmps.getD 2 undef = .pointer (some ⟨b, 0, none⟩)) (hb : Bl 28 w b #[v0, v1, v2, v3, v4, v5, v6, v7, v8, v9, v10, v11, v12, v13, v14]) :
    (results Tryd.f17 tmps).run Tryd.prog w = .ok (.agg #[v0, v1, v2, v3, v4, v5, v6, v7, v8, v9, v10, v11, v12, v13, v14]) w := by
  have c0 : w.cell? ⟨b, 0, none⟩ = some v0 := hb.cell (i := 0) rfl
  have c1 : w.cell? ⟨b, 1, none⟩ = some v1 := hb.cell (i := 1) rfl
  have c2 : w.cell? ⟨b, 2, none⟩ = some v2 := hb.cell (i := 2) rfl
  have c3 : w.cell? ⟨b, 3, none⟩ = some v3 := hb.cell (i := 3) rfl
  have c4 : w.cell? ⟨b, 4, none⟩ = some v4 := hb.cell (i := 4) rfl
  have c5 : w.cell? ⟨b, 5, none⟩ = some v5 := hb.cell (i := 5) rfl
  have c6 : w.cell? ⟨b, 6, none⟩ = some v6 := hb.cell (i := 6) rfl
  have c7 : w.cell? ⟨b, 7, none⟩ = some v7 := hb.cell (i := 7) rfl
  have c8 : w.cell? ⟨b, 8, none⟩ = some v8 := hb.cell (i := 8) rfl
  have c9 : w.cell? ⟨b, 9, none⟩ = some v9 := hb.cell (i := 9) rfl
  have c10 : w.cell? ⟨b, 10, none⟩ = some v10 := hb.cell (i := 10) rfl
  have c11 : w.cell? ⟨b, 11, none⟩ = some v11 := hb.cell (i := 11) rfl
  have c12 : w.cell? ⟨b, 12, none⟩ = some v12 := hb.cell (i := 12) rfl
  have c13 : w.cell? ⟨b, 13, none⟩ = some v13 := hb.cell (i := 13) rfl
  have c14 : w.cell? ⟨b, 14, none⟩ = some v14 := hb.cell (i := 14) rfl
  have hp' : tmps[2]?.getD undef = .pointer (some ⟨b, 0, none⟩) := by simpa using hp
  simp [results, Tryd.results17, go_sem, hp', c0, c1, c2, c3, c4, c5, c6, c7, c8, c9, c10, c11, c12, c13, c14]

set_option maxHeartbeats 8000000 in
set_option maxRecDepth 100000 in
theorem silent_own {xq x1 x2 x3 : Option Addr} {cq c1 c2 c3 b3 : Nat} (wp : World) (h : Hd) (qs : List Qn) (r1 r2 r3 : List Rn) (w : World) (hwp : Below wp.heap.size wp w) (hr3 : Rs wp b3 x3 c3 r3) (l3 : r3.length * 72 ≤ 140737488355328) :
    Calls Tryd.prog 17 #[.agg #[.int .i64 h.id, .bool h.an, .int .i64 h.op, .bool h.aa, .bool h.tc, .bool h.rd, .bool h.ra, .bool h.z, .bool h.ad, .bool h.cd, .int .i64 h.code, .slice xq qs.length cq, .slice x1 r1.length c1, .slice x2 r2.length c2, .slice x3 r3.length c3]] w fun e w' => ∃ y d, e = .returned (.agg #[.int .i64 h.id, .bool h.an, .int .i64 h.op, .bool h.aa, .bool h.tc, .bool h.rd, .bool h.ra, .bool h.z, .bool h.ad, .bool h.cd, .int .i64 h.code, .slice xq qs.length cq, .slice x1 r1.length c1, .slice x2 r2.length c2, .slice y (silR r3).length d]) ∧ GMid wp (w.heap.size + 2) (.slice y (silR r3).length d) (silR r3) w' ∧ Below w.heap.size w w' := by
  obtain ⟨k1, k2, k3⟩ := Bl.two 28 28 w #[.int .i64 h.id, .bool h.an, .int .i64 h.op, .bool h.aa, .bool h.tc, .bool h.rd, .bool h.ra, .bool h.z, .bool h.ad, .bool h.cd, .int .i64 h.code, .slice xq qs.length cq, .slice x1 r1.length c1, .slice x2 r2.length c2, .slice x3 r3.length c3] #[.int .i64 0, .bool false, .int .i64 0, .bool false, .bool false, .bool false, .bool false, .bool false, .bool false, .bool false, .int .i64 0, .slice none 0 0, .slice none 0 0, .slice none 0 0, .slice none 0 0]
  have hs : ((w.alloc (.cells #[.int .i64 h.id, .bool h.an, .int .i64 h.op, .bool h.aa, .bool h.tc, .bool h.rd, .bool h.ra, .bool h.z, .bool h.ad, .bool h.cd, .int .i64 h.code, .slice xq qs.length cq, .slice x1 r1.length c1, .slice x2 r2.length c2, .slice x3 r3.length c3] 28)).alloc (.cells #[.int .i64 0, .bool false, .int .i64 0, .bool false, .bool false, .bool false, .bool false, .bool false, .bool false, .bool false, .int .i64 0, .slice none 0 0, .slice none 0 0, .slice none 0 0, .slice none 0 0] 28)).heap.size = w.heap.size + 2 := by simp
  have HWP := hid hwp
  have H3 := hid hr3
  have hlen := hr3.2.1
  clear hwp hr3
  go_enter Tryd.func17, Tryd.ntmps17
  go_upto_region 2 with fail
  generalize (w.alloc (.cells #[.int .i64 h.id, .bool h.an, .int .i64 h.op, .bool h.aa, .bool h.tc, .bool h.rd, .bool h.ra, .bool h.z, .bool h.ad, .bool h.cd, .int .i64 h.code, .slice xq qs.length cq, .slice x1 r1.length c1, .slice x2 r2.length c2, .slice x3 r3.length c3] 28)).alloc (.cells #[.int .i64 0, .bool false, .int .i64 0, .bool false, .bool false, .bool false, .bool false, .bool false, .bool false, .bool false, .int .i64 0, .slice none 0 0, .slice none 0 0, .slice none 0 0, .slice none 0 0] 28) = W0 at *
  have K1 := hid k1
  have K2 := hid k2
  have K3 := hid k3
  have HS := hid hs
  clear k1 k2 k3 hs
  go_wp2_with fail
  go_loopw [3, 4] (fun v vi wr => DropRel wp W0 r3 v vi wr) (fun _ i _ => r3.length - (intOf i).toNat)
  case atStart => exact ⟨0, Nat.zero_le _, rfl, GRow.zero wp W0⟩
  case round =>
    obtain ⟨i, hi, rfl, hrow⟩ := hrel
    have HR := hid hrow
    have c14 : wr.cell? ⟨w.heap.size, 14, none⟩ = some (.slice x3 r3.length c3) := (K1.out.below hrow.2).cell (i := 14) rfl
    clear hrow
    by_cases ci : i < r3.length
    · obtain ⟨b0, o0, y, s, z, t, rfl, hb0, p0, p1, p2, p3, p4, q1, q2, q3⟩ := H3.out.at ci
      have B0 := grown_on HWP.out (grown_on K3.out HR.out.2)
      have e0 := (B0.cell (p := ⟨b0, o0 + i * 5, none⟩) hb0).trans p0
      have e1 := (B0.cell (p := ⟨b0, o0 + i * 5 + 1, none⟩) hb0).trans p1
      have e2 := (B0.cell (p := ⟨b0, o0 + i * 5 + 2, none⟩) hb0).trans p2
      have e3 := (B0.cell (p := ⟨b0, o0 + i * 5 + 3, none⟩) hb0).trans p3
      have e4 := (B0.cell (p := ⟨b0, o0 + i * 5 + 4, none⟩) hb0).trans p4
      have NX := hid (sil_next ci)
      have hsl : (silR (r3.take i)).length ≤ i := Nat.le_trans (sil_len _) (by rw [List.length_take]; omega)
      generalize r3[i] = r at *
      have Q1 := hid q1
      have Q2 := hid q2
      have Q3 := hid q3
      have ci2 : (i : Int) < (r3.length : Int) := by omega
      have hcap := H3.out.1
      have BA := hid (Below.refl wr.heap.size wr)
      clear p0 p1 p2 p3 p4 q1 q2 q3 B0
      by_cases ct : r.ty = 41
      · have G2 := hid (HR.out.below BA.out)
        rw [ct] at e1
        go_wp2_with fail
        refine ⟨⟨i + 1, by omega, by go_num, ?_⟩, by simp [intOf]; omega⟩
        rw [NX.out, if_pos ct]
        exact G2.out
      · have G2 : Hid (GRow wp W0 u3 (silR (r3.take i)) (wr.alloc (.cells #[.slice y r.N.length s, .int .i64 r.ty, .int .i64 r.cl, .int .i64 r.ttl, .slice z r.D.length t] 67))) := hid (HR.out.below ((Below.refl _ _).alloc (Nat.le_refl _) _))
        have RL : Hid (RList wp (wr.alloc (.cells #[.slice y r.N.length s, .int .i64 r.ty, .int .i64 r.cl, .int .i64 r.ttl, .slice z r.D.length t] 67)) (some ⟨wr.heap.size, 0, none⟩) 1 [r]) := hid (one_of (Bl.new 67 wr _) Q1.out Q2.out Q3.out)
        have hl2 : ((silR (r3.take i)).length + 1) * 72 ≤ 140737488355328 := by omega
        go_wp2_with (at_builtin; refine wpList_append_rl rfl _ _ rfl _ rfl rfl G2.out RL.out hl2 ?_)
        intro v1 w2 hg2 _
        have G3 := hid hg2
        clear hg2 G2 RL
        go_wp2_with fail
        refine ⟨⟨i + 1, by omega, by go_num, ?_⟩, by simp [intOf]; omega⟩
        rw [NX.out, if_neg ct]
        exact G3.out
    · have ei : i = r3.length := by omega
      subst ei
      rw [List.take_of_length_le (Nat.le_refl _)] at HR
      have hsl := sil_len r3
      have KW1 := hid (K1.out.below HR.out.2)
      have KW2 := hid (K2.out.below HR.out.2)
      have BW := hid (grown_on K3.out HR.out.2)
      have GM := hid (HR.out.mid (grown_on HWP.out K3.out))
      obtain ⟨x4, c4, rfl, _⟩ := GM.out.rs (by omega)
      have z14 := KW1.out.frozen 14
      clear HR
      go_upto_region 8 with fail
      have KA : Hid (Bl 28 (wr.setCell ⟨w.heap.size, 14, none⟩ (.slice x4 (silR r3).length c4)) w.heap.size #[.int .i64 h.id, .bool h.an, .int .i64 h.op, .bool h.aa, .bool h.tc, .bool h.rd, .bool h.ra, .bool h.z, .bool h.ad, .bool h.cd, .int .i64 h.code, .slice xq qs.length cq, .slice x1 r1.length c1, .slice x2 r2.length c2, .slice x4 (silR r3).length c4]) := hid (KW1.out.set 14 _)
      have KB := hid (KW2.out.far (p := ⟨w.heap.size, 14, none⟩) (by simp) (.slice x4 (silR r3).length c4))
      have GM3 := hid (GM.out.set (p := ⟨w.heap.size, 14, none⟩) HWP.out.size (by rw [HS.out]; exact Nat.lt_succ_of_lt (Nat.lt_succ_self _)) (.slice x4 (silR r3).length c4))
      have BB := hid (BW.out.setCell (p := ⟨w.heap.size, 14, none⟩) (Nat.le_refl _) (.slice x4 (silR r3).length c4))
      generalize wr.setCell ⟨w.heap.size, 14, none⟩ (.slice x4 (silR r3).length c4) = w3 at *
      clear c14 z14 KW1 KW2 BW
      have g0 : w3.cell? ⟨w.heap.size, 0, none⟩ = some (.int .i64 h.id) := KA.out.cell (i := 0) rfl
      have g1 : w3.cell? ⟨w.heap.size, 1, none⟩ = some (.bool h.an) := KA.out.cell (i := 1) rfl
      have g2 : w3.cell? ⟨w.heap.size, 2, none⟩ = some (.int .i64 h.op) := KA.out.cell (i := 2) rfl
      have g3 : w3.cell? ⟨w.heap.size, 3, none⟩ = some (.bool h.aa) := KA.out.cell (i := 3) rfl
      have g4 : w3.cell? ⟨w.heap.size, 4, none⟩ = some (.bool h.tc) := KA.out.cell (i := 4) rfl
      have g5 : w3.cell? ⟨w.heap.size, 5, none⟩ = some (.bool h.rd) := KA.out.cell (i := 5) rfl
      have g6 : w3.cell? ⟨w.heap.size, 6, none⟩ = some (.bool h.ra) := KA.out.cell (i := 6) rfl
      have g7 : w3.cell? ⟨w.heap.size, 7, none⟩ = some (.bool h.z) := KA.out.cell (i := 7) rfl
      have g8 : w3.cell? ⟨w.heap.size, 8, none⟩ = some (.bool h.ad) := KA.out.cell (i := 8) rfl
      have g9 : w3.cell? ⟨w.heap.size, 9, none⟩ = some (.bool h.cd) := KA.out.cell (i := 9) rfl
      have g10 : w3.cell? ⟨w.heap.size, 10, none⟩ = some (.int .i64 h.code) := KA.out.cell (i := 10) rfl
      have g11 : w3.cell? ⟨w.heap.size, 11, none⟩ = some (.slice xq qs.length cq) := KA.out.cell (i := 11) rfl
      have g12 : w3.cell? ⟨w.heap.size, 12, none⟩ = some (.slice x1 r1.length c1) := KA.out.cell (i := 12) rfl
      have g13 : w3.cell? ⟨w.heap.size, 13, none⟩ = some (.slice x2 r2.length c2) := KA.out.cell (i := 13) rfl
      have g14 : w3.cell? ⟨w.heap.size, 14, none⟩ = some (.slice x4 (silR r3).length c4) := KA.out.cell (i := 14) rfl
      have s3 : w.heap.size + 1 < w3.heap.size := KB.out.lt
      have KZ := KB
      have BZ := BB
      have f0 : w3.frozen? ⟨w.heap.size + 1, 0, none⟩ = false := KZ.out.frozen 0
      have e0 : w3.cell? ⟨w.heap.size + 1, 0, none⟩ = some (.int .i64 0) := KZ.out.cell (i := 0) rfl
      have f1 : w3.frozen? ⟨w.heap.size + 1, 1, none⟩ = false := KZ.out.frozen 1
      have e1 : w3.cell? ⟨w.heap.size + 1, 1, none⟩ = some (.bool false) := KZ.out.cell (i := 1) rfl
      have f2 : w3.frozen? ⟨w.heap.size + 1, 2, none⟩ = false := KZ.out.frozen 2
      have e2 : w3.cell? ⟨w.heap.size + 1, 2, none⟩ = some (.int .i64 0) := KZ.out.cell (i := 2) rfl
      have f3 : w3.frozen? ⟨w.heap.size + 1, 3, none⟩ = false := KZ.out.frozen 3
      have e3 : w3.cell? ⟨w.heap.size + 1, 3, none⟩ = some (.bool false) := KZ.out.cell (i := 3) rfl
      have f4 : w3.frozen? ⟨w.heap.size + 1, 4, none⟩ = false := KZ.out.frozen 4
      have e4 : w3.cell? ⟨w.heap.size + 1, 4, none⟩ = some (.bool false) := KZ.out.cell (i := 4) rfl
      have f5 : w3.frozen? ⟨w.heap.size + 1, 5, none⟩ = false := KZ.out.frozen 5
      have e5 : w3.cell? ⟨w.heap.size + 1, 5, none⟩ = some (.bool false) := KZ.out.cell (i := 5) rfl
      have f6 : w3.frozen? ⟨w.heap.size + 1, 6, none⟩ = false := KZ.out.frozen 6
      have e6 : w3.cell? ⟨w.heap.size + 1, 6, none⟩ = some (.bool false) := KZ.out.cell (i := 6) rfl
      have f7 : w3.frozen? ⟨w.heap.size + 1, 7, none⟩ = false := KZ.out.frozen 7
      have e7 : w3.cell? ⟨w.heap.size + 1, 7, none⟩ = some (.bool false) := KZ.out.cell (i := 7) rfl
      have f8 : w3.frozen? ⟨w.heap.size + 1, 8, none⟩ = false := KZ.out.frozen 8
      have e8 : w3.cell? ⟨w.heap.size + 1, 8, none⟩ = some (.bool false) := KZ.out.cell (i := 8) rfl
      have f9 : w3.frozen? ⟨w.heap.size + 1, 9, none⟩ = false := KZ.out.frozen 9
      have e9 : w3.cell? ⟨w.heap.size + 1, 9, none⟩ = some (.bool false) := KZ.out.cell (i := 9) rfl
      have f10 : w3.frozen? ⟨w.heap.size + 1, 10, none⟩ = false := KZ.out.frozen 10
      have e10 : w3.cell? ⟨w.heap.size + 1, 10, none⟩ = some (.int .i64 0) := KZ.out.cell (i := 10) rfl
      have f11 : w3.frozen? ⟨w.heap.size + 1, 11, none⟩ = false := KZ.out.frozen 11
      have e11 : w3.cell? ⟨w.heap.size + 1, 11, none⟩ = some (.slice none 0 0) := KZ.out.cell (i := 11) rfl
      have f12 : w3.frozen? ⟨w.heap.size + 1, 12, none⟩ = false := KZ.out.frozen 12
      have e12 : w3.cell? ⟨w.heap.size + 1, 12, none⟩ = some (.slice none 0 0) := KZ.out.cell (i := 12) rfl
      have f13 : w3.frozen? ⟨w.heap.size + 1, 13, none⟩ = false := KZ.out.frozen 13
      have e13 : w3.cell? ⟨w.heap.size + 1, 13, none⟩ = some (.slice none 0 0) := KZ.out.cell (i := 13) rfl
      have f14 : w3.frozen? ⟨w.heap.size + 1, 14, none⟩ = false := KZ.out.frozen 14
      have e14 : w3.cell? ⟨w.heap.size + 1, 14, none⟩ = some (.slice none 0 0) := KZ.out.cell (i := 14) rfl
      go_wp2_with fail
      have GR := grown_put15 w3 (w.heap.size + 1) (.int .i64 h.id) (.bool h.an) (.int .i64 h.op) (.bool h.aa) (.bool h.tc) (.bool h.rd) (.bool h.ra) (.bool h.z) (.bool h.ad) (.bool h.cd) (.int .i64 h.code) (.slice xq qs.length cq) (.slice x1 r1.length c1) (.slice x2 r2.length c2) (.slice x4 (silR r3).length c4)
      refine bodyPost_ret (results_silent _ _ (w.heap.size + 1) _ _ _ _ _ _ _ _ _ _ _ _ _ _ _ rfl ((show Bl 28 w3 (w.heap.size + 1) ms0 from KZ.out).put15 _ _ _ _ _ _ _ _ _ _ _ _ _ _ _)) rfl ?_
      have hsW : w.heap.size + 1 < W0.heap.size := by have := HS.out; omega
      have GZ := ((((((((((((((GM3.out.set (p := ⟨w.heap.size + 1, 0, none⟩) (Nat.le_trans HWP.out.size (Nat.le_succ _)) hsW (.int .i64 h.id)).set (p := ⟨w.heap.size + 1, 1, none⟩) (Nat.le_trans HWP.out.size (Nat.le_succ _)) hsW (.bool h.an)).set (p := ⟨w.heap.size + 1, 2, none⟩) (Nat.le_trans HWP.out.size (Nat.le_succ _)) hsW (.int .i64 h.op)).set (p := ⟨w.heap.size + 1, 3, none⟩) (Nat.le_trans HWP.out.size (Nat.le_succ _)) hsW (.bool h.aa)).set (p := ⟨w.heap.size + 1, 4, none⟩) (Nat.le_trans HWP.out.size (Nat.le_succ _)) hsW (.bool h.tc)).set (p := ⟨w.heap.size + 1, 5, none⟩) (Nat.le_trans HWP.out.size (Nat.le_succ _)) hsW (.bool h.rd)).set (p := ⟨w.heap.size + 1, 6, none⟩) (Nat.le_trans HWP.out.size (Nat.le_succ _)) hsW (.bool h.ra)).set (p := ⟨w.heap.size + 1, 7, none⟩) (Nat.le_trans HWP.out.size (Nat.le_succ _)) hsW (.bool h.z)).set (p := ⟨w.heap.size + 1, 8, none⟩) (Nat.le_trans HWP.out.size (Nat.le_succ _)) hsW (.bool h.ad)).set (p := ⟨w.heap.size + 1, 9, none⟩) (Nat.le_trans HWP.out.size (Nat.le_succ _)) hsW (.bool h.cd)).set (p := ⟨w.heap.size + 1, 10, none⟩) (Nat.le_trans HWP.out.size (Nat.le_succ _)) hsW (.int .i64 h.code)).set (p := ⟨w.heap.size + 1, 11, none⟩) (Nat.le_trans HWP.out.size (Nat.le_succ _)) hsW (.slice xq qs.length cq)).set (p := ⟨w.heap.size + 1, 12, none⟩) (Nat.le_trans HWP.out.size (Nat.le_succ _)) hsW (.slice x1 r1.length c1)).set (p := ⟨w.heap.size + 1, 13, none⟩) (Nat.le_trans HWP.out.size (Nat.le_succ _)) hsW (.slice x2 r2.length c2)).set (p := ⟨w.heap.size + 1, 14, none⟩) (Nat.le_trans HWP.out.size (Nat.le_succ _)) hsW (.slice x4 (silR r3).length c4)
      rw [HS.out] at GZ
      exact ⟨x4, c4, rfl, GZ, below_put15 BZ.out (by omega) _ _ _ _ _ _ _ _ _ _ _ _ _ _ _⟩

set_option maxRecDepth 100000 in
theorem silent_any {xq x1 x2 x3 : Option Addr} {cq c1 c2 c3 b3 : Nat} (h : Hd) (qs : List Qn) (r1 r2 r3 : List Rn) (w : World) (hr3 : Rs w b3 x3 c3 r3) (l3 : r3.length * 72 ≤ 140737488355328) :
    Calls Tryd.prog 17 #[.agg #[.int .i64 h.id, .bool h.an, .int .i64 h.op, .bool h.aa, .bool h.tc, .bool h.rd, .bool h.ra, .bool h.z, .bool h.ad, .bool h.cd, .int .i64 h.code, .slice xq qs.length cq, .slice x1 r1.length c1, .slice x2 r2.length c2, .slice x3 r3.length c3]] w fun e w' => ∃ y d, e = .returned (.agg #[.int .i64 h.id, .bool h.an, .int .i64 h.op, .bool h.aa, .bool h.tc, .bool h.rd, .bool h.ra, .bool h.z, .bool h.ad, .bool h.cd, .int .i64 h.code, .slice xq qs.length cq, .slice x1 r1.length c1, .slice x2 r2.length c2, .slice y (silR r3).length d]) ∧ Rs w' 0 y d (silR r3) ∧ Below w.heap.size w w' := by
  refine (silent_own w h qs r1 r2 r3 w (Below.refl _ _) hr3 l3).mono ?_
  rintro e w' ⟨y, d, rfl, g, b⟩
  have hsl := sil_len r3
  obtain ⟨x5, c5, e5, R5⟩ := g.rs (show (silR r3).length ≤ 4000000000000 by omega)
  simp only [Value.slice.injEq, true_and] at e5
  obtain ⟨rfl, rfl⟩ := e5
  exact ⟨y, d, rfl, R5, b⟩

end Go.Proofs.YtbbgabdiikdjpaaDoor

namespace Go.Proofs.YtbbgabdiikdjpaaDoor
open Go.RowKit Go.Deep

theorem optE_at {os : List On} {i : Nat} (hi : i < os.length) : optE (os.drop i) = if ¬ (0 ≤ os[i].code ∧ os[i].code ≤ 65535) then 6 else if 65535 < os[i].D.length then 7 else optE (os.drop (i + 1)) := by
  rw [List.drop_eq_getElem_cons hi, optE_cons]

theorem optSize_snoc (os : List On) (o : On) : optSize (os ++ [o]) = optSize os + (4 + o.D.length) := by
  induction os with
  | nil => simp [optSize]
  | cons a l ih => rw [List.cons_append, optSize, optSize, ih]; omega

theorem optSize_at {os : List On} {i : Nat} (hi : i < os.length) : optSize (os.take (i + 1)) = optSize (os.take i) + (4 + os[i].D.length) := by
  rw [List.take_succ_eq_append_getElem hi, optSize_snoc]

theorem dataE_of {os : List On} {k : Int} (h : optE os = k) (h0 : ¬ k = 0) : dataE os = k := by unfold dataE; rw [h, if_pos h0]
theorem dataE_no {os : List On} (h : optE os = 0) : dataE os = if 65535 < optSize os then 7 else 0 := by unfold dataE; rw [h]; rfl

theorem otE_in {o : Ot} (h : OtIn o) : otE o = dataE o.os := by unfold otE; rw [if_neg (fun q => q h)]
theorem otE_out {o : Ot} (h : ¬ OtIn o) : otE o = 6 := by unfold otE; rw [if_pos h]

set_option maxHeartbeats 4000000 in
set_option maxRecDepth 100000 in
theorem optFault_any {x : Option Addr} {c bo : Nat} (o : Ot) (w : World) (hs : Ops w bo x c o.os) :
    Calls Tryd.prog 18 #[.agg #[.int .i64 o.size, .int .i64 o.code, .int .i64 o.ver, .bool o.dO, .int .i64 o.z, .slice x o.os.length c]] w fun e w' => e = .returned (.int .i64 (otE o)) ∧ Below w.heap.size w w' := by
  have B0 := hid ((Below.refl w.heap.size w).alloc (Nat.le_refl _) (.cells #[.int .i64 o.size, .int .i64 o.code, .int .i64 o.ver, .bool o.dO, .int .i64 o.z, .slice x o.os.length c] 46))
  have k := Bl.new 46 w #[.int .i64 o.size, .int .i64 o.code, .int .i64 o.ver, .bool o.dO, .int .i64 o.z, .slice x o.os.length c]
  have HS := hid (hs.below B0.out)
  have hlen := hs.2.1
  have a0 := k.cell (i := 0) rfl
  have a1 := k.cell (i := 1) rfl
  have a2 := k.cell (i := 2) rfl
  have a4 := k.cell (i := 4) rfl
  have a5 := k.cell (i := 5) rfl
  clear k hs
  go_enter Tryd.func18, Tryd.ntmps18
  go_upto_region 1 with fail
  generalize w.alloc (.cells #[.int .i64 o.size, .int .i64 o.code, .int .i64 o.ver, .bool o.dO, .int .i64 o.z, .slice x o.os.length c] 46) = W0 at *
  by_cases hin : OtIn o
  · have HE := hid (otE_in hin)
    obtain ⟨⟨i1, i2⟩, ⟨i3, i4⟩, ⟨i5, i6⟩, ⟨i7, i8⟩⟩ := hin
    have n1 : ¬ o.size < 0 := by omega
    have n2 : ¬ 65535 < o.size := by omega
    have n3 : ¬ o.code < 0 := by omega
    have n4 : ¬ 255 < o.code := by omega
    have n5 : ¬ o.ver < 0 := by omega
    have n6 : ¬ 255 < o.ver := by omega
    have n7 : ¬ o.z < 0 := by omega
    have n8 : ¬ 32767 < o.z := by omega
    clear i1 i2 i3 i4 i5 i6 i7 i8
    go_wp2_with fail
    go_loopw [3, 4] (fun va vi wr => ∃ i : Nat, i ≤ o.os.length ∧ vi = .int .i64 (i : Int) ∧ va = .int .i64 (optSize (o.os.take i) : Nat) ∧ optSize (o.os.take i) ≤ i * 65539 ∧ optE o.os = optE (o.os.drop i) ∧ wr = W0) (fun _ vi _ => o.os.length - (intOf vi).toNat)
    case atStart => exact ⟨0, Nat.zero_le _, rfl, rfl, by simp [optSize], rfl, rfl⟩
    case round =>
      obtain ⟨i, hi, rfl, rfl, hsz, he, rfl⟩ := hrel
      have HOE := hid he
      clear he
      by_cases ci : i < o.os.length
      · have ci' : (i : Int) < (o.os.length : Int) := by omega
        obtain ⟨b, off, z, t, rfl, _, d0, d1, _, _⟩ := HS.out.at ci
        have HN := hid (optE_at ci)
        have HZ := hid (optSize_at ci)
        obtain ⟨S, hS⟩ : ∃ S, optSize (o.os.take i) = S := ⟨_, rfl⟩
        rw [hS] at HZ hsz ⊢
        clear hS
        have hcap : o.os.length ≤ c := HS.out.1
        have hdl : o.os[i].D.length ≤ 200000000000000 := by
          obtain ⟨_, _, z', t', _, _, _, _, q, _⟩ := HS.out.at ci
          exact q.2.1
        generalize o.os[i] = r at *
        by_cases c1 : r.code < 0
        · have HR : Hid (otE o = 6) := hid (by rw [HE.out]; exact dataE_of (by rw [HOE.out, HN.out, if_pos (by omega)]) (by decide))
          go_wp2_with fail
          go_ret
          exact ⟨by rw [HR.out]; rfl, B0.out⟩
        · by_cases c2 : 65535 < r.code
          · have HR : Hid (otE o = 6) := hid (by rw [HE.out]; exact dataE_of (by rw [HOE.out, HN.out, if_pos (by omega)]) (by decide))
            go_wp2_with fail
            go_ret
            exact ⟨by rw [HR.out]; rfl, B0.out⟩
          · by_cases c3 : 65535 < r.D.length
            · have HR : Hid (otE o = 7) := hid (by rw [HE.out]; exact dataE_of (by rw [HOE.out, HN.out, if_neg (by omega), if_pos c3]) (by decide))
              have c3' : (65535 : Int) < (r.D.length : Int) := by omega
              go_wp2_with fail
              go_ret
              exact ⟨by rw [HR.out]; rfl, B0.out⟩
            · have HR : Hid (optE o.os = optE (o.os.drop (i + 1))) := hid (by rw [HOE.out, HN.out, if_neg (by omega), if_neg c3])
              have c3' : ¬ (65535 : Int) < (r.D.length : Int) := by omega
              go_wp2_with fail
              exact ⟨⟨i + 1, by omega, by go_num, by rw [HZ.out]; go_num, by rw [HZ.out]; omega, HR.out, by trivial⟩, by simp [intOf]; omega⟩
      · have ci' : ¬ (i : Int) < (o.os.length : Int) := by omega
        obtain rfl : i = o.os.length := by omega
        have e1 : o.os.take o.os.length = o.os := List.take_of_length_le (Nat.le_refl _)
        have e2 : optE (o.os.drop o.os.length) = 0 := by rw [List.drop_length]; rfl
        rw [e1] at hsz ⊢
        have HR : Hid (otE o = if 65535 < optSize o.os then 7 else 0) := hid (by rw [HE.out]; exact dataE_no (by rw [HOE.out, e2]))
        clear e1 e2
        generalize optSize o.os = S at *
        by_cases c4 : 65535 < S
        · have c4' : (65535 : Int) < (S : Int) := by omega
          go_wp2_with fail
          go_ret
          exact ⟨by rw [HR.out, if_pos c4]; rfl, B0.out⟩
        · have c4' : ¬ (65535 : Int) < (S : Int) := by omega
          go_wp2_with fail
          go_ret
          exact ⟨by rw [HR.out, if_neg c4]; rfl, B0.out⟩
  · have HR := hid (otE_out hin)
    unfold OtIn at hin
    by_cases n1 : o.size < 0
    · go_wp2_with fail
      go_ret
      exact ⟨by rw [HR.out]; rfl, B0.out⟩
    by_cases n2 : 65535 < o.size
    · go_wp2_with fail
      go_ret
      exact ⟨by rw [HR.out]; rfl, B0.out⟩
    by_cases n3 : o.code < 0
    · go_wp2_with fail
      go_ret
      exact ⟨by rw [HR.out]; rfl, B0.out⟩
    by_cases n4 : 255 < o.code
    · go_wp2_with fail
      go_ret
      exact ⟨by rw [HR.out]; rfl, B0.out⟩
    by_cases n5 : o.ver < 0
    · go_wp2_with fail
      go_ret
      exact ⟨by rw [HR.out]; rfl, B0.out⟩
    by_cases n6 : 255 < o.ver
    · go_wp2_with fail
      go_ret
      exact ⟨by rw [HR.out]; rfl, B0.out⟩
    by_cases n7 : o.z < 0
    · go_wp2_with fail
      go_ret
      exact ⟨by rw [HR.out]; rfl, B0.out⟩
    by_cases n8 : 32767 < o.z
    · go_wp2_with fail
      go_ret
      exact ⟨by rw [HR.out]; rfl, B0.out⟩
    omega

end Go.Proofs.YtbbgabdiikdjpaaDoor

namespace Go.Proofs.YtbbgabdiikdjpaaDoor
open Go.RowKit Go.Deep

set_option maxRecDepth 100000 in
theorem pair_drawn {x : Option Addr} {c l : Nat} (ms : List Int) (a : Nat) (v : Int) (w : World) (h : Bys w x c ms) (hl : ms.length = l) (h1 : a + 2 ≤ ms.length) (hv : ms.getD a 0 * 256 + ms.getD (a + 1) 0 = v) :
    Calls Tryd.prog 22 #[.slice x l c, .int .i64 (a : Int)] w fun e w' => e = .returned (.int .i64 v) ∧ Drawn w w' := by
  subst hl
  have hlen : ms.length ≤ 200000000000000 := h.2.1
  have g0 := getD_byte h.2.2.1 a
  have g1 := getD_byte h.2.2.1 (a + 1)
  obtain ⟨b, off, rfl, hlt, q⟩ : ∃ b off, x = some ⟨b, off, none⟩ ∧ b < w.heap.size ∧ ∀ i, i < ms.length → w.cell? ⟨b, off + i, none⟩ = some (.int .u8 (ms.getD i 0)) := by
    rcases h.2.2.2 with hd | hd
    · rw [hd] at h1; simp at h1
    · exact hd
  have q0 := q a (by omega)
  have q1 := q (a + 1) (by omega)
  have HV : Hid (ms.getD a 0 * 256 + ms.getD (a + 1) 0 = v) := hid hv
  clear q hv h
  generalize ms.getD a 0 = s at *
  generalize ms.getD (a + 1) 0 = t at *
  obtain ⟨g00, g01⟩ := g0
  obtain ⟨g10, g11⟩ := g1
  have i0 : (a : Int) < (ms.length : Int) := by omega
  have i1 : (a : Int) + 1 < (ms.length : Int) := by omega
  go_enter Tryd.func22, Tryd.ntmps22
  go_wp2
  go_quiet (fail)
  go_wp2
  go_ret
  rw [← HV.out]
  exact ⟨rfl, (Drawn.refl w).more _⟩

theorem num_two {D : List Int} {k i : Nat} (h : k + i + 2 ≤ D.length) : numN (Nm.cut (D.drop k) i 2) = D.getD (k + i) 0 * 256 + D.getD (k + i + 1) 0 := by
  unfold Nm.cut
  rw [List.drop_drop, List.drop_eq_getElem_cons (show k + i < D.length by omega), List.drop_eq_getElem_cons (show k + i + 1 < D.length by omega), List.take_succ_cons, List.take_succ_cons, List.take_zero]
  unfold numN
  simp only [List.foldl_cons, List.foldl_nil]
  rw [List.getD_eq_getElem?_getD, List.getD_eq_getElem?_getD, List.getElem?_eq_getElem (show k + i < D.length by omega), List.getElem?_eq_getElem (show k + i + 1 < D.length by omega)]
  simp only [Option.getD_some]
  omega

/-- A row of options behind B, their data in memory that was there, whatever lies between. -/
def OMid (wp : World) (B : Nat) (v : Value) (os : List On) (w : World) : Prop :=
  (∃ L : List (On × Option Addr × Nat), L.map (·.1) = os ∧ w.ownsRow B 106 2 v L.length (L.flatMap ocells) ∧ ∀ e ∈ L, Bys wp e.2.1 e.2.2 e.1.D ∧ (e.2.1 = none → e.2.2 = 0)) ∧ Below wp.heap.size wp w ∧ wp.heap.size ≤ B

theorem OMid.nil {wp w : World} {B : Nat} (h : Below wp.heap.size wp w) (hB : wp.heap.size ≤ B) : OMid wp B (.slice none 0 0) [] w := ⟨⟨[], rfl, World.ownsRow_nil _ _ _ _, fun e he => by simp at he⟩, h, hB⟩

theorem OMid.below {wp w w' : World} {B : Nat} {v : Value} {os : List On} (h : OMid wp B v os w) (k : Below w.heap.size w w') : OMid wp B v os w' := by
  obtain ⟨⟨L, a, b, c⟩, d, e⟩ := h
  exact ⟨⟨L, a, owns_stay b k, c⟩, grown_on d k, e⟩

theorem OMid.set {wp w : World} {B : Nat} {v : Value} {os : List On} (h : OMid wp B v os w) {p : Addr} (h1 : wp.heap.size ≤ p.block) (h2 : p.block < B) (u : Value) : OMid wp B v os (w.setCell p u) := by
  obtain ⟨⟨L, a, b, c⟩, d, e⟩ := h
  exact ⟨⟨L, a, owns_far b h2 u, c⟩, d.setCell h1 u, e⟩

theorem OMid.own {wp w : World} {B : Nat} {v : Value} {os : List On} (h : OMid wp B v os w) : ∀ q, v.ownBlock = some q → B ≤ q ∧ q < w.heap.size := by
  obtain ⟨⟨L, a, b, c⟩, d, e⟩ := h
  exact fun q hq => World.ownsRow.lt b q hq

theorem wp_append_omid {wp w : World} {B g cc : Nat} {v : Value} {os : List On} {r : On} {z : Option Addr} {t : Nat} {o : Oper} {a : Act} {K : Act → World → Prop} {Q : Exit → Act → World → Prop} (sl x : Operand)
    (ho : o.op = .call { callee := .builtin .append, args := #[sl, x], argTypes := #[44, 44] }) (hs : a.eval sl = v) (hx : a.eval x = .slice (some ⟨g, 0, none⟩) 1 cc) (hr : OMid wp B v os w) (hk : Bl 106 w g #[.int .i64 r.code, .slice z r.D.length t])
    (h2 : Bys wp z t r.D) (h3 : z = none → t = 0) (hl : os.length ≤ 1000000000000) (hB : B ≤ w.heap.size)
    (hK : ∀ v' w', OMid wp B v' (os ++ [r]) w' → w.grownBy w' v.ownBlock → K (a.put o.dst v') w') : o.wp Tryd.prog a w K Q := by
  obtain ⟨i0, hi, hz0, hz1, hz2⟩ := info_of_option
  have hown0 := hr.own
  obtain ⟨⟨L, hL, hown, hin⟩, hd, he⟩ := hr
  have hLl : L.length = os.length := by rw [← hL, List.length_map]
  obtain ⟨v1, w2, hrun, hown1, hgrow1, _, hloc⟩ := run_append_own_at (P := Tryd.prog) w B 44 o.type 106 i0 (.agg #[.int .i64 0, .slice none 0 0]) 2 32 Tryd.underlying44 hi hz0 hz1 hz2 rfl (by decide) v L.length (L.flatMap ocells) hown ⟨g, 0, none⟩ 1 cc [.int .i64 r.code, .slice z r.D.length t] rfl
    (fun j u hj => by
      rw [Go.WideShapes.add_plain, Nat.zero_add]
      exact hk.cell (i := j) (by rw [List.getElem?_toArray]; exact hj)) (by intro u hu; simp at hu; rcases hu with rfl | rfl <;> rfl) (by unfold maxLen; omega) (by omega) hB
  unfold Oper.wp execOp
  simp only [ho, resolve, invoke, builtin, Sem.run_bind, Sem.run_pure, Result.andThen_ok, List.map_toArray, List.map_cons, List.map_nil, hs, hx, hrun]
  refine hK v1 w2 ⟨⟨L ++ [(r, z, t)], by rw [List.map_append, hL]; rfl, ?_, fun e he => ?_⟩, hd.grown hgrow1 hd.size (fun k hk => Nat.le_trans he (hown0 k hk).1), he⟩ hgrow1
  · rw [List.length_append, List.flatMap_append, List.flatMap_cons, List.flatMap_nil, List.append_nil]
    exact hown1
  · rcases List.mem_append.1 he with he | he
    · exact hin e he
    · rw [List.mem_singleton.1 he]
      exact ⟨h2, h3⟩

theorem OMid.ops {wp w : World} {B : Nat} {v : Value} {os : List On} (h : OMid wp B v os w) (hl : os.length ≤ 5000000000000) : ∃ x c, v = .slice x os.length c ∧ Ops w 0 x c os := by
  obtain ⟨⟨L, hL, hown, hin⟩, hd, he⟩ := h
  have hLl : L.length = os.length := by rw [← hL, List.length_map]
  obtain ⟨_, h3⟩ := hown
  rcases h3 with ⟨rfl, h4⟩ | ⟨g, cap, cur, rfl, hgB, hh, hn, _, hs, ht⟩
  · have : os = [] := List.length_eq_zero_iff.1 (by omega)
    subst this
    exact ⟨none, 0, rfl, Ops.nil w 0 none 0⟩
  · refine ⟨_, cap, by rw [hLl], by omega, hl, Or.inr ⟨g, 0, rfl, ?_, Nat.zero_le _, fun i hi => ?_⟩⟩
    · rcases Nat.lt_or_ge g w.heap.size with q | q
      · exact q
      · rw [Array.getElem?_eq_none q] at hh; simp at hh
    · have hi' : i < L.length := by omega
      obtain ⟨e1, e2⟩ := ocells_at hi'
      have hoi : os[i] = L[i].1 := by simp [← hL]
      rw [hoi]
      obtain ⟨k3, k4⟩ := hin L[i] (List.getElem_mem hi')
      have ec : ∀ j, j < L.length * 2 → w.cell? ⟨g, 0 + j, none⟩ = (L.flatMap ocells)[j]? := by
        intro j hj
        rw [Nat.zero_add]
        simp only [World.cell?, hh]
        rw [← ht, List.getElem?_take, if_pos hj]
        simp
      refine ⟨L[i].2.1, L[i].2.2, ?_, ?_, k3.below hd, k4, fun a _ => Nat.zero_le _⟩
      · rw [ec _ (by omega), e1]
      · rw [show 0 + i * 2 + 1 = 0 + (i * 2 + 1) by omega, ec _ (by omega), e2]

end Go.Proofs.YtbbgabdiikdjpaaDoor

namespace Go.Proofs.YtbbgabdiikdjpaaDoor
open Go.RowKit Go.Deep

theorem results_refof (tmps : Array Value) (w : World) (b : Nat) (v0 v1 v2 v3 v4 v5 : Value) (hp : tmps.getD 2 undef = .pointer (some ⟨b, 0, none⟩)) (hb : Bl 46 w b #[v0, v1, v2, v3, v4, v5]) :
    (results Tryd.f13 tmps).run Tryd.prog w = .ok (.tuple #[.agg #[v0, v1, v2, v3, v4, v5], tmps.getD 3 undef, tmps.getD 4 undef]) w := by
  have c0 : w.cell? ⟨b, 0, none⟩ = some v0 := hb.cell (i := 0) rfl
  have c1 : w.cell? ⟨b, 1, none⟩ = some v1 := hb.cell (i := 1) rfl
  have c2 : w.cell? ⟨b, 2, none⟩ = some v2 := hb.cell (i := 2) rfl
  have c3 : w.cell? ⟨b, 3, none⟩ = some v3 := hb.cell (i := 3) rfl
  have c4 : w.cell? ⟨b, 4, none⟩ = some v4 := hb.cell (i := 4) rfl
  have c5 : w.cell? ⟨b, 5, none⟩ = some v5 := hb.cell (i := 5) rfl
  have hp' : tmps[2]?.getD undef = .pointer (some ⟨b, 0, none⟩) := by simpa using hp
  simp [results, Tryd.results13, go_sem, hp', c0, c1, c2, c3, c4, c5]

/-- What OptOf answers. -/
def OptOfP (rs : List Rn) (w : World) (e : Ending) (w' : World) : Prop :=
  (∃ k, findN rs = (k, none) ∧ e = .returned (.tuple #[.agg #[.int .i64 0, .int .i64 0, .int .i64 0, .bool false, .int .i64 0, .slice none 0 0], .bool false, .int .i64 k]) ∧ Below w.heap.size w w') ∨
  (∃ o x c, findN rs = (0, some o) ∧ e = .returned (.tuple #[.agg #[.int .i64 o.size, .int .i64 o.code, .int .i64 o.ver, .bool o.dO, .int .i64 o.z, .slice x o.os.length c], .bool true, .int .i64 0]) ∧ Ops w' 0 x c o.os ∧ Below w.heap.size w w')

/-- The one that was found among the first so many. -/
def AtTel (rs : List Rn) (i : Nat) (a : Int) : Prop := (a = -1 ∧ telR (rs.take i) = []) ∨ ∃ t, ∃ _ : t < rs.length, t < i ∧ a = (t : Int) ∧ telR (rs.take i) = [rs[t]] ∧ rs[t].ty = 41

theorem AtTel.no {rs : List Rn} {i : Nat} {a : Int} (h : AtTel rs i a) (hi : i < rs.length) (hn : ¬ rs[i].ty = 41) : AtTel rs (i + 1) a := by
  unfold AtTel at h ⊢
  rw [tel_next hi, if_neg hn]
  rcases h with h | ⟨t, ht, hti, h⟩
  · exact Or.inl h
  · exact Or.inr ⟨t, ht, by omega, h⟩

theorem AtTel.one {rs : List Rn} {i : Nat} (h : AtTel rs i (-1)) (hi : i < rs.length) (hn : rs[i].ty = 41) : AtTel rs (i + 1) (i : Int) := by
  unfold AtTel at h ⊢
  rw [tel_next hi, if_pos hn]
  rcases h with ⟨_, h⟩ | ⟨t, ht, hti, e, _⟩
  · rw [h]; exact Or.inr ⟨i, hi, by omega, rfl, rfl, hn⟩
  · omega

theorem tel_two {rs : List Rn} {i t : Nat} (h : AtTel rs i (t : Int)) (hi : i < rs.length) (hn : rs[i].ty = 41) : findN rs = (10, none) := by
  refine findN_two ?_
  have hp : telR (rs.take (i + 1)) = telR (rs.take i) ++ [rs[i]] := by rw [tel_next hi, if_pos hn]
  have hl : (telR (rs.take (i + 1))).length ≤ (telR rs).length := by
    conv => rhs; rw [← List.take_append_drop (i + 1) rs]
    unfold telR
    rw [List.filter_append, List.length_append]
    omega
  rcases h with ⟨e, _⟩ | ⟨t', ht, hti, e, q, _⟩
  · omega
  · rw [hp, q] at hl
    simp at hl
    omega

/-- Worlds in which the blocks below B stay. -/
structure OldsB (B : Nat) (w : World) where
  val : World
  keeps : Below B w val

theorem Bl.grown5 {t : TypeId} {w w' : World} {b : Nat} {C : Array Value} {row : Option Nat} (h : Bl t w b C) (g : w.grownBy w' row) (hn : some b ≠ row) : Bl t w' b C := by
  have := g.block b h.lt hn
  unfold Bl at h ⊢
  rw [this, h]

/-- The loop over the options' bytes. -/
def OfRel (w : World) (r : Rn) (ob rb s t : Nat) (y z : Option Addr) (vk : Value) (wr : World) : Prop :=
  ∃ (k : Nat) (acc : List On) (v : Value), k ≤ r.D.length ∧ vk = .int .i64 (k : Int) ∧ OState r.D (r.D.drop k) acc ∧ acc.length ≤ k ∧ OMid w (ob + 1) v acc wr ∧
    Bl 46 wr ob #[.int .i64 r.cl, .int .i64 (r.ttl / 16777216), .int .i64 (r.ttl / 65536 % 256), .bool (r.ttl / 32768 % 2 == 1), .int .i64 (r.ttl % 32768), v] ∧
    Bl 67 wr rb #[.slice y r.N.length s, .int .i64 r.ty, .int .i64 r.cl, .int .i64 r.ttl, .slice z r.D.length t] ∧
    Bl 46 wr (w.heap.size + 1) #[.int .i64 0, .int .i64 0, .int .i64 0, .bool false, .int .i64 0, .slice none 0 0] ∧ ob + 1 ≤ wr.heap.size

set_option maxHeartbeats 8000000 in
set_option maxRecDepth 100000 in
theorem refOf_any {xq x1 x2 x3 : Option Addr} {lq l1 l2 l cq c1 c2 c3 bq : Nat} (h : Hd) (rs : List Rn) (w : World) (hr : Rs w bq x3 c3 rs) (hl : rs.length = l) (hD : ∀ r ∈ rs, r.D.length ≤ 100000000) :
    Calls Tryd.prog 13 #[.agg #[.int .i64 h.id, .bool h.an, .int .i64 h.op, .bool h.aa, .bool h.tc, .bool h.rd, .bool h.ra, .bool h.z, .bool h.ad, .bool h.cd, .int .i64 h.code, .slice xq lq cq, .slice x1 l1 c1, .slice x2 l2 c2, .slice x3 l c3]] w (OptOfP rs w) := by
  subst hl
  obtain ⟨k1, k2, k3⟩ := Bl.two 28 46 w #[.int .i64 h.id, .bool h.an, .int .i64 h.op, .bool h.aa, .bool h.tc, .bool h.rd, .bool h.ra, .bool h.z, .bool h.ad, .bool h.cd, .int .i64 h.code, .slice xq lq cq, .slice x1 l1 c1, .slice x2 l2 c2, .slice x3 rs.length c3] #[.int .i64 0, .int .i64 0, .int .i64 0, .bool false, .int .i64 0, .slice none 0 0]
  have H3 := hid hr
  have HDL := hid hD
  have hlen := hr.2.1
  have hcap := hr.1
  clear hr hD
  go_enter Tryd.func13, Tryd.ntmps13
  go_upto_region 1 with fail
  generalize (w.alloc (.cells #[.int .i64 h.id, .bool h.an, .int .i64 h.op, .bool h.aa, .bool h.tc, .bool h.rd, .bool h.ra, .bool h.z, .bool h.ad, .bool h.cd, .int .i64 h.code, .slice xq lq cq, .slice x1 l1 c1, .slice x2 l2 c2, .slice x3 rs.length c3] 28)).alloc (.cells #[.int .i64 0, .int .i64 0, .int .i64 0, .bool false, .int .i64 0, .slice none 0 0] 46) = W0 at *
  have K1 := hid k1
  have K2 := hid k2
  have B0 := hid k3
  have c14 : W0.cell? ⟨w.heap.size, 14, none⟩ = some (.slice x3 rs.length c3) := k1.cell (i := 14) rfl
  have e0 := k2.cell (i := 0) rfl
  have e1 := k2.cell (i := 1) rfl
  have e2 := k2.cell (i := 2) rfl
  have e3 := k2.cell (i := 3) rfl
  have e4 := k2.cell (i := 4) rfl
  have e5 := k2.cell (i := 5) rfl
  have f0 := k2.frozen 0
  have f1 := k2.frozen 1
  have f2 := k2.frozen 2
  have f3 := k2.frozen 3
  have f4 := k2.frozen 4
  have f5 := k2.frozen 5
  clear k1 k2 k3
  go_wp2_with fail
  go_loopw [5, 6] (fun va vi wr => ∃ (i : Nat) (a : Int), i ≤ rs.length ∧ vi = .int .i64 (i : Int) ∧ va = .int .i64 a ∧ AtTel rs i a ∧ wr = W0) (fun _ vi _ => rs.length - (intOf vi).toNat)
  case atStart => exact ⟨0, -1, Nat.zero_le _, rfl, rfl, Or.inl ⟨rfl, rfl⟩, rfl⟩
  case round =>
    obtain ⟨i, a, hi, rfl, rfl, hat, rfl⟩ := hrel
    have HAT := hid hat
    clear hat
    by_cases ci : i < rs.length
    · have ci' : (i : Int) < (rs.length : Int) := by omega
      obtain ⟨b0, o0, y, s, z, t, rfl, hb0, p0, p1, p2, p3, p4, q1, q2, q3⟩ := H3.out.at ci
      have z1 := (B0.out.cell (p := ⟨b0, o0 + i * 5 + 1, none⟩) hb0).trans p1
      have NO := hid (fun q => HAT.out.no ci q)
      have TW := hid (fun (t : Nat) (q : a = (t : Int)) (u : rs[i].ty = 41) => tel_two (by rw [← q]; exact HAT.out) ci u)
      have ON := hid (fun (q : a = -1) (u : rs[i].ty = 41) => AtTel.one (by rw [← q]; exact HAT.out) ci u)
      clear p0 p1 p2 p3 p4 q1 q2 q3
      generalize rs[i].ty = ty at *
      by_cases ct : ty = 41
      · have hcases := HAT.out
        rcases hcases with ⟨rfl, _⟩ | ⟨t', ht', _, rfl, _⟩
        · have AT := hid (ON.out rfl ct)
          subst ct
          go_wp2_with fail
          exact ⟨⟨i + 1, (i : Int), by omega, by go_num, rfl, AT.out, by trivial⟩, by simp [intOf]; omega⟩
        · have FN := hid (TW.out t' rfl ct)
          have t0 : (0 : Int) ≤ (t' : Int) := by omega
          subst ct
          go_wp2_with fail
          refine bodyPost_ret (results_refof _ _ (w.heap.size + 1) _ _ _ _ _ _ rfl (Bl.put6 K2.out _ _ _ _ _ _)) rfl ?_
          exact Or.inl ⟨10, FN.out, rfl, below_put6 B0.out (by omega) _ _ _ _ _ _⟩
      · have AT := hid (NO.out ct)
        have ct' : (ty == 41) = false := by simpa using ct
        go_wp2_with fail
        exact ⟨⟨i + 1, a, by omega, by go_num, rfl, AT.out, by trivial⟩, by simp [intOf]; omega⟩
    · have ci' : ¬ (i : Int) < (rs.length : Int) := by omega
      obtain rfl : i = rs.length := by omega
      have hcases := HAT.out
      unfold AtTel at hcases
      rw [List.take_of_length_le (Nat.le_refl _)] at hcases
      rcases hcases with ⟨rfl, hte⟩ | ⟨t', ht', _, rfl, hte, hty⟩
      · have FN := hid (findN_none hte)
        clear hte
        go_wp2_with fail
        refine bodyPost_ret (results_refof _ _ (w.heap.size + 1) _ _ _ _ _ _ rfl (Bl.put6 K2.out _ _ _ _ _ _)) rfl ?_
        exact Or.inl ⟨0, FN.out, rfl, below_put6 B0.out (by omega) _ _ _ _ _ _⟩
      · clear hty
        have t0 : ¬ (t' : Int) < 0 := by omega
        have ct' : (t' : Int) < (rs.length : Int) := by omega
        obtain ⟨b0, o0, y, s, z, t, rfl, hb0, p0, p1, p2, p3, p4, q1, q2, q3⟩ := H3.out.at ht'
        have z0 := (B0.out.cell (p := ⟨b0, o0 + t' * 5, none⟩) hb0).trans p0
        have z1 := (B0.out.cell (p := ⟨b0, o0 + t' * 5 + 1, none⟩) hb0).trans p1
        have z2 := (B0.out.cell (p := ⟨b0, o0 + t' * 5 + 2, none⟩) hb0).trans p2
        have z3 := (B0.out.cell (p := ⟨b0, o0 + t' * 5 + 3, none⟩) hb0).trans p3
        have z4 := (B0.out.cell (p := ⟨b0, o0 + t' * 5 + 4, none⟩) hb0).trans p4
        have HTE := hid hte
        have Q1 := hid q1
        have Q2 := hid q2
        have Q3 := hid q3
        have HDT := hid (HDL.out _ (List.getElem_mem ht'))
        clear p0 p1 p2 p3 p4 q1 q2 q3 hte
        generalize rs[t'] = r at *
        go_upto_region 12 with fail
        have BA := (Below.refl wr.heap.size wr).alloc (Nat.le_refl _) (.cells #[.slice y r.N.length s, .int .i64 r.ty, .int .i64 r.cl, .int .i64 r.ttl, .slice z r.D.length t] 67)
        have KR := hid (Bl.new 67 wr #[.slice y r.N.length s, .int .i64 r.ty, .int .i64 r.cl, .int .i64 r.ttl, .slice z r.D.length t])
        have K2A := hid (K2.out.below BA)
        have B1 := hid (grown_on B0.out BA)
        clear z0 z1 z2 z3 z4 e0 e1 e2 e3 e4 e5 f0 f1 f2 f3 f4 f5 BA c14
        have hW : w.heap.size + 1 < wr.heap.size := K2.out.lt
        generalize wr.alloc (.cells #[.slice y r.N.length s, .int .i64 r.ty, .int .i64 r.cl, .int .i64 r.ttl, .slice z r.D.length t] 67) = W1 at *
        generalize wr.heap.size = rb at *
        have m0 := KR.out.cell (i := 0) rfl
        have m2 := KR.out.cell (i := 2) rfl
        have m3 := KR.out.cell (i := 3) rfl
        have m4 := KR.out.cell (i := 4) rfl
        by_cases hin : RecIn r
        · obtain ⟨i1, ⟨i2, i3⟩, ⟨i4, i5⟩⟩ := hin
          have n1 : r.N.length = 0 := by rw [i1]; rfl
          have n2 : ¬ r.cl < 0 := by omega
          have n3 : ¬ 65535 < r.cl := by omega
          have n4 : ¬ r.ttl < 0 := by omega
          have n5 : ¬ 4294967295 < r.ttl := by omega
          have HIN : Hid (RecIn r) := hid ⟨i1, ⟨i2, i3⟩, ⟨i4, i5⟩⟩
          rw [n1] at m0
          go_upto_region 15 with fail
          have hW1 : rb < W1.heap.size := KR.out.lt
          have BO := (Below.refl W1.heap.size W1).alloc (Nat.le_refl _) (.cells #[.int .i64 r.cl, .int .i64 (r.ttl / 16777216), .int .i64 (r.ttl / 65536 % 256), .bool (r.ttl / 32768 % 2 == 1), .int .i64 (r.ttl % 32768), .slice none 0 0] 46)
          have KO := hid (Bl.new 46 W1 #[.int .i64 r.cl, .int .i64 (r.ttl / 16777216), .int .i64 (r.ttl / 65536 % 256), .bool (r.ttl / 32768 % 2 == 1), .int .i64 (r.ttl % 32768), .slice none 0 0])
          have KR2 := hid (KR.out.below BO)
          have KZ2 := hid (K2A.out.below BO)
          have B2 := hid (grown_on B1.out BO)
          have hsz : (W1.alloc (.cells #[.int .i64 r.cl, .int .i64 (r.ttl / 16777216), .int .i64 (r.ttl / 65536 % 256), .bool (r.ttl / 32768 % 2 == 1), .int .i64 (r.ttl % 32768), .slice none 0 0] 46)).heap.size = W1.heap.size + 1 := by simp
          have hrb : w.heap.size + 1 < rb := hW
          clear m0 m2 m3 m4 BO K2A B1 KR n1 n2 n3 n4 n5 i1 i2 i3 i4 i5 K2 B0 hW
          generalize W1.alloc (.cells #[.int .i64 r.cl, .int .i64 (r.ttl / 16777216), .int .i64 (r.ttl / 65536 % 256), .bool (r.ttl / 32768 % 2 == 1), .int .i64 (r.ttl % 32768), .slice none 0 0] 46) = W2 at *
          generalize W1.heap.size = ob at *
          have OM0 := hid (OMid.nil (B := ob + 1) B2.out (by omega))
          have HLD : r.D.length ≤ 100000000 := HDT.out
          go_wp2_with fail
          go_loopw [9] (fun vk wr => OfRel w r ob rb s t y z vk wr) (fun vk _ => r.D.length - (intOf vk).toNat)
          case atStart => exact ⟨0, [], .slice none 0 0, Nat.zero_le _, rfl, by rw [List.drop_zero]; exact ostate_start _, Nat.le_refl _, OM0.out, KO.out, KR2.out, KZ2.out, by omega⟩
          case round =>
            clear OM0 KO KR2 KZ2 B2 hsz
            obtain ⟨k, acc, v, hk, rfl, hst, hal, hom, hko, hkr, hkz, hBw⟩ := hrel
            have HST := hid hst
            have OM := hid hom
            have KO := hid hko
            have KR := hid hkr
            have KZ := hid hkz
            have m4 := hkr.cell (i := 4) rfl
            clear hst hom hko hkr hkz
            by_cases ck : k < r.D.length
            · have ck' : (k : Int) < (r.D.length : Int) := by omega
              have hne : r.D.drop k ≠ [] := fun q => by have := congrArg List.length q; rw [List.length_drop] at this; simp at this; omega
              have hdl : (r.D.drop k).length = r.D.length - k := List.length_drop
              by_cases c1 : r.D.length < k + 4
              · have i1 : (r.D.length : Int) < (k : Int) + 4 := by omega
                have FN := hid (findN_bad HTE.out (recO_torn (ostate_short HST.out hne (by omega))))
                clear hne hdl
                go_wp2
                go_quiet (fail)
                have BD : Below wr.heap.size wr (wr.drewN nq) := ((Drawn.refl _).more nq).below _
                have OM5 := hid (OM.out.below BD)
                have KO5 := hid (KO.out.below BD)
                have KR5 := hid (KR.out.below BD)
                have KZ5 := hid (KZ.out.below BD)
                have hB5 : ob + 1 ≤ (wr.drewN nq).heap.size := hBw
                clear BD m4 OM KO KR KZ
                generalize wr.drewN nq = w5 at *
                have e0 := KZ5.out.cell (i := 0) rfl
                have e1 := KZ5.out.cell (i := 1) rfl
                have e2 := KZ5.out.cell (i := 2) rfl
                have e3 := KZ5.out.cell (i := 3) rfl
                have e4 := KZ5.out.cell (i := 4) rfl
                have e5 := KZ5.out.cell (i := 5) rfl
                have f0 := KZ5.out.frozen 0
                have f1 := KZ5.out.frozen 1
                have f2 := KZ5.out.frozen 2
                have f3 := KZ5.out.frozen 3
                have f4 := KZ5.out.frozen 4
                have f5 := KZ5.out.frozen 5
                go_wp2_with fail
                refine bodyPost_ret (results_refof _ _ (w.heap.size + 1) _ _ _ _ _ _ rfl (Bl.put6 KZ5.out _ _ _ _ _ _)) rfl ?_
                exact Or.inl ⟨1, FN.out, rfl, below_put6 OM5.out.2.1 (by omega) _ _ _ _ _ _⟩
              · have j1 : decide ((r.D.length : Int) < (k : Int) + 4) = false := decide_eq_false (by omega)
                have hby : ∀ x ∈ r.D.drop k, 0 ≤ x ∧ x ≤ 255 := fun x hx => Q2.out.2.2.1 x (List.mem_of_mem_drop hx)
                obtain ⟨n1, n2⟩ := num_cut_two hby (i := 2) (by omega)
                obtain ⟨N, hN⟩ : ∃ N : Nat, (numN (Nm.cut (r.D.drop k) 2 2)).toNat = N := ⟨_, rfl⟩
                have hN2 : numN (Nm.cut (r.D.drop k) 2 2) = (N : Int) := by omega
                have hNb : N ≤ 65535 := by omega
                have hv := num_two (D := r.D) (k := k) (i := 2) (by omega)
                rw [hN2] at hv
                have CP : Hid (∀ u, Drawn wr u → Calls Tryd.prog 22 #[.slice z r.D.length t, .int .i64 ((k : Int) + 2)] u fun e u' => e = .returned (.int .i64 (N : Int)) ∧ Drawn u u') := hid (fun u hu => by
                  have := pair_drawn r.D (k + 2) (N : Int) u ((Q2.out.below OM.out.2.1).below (hu.below _)) rfl (by omega) hv.symm
                  rwa [show (((k + 2 : Nat) : Int)) = (k : Int) + 2 by omega] at this)
                clear hby n1 n2 hN2 hv
                by_cases c2 : r.D.length < k + 4 + N
                · have j2 : decide ((r.D.length : Int) < (k : Int) + 4 + (N : Int)) = true := decide_eq_true (by omega)
                  have FN := hid (findN_bad HTE.out (recO_torn (ostate_torn HST.out hne (by omega) hN (by omega))))
                  clear hne hdl hN
                  go_wp2
                  go_quiet ((go_at_call 22; exact Calls.quiet_of (CP.out _ ⟨_, rfl⟩)))
                  clear CP
                  have BD : Below wr.heap.size wr (wr.drewN nq) := ((Drawn.refl _).more nq).below _
                  have OM5 := hid (OM.out.below BD)
                  have KO5 := hid (KO.out.below BD)
                  have KR5 := hid (KR.out.below BD)
                  have KZ5 := hid (KZ.out.below BD)
                  have hB5 : ob + 1 ≤ (wr.drewN nq).heap.size := hBw
                  clear BD m4 OM KO KR KZ
                  generalize wr.drewN nq = w5 at *
                  have e0 := KZ5.out.cell (i := 0) rfl
                  have e1 := KZ5.out.cell (i := 1) rfl
                  have e2 := KZ5.out.cell (i := 2) rfl
                  have e3 := KZ5.out.cell (i := 3) rfl
                  have e4 := KZ5.out.cell (i := 4) rfl
                  have e5 := KZ5.out.cell (i := 5) rfl
                  have f0 := KZ5.out.frozen 0
                  have f1 := KZ5.out.frozen 1
                  have f2 := KZ5.out.frozen 2
                  have f3 := KZ5.out.frozen 3
                  have f4 := KZ5.out.frozen 4
                  have f5 := KZ5.out.frozen 5
                  go_wp2_with fail
                  refine bodyPost_ret (results_refof _ _ (w.heap.size + 1) _ _ _ _ _ _ rfl (Bl.put6 KZ5.out _ _ _ _ _ _)) rfl ?_
                  exact Or.inl ⟨1, FN.out, rfl, below_put6 OM5.out.2.1 (by omega) _ _ _ _ _ _⟩
                · have j2 : decide ((r.D.length : Int) < (k : Int) + 4 + (N : Int)) = false := decide_eq_false (by omega)
                  have HNX := hid (ostate_next HST.out hne (by omega) hN (by omega))
                  have HDD : Hid ((r.D.drop k).drop (4 + N) = r.D.drop (k + (4 + N))) := hid (by rw [List.drop_drop])
                  clear hne hdl hN
                  go_wp2
                  go_quiet ((go_at_call 22; exact Calls.quiet_of (CP.out _ ⟨_, rfl⟩)))
                  have CP5 := hid (fun u (hu : Drawn (wr.drewN nq) u) => CP.out u (((Drawn.refl wr).more nq).trans hu))
                  clear CP
                  have BD : Below wr.heap.size wr (wr.drewN nq) := ((Drawn.refl _).more nq).below _
                  have OM5 := hid (OM.out.below BD)
                  have KO5 := hid (KO.out.below BD)
                  have KR5 := hid (KR.out.below BD)
                  have KZ5 := hid (KZ.out.below BD)
                  have hB5 : ob + 1 ≤ (wr.drewN nq).heap.size := hBw
                  clear BD m4 OM KO KR KZ
                  generalize wr.drewN nq = w5 at *
                  have m4 := KR5.out.cell (i := 4) rfl
                  go_wp2_with fail
                  refine (CP5.out w5 (Drawn.refl _)).mono ?_
                  rintro e w6 ⟨rfl, d6⟩
                  have BD := d6.below w5.heap.size
                  have OM6 := hid (OM5.out.below BD)
                  have KO6 := hid (KO5.out.below BD)
                  have KR6 := hid (KR5.out.below BD)
                  have KZ6 := hid (KZ5.out.below BD)
                  have hB6 : ob + 1 ≤ w6.heap.size := Nat.le_trans hB5 BD.size
                  clear BD m4 OM5 KO5 KR5 KZ5 CP5 d6
                  go_upto_region 20 with fail
                  have hne2 : ¬ r.D = [] := fun q => by rw [q] at ck; simp at ck
                  obtain ⟨zb, zo, rfl, hzl, hzq⟩ : ∃ b off, z = some ⟨b, off, none⟩ ∧ b < w.heap.size ∧ ∀ i, i < r.D.length → w.cell? ⟨b, off + i, none⟩ = some (.int .u8 (r.D.getD i 0)) := by
                    rcases Q2.out.2.2.2 with q | q
                    · exact absurd q hne2
                    · exact q
                  have hzc : r.D.length ≤ t := Q2.out.1
                  have DS : Hid (∃ ad, (if t = k + 4 then some (⟨zb, zo, none⟩ : Addr) else some ⟨zb, zo + (k + 4), none⟩) = some ad ∧ Bys w (some ad) (t - (k + 4)) (Nm.cut (r.D.drop k) 4 N)) := hid (by
                    have hc := bys_sub hzl hzc (by omega) Q2.out.2.2.1 hzq (k + 4) N (by omega)
                    have ec : Nm.cut r.D (k + 4) N = Nm.cut (r.D.drop k) 4 N := by unfold Nm.cut; rw [List.drop_drop]
                    rw [ec] at hc
                    by_cases c4 : t = k + 4
                    · refine ⟨_, if_pos c4, ?_⟩
                      have : N = 0 := by omega
                      subst this
                      have e0 : Nm.cut (r.D.drop k) 4 0 = [] := by simp [Nm.cut]
                      rw [e0]
                      exact Bys.nil w _ _
                    · exact ⟨_, if_neg c4, hc⟩)
                  have j3 : (k : Int) + 4 ≤ (t : Int) := by omega
                  have j4 : (k : Int) + 4 + (N : Int) ≤ (t : Int) := by omega
                  have j5 : (k : Int) + 4 ≤ (k : Int) + 4 + (N : Int) := by omega
                  have h5 : ∀ s' : OldsB (ob + 1) w6, s'.val.cell? ⟨ob, 5, none⟩ = some v := fun s' => (KO6.out.under (Nat.lt_succ_self _) s'.keeps).cell (i := 5) rfl
                  have h4 : ∀ s' : OldsB (ob + 1) w6, s'.val.cell? ⟨rb, 4, none⟩ = some (.slice (some ⟨zb, zo, none⟩) r.D.length t) := fun s' => (KR6.out.under (by omega) s'.keeps).cell (i := 4) rfl
                  have hNe : Nonempty (OldsB (ob + 1) w6) := ⟨⟨w6, Below.refl _ _⟩⟩
                  have CP0 := hid (fun (u : World) (hu : Below w6.heap.size w6 u) => pair_drawn r.D k (numN (Nm.cut (r.D.drop k) 0 2)) u ((Q2.out.below OM6.out.2.1).below hu) rfl (by omega) (by have := num_two (D := r.D) (k := k) (i := 0) (by omega); rw [Nat.add_zero] at this; exact this.symm))
                  have f5 := KO6.out.frozen 5
                  refine wp_region_fork [0, 1, 2, 3, 4, 6, 7, 8, 9, 10, 11, 12, 13, 14] (.one 5 (.one 15 (.one 16 (.one 17 (.one 18 (.one 19 .nil)))))) (fun u => ∃ s' : OldsB (ob + 1) w6, u = s'.val) (by kernel_rfl) (by kernel_rfl) (by kernel_rfl) ⟨⟨w6.drew, (Below.refl _ _).drew⟩, rfl⟩ ?_
                  change wpQuiet _ _ _ _ [_, _, _, _, _, _, _, _, _, _, _, _, _, _] _
                  repeat (go_big_quiet_step (fail))
                  refine wpQuiet_nil ?_
                  clear h5 h4 hNe
                  obtain ⟨ad, had, hbs⟩ := DS.out
                  rw [had]
                  have HBS := hid hbs
                  have HCL : Hid ((Nm.cut (r.D.drop k) 4 N).length = N) := hid (Nm.cut_length (by rw [List.length_drop]; omega))
                  have HB := (Below.refl w6.heap.size w6).drew
                  have hO6 : ob < w6.heap.size := by omega
                  have hrb1 : rb < ob + 1 := by omega
                  clear hbs had
                  change stepL _ _ _ _ _ _ _ _ _
                  refine stepL_at (by rfl) fun K Q' hK => ?_
                  go_simp
                  refine (CP0.out _ HB).mono ?_
                  rintro e w7 ⟨rfl, d7⟩
                  replace HB := HB.trans ((d7.below _).mono HB.size)
                  refine hK _ _ (fun _ => ⟨⟨_, HB.mono hB6⟩, rfl⟩) ?_
                  clear hK d7
                  change stepL _ _ _ _ _ _ _ _ _
                  refine stepL_at (by rfl) fun K Q' hK => ?_
                  go_simp
                  refine hK _ _ (fun _ => ⟨⟨_, HB.mono hB6⟩, rfl⟩) ?_
                  clear hK
                  change stepL _ _ _ _ _ _ _ _ _
                  refine stepL_at (by rfl) fun K Q' hK => ?_
                  go_simp
                  have BW := HB.alloc HB.size (.cells #[.int .i64 (numN (Nm.cut (r.D.drop k) 0 2)), .slice (some ad) N (t - (k + 4))] 106)
                  have hkb : Bl 106 (w7.alloc (.cells #[.int .i64 (numN (Nm.cut (r.D.drop k) 0 2)), .slice (some ad) N (t - (k + 4))] 106)) w7.heap.size #[.int .i64 (numN (Nm.cut (r.D.drop k) 0 2)), .slice (some ad) (Nm.cut (r.D.drop k) 4 N).length (t - (k + 4))] := by
                    rw [HCL.out]; exact Bl.new 106 w7 _
                  refine hK _ _ (fun _ => ⟨⟨_, BW.mono hB6⟩, rfl⟩) ?_
                  clear hK
                  change stepL _ _ _ _ _ _ _ _ _
                  refine stepL_at (by rfl) fun K Q' hK => ?_
                  have OM7 := hid (OM6.out.below BW)
                  have KO7 := hid (KO6.out.below BW)
                  have KR7 := hid (KR6.out.below BW)
                  have KZ7 := hid (KZ6.out.below BW)
                  have hB7 : ob + 1 ≤ (w7.alloc (.cells #[.int .i64 (numN (Nm.cut (r.D.drop k) 0 2)), .slice (some ad) N (t - (k + 4))] 106)).heap.size := Nat.le_trans hB6 BW.size
                  refine wp_append_omid (wp := w) (B := ob + 1) (g := w7.heap.size) (cc := 1) (os := acc) (r := ⟨numN (Nm.cut (r.D.drop k) 0 2), Nm.cut (r.D.drop k) 4 N⟩) (z := some ad) (t := t - (k + 4)) (.tmp 112) (.tmp 127) rfl rfl rfl OM7.out hkb HBS.out (fun q => by cases q) (by omega) hB7 ?_
                  intro v8 w8 om8 g8
                  have hq : ∀ b, b < ob + 1 → some b ≠ v.ownBlock := fun b hb q => by have := (OM7.out.own _ q.symm).1; omega
                  have OM8 := hid om8
                  have KO8 := hid (KO7.out.grown5 g8 (hq _ (Nat.lt_succ_self _)))
                  have KR8 := hid (KR7.out.grown5 g8 (hq _ hrb1))
                  have KZ8 := hid (KZ7.out.grown5 g8 (hq _ (by omega)))
                  have hB8 : ob + 1 ≤ w8.heap.size := Nat.le_trans hB7 g8.size
                  have HB8 : Below (ob + 1) w6 w8 := (BW.mono hB6).grown g8 hB7 (fun b q => (OM7.out.own b q).1)
                  refine hK _ _ (fun _ => ⟨⟨_, HB8⟩, rfl⟩) ?_
                  clear hK om8 g8 hkb BW HB OM7 KO7 KR7 KZ7
                  change stepL _ _ _ _ _ _ _ _ _
                  refine stepL_at (by rfl) fun K Q' hK => ?_
                  go_simp
                  refine hK _ _ (fun _ => ⟨⟨_, HB8⟩, rfl⟩) ?_
                  clear hK HB8
                  obtain ⟨x8, c8, e8, _⟩ := OM8.out.ops (by rw [List.length_append, List.length_singleton]; omega)
                  obtain ⟨l8, hl8⟩ : ∃ l8, (acc ++ [(⟨numN (Nm.cut (r.D.drop k) 0 2), Nm.cut (r.D.drop k) 4 N⟩ : On)]).length = l8 := ⟨_, rfl⟩
                  rw [hl8] at e8
                  subst e8
                  clear hl8
                  have f5 := KO8.out.frozen 5
                  have c5 := KO8.out.cell (i := 5) rfl
                  have OM9 := hid (OM8.out.set (p := ⟨ob, 5, none⟩) (by simp only; omega) (Nat.lt_succ_self _) (.slice x8 l8 c8))
                  have KO9 : Hid (Bl 46 (w8.setCell ⟨ob, 5, none⟩ (.slice x8 l8 c8)) ob #[.int .i64 r.cl, .int .i64 (r.ttl / 16777216), .int .i64 (r.ttl / 65536 % 256), .bool (r.ttl / 32768 % 2 == 1), .int .i64 (r.ttl % 32768), .slice x8 l8 c8]) := hid (KO8.out.set 5 _)
                  have KR9 := hid (KR8.out.far (p := ⟨ob, 5, none⟩) (by simp only; omega) (.slice x8 l8 c8))
                  have KZ9 := hid (KZ8.out.far (p := ⟨ob, 5, none⟩) (by simp only; omega) (.slice x8 l8 c8))
                  have hB9 : ob + 1 ≤ (w8.setCell ⟨ob, 5, none⟩ (.slice x8 l8 c8)).heap.size := by simpa [World.setCell] using hB8
                  change stepL _ _ _ _ _ _ _ _ _
                  refine stepL_at (by rfl) fun K Q' hK => ?_
                  go_simp
                  refine hK _ _ (fun q => absurd q (by decide)) ?_
                  clear hK f5 c5 OM8 KO8 KR8 KZ8
                  refine treeL_nil ?_
                  generalize w8.setCell ⟨ob, 5, none⟩ (.slice x8 l8 c8) = w9 at *
                  go_wp2_with fail
                  refine ⟨⟨k + (4 + N), acc ++ [⟨numN (Nm.cut (r.D.drop k) 0 2), Nm.cut (r.D.drop k) 4 N⟩], .slice x8 l8 c8, by omega, by go_num, by rw [← HDD.out]; exact HNX.out, by rw [List.length_append, List.length_singleton]; omega, OM9.out, KO9.out, KR9.out, KZ9.out, hB9⟩, by simp [intOf]; omega⟩
            · have ck' : ¬ (k : Int) < (r.D.length : Int) := by omega
              obtain rfl : k = r.D.length := by omega
              rw [List.drop_length] at HST
              have hp := ostate_done HST.out
              obtain ⟨vx, vc, rfl, hop⟩ := OM.out.ops (by omega)
              have FN : Hid (findN rs = (0, some ⟨r.cl, r.ttl / 16777216, r.ttl / 65536 % 256, decide (r.ttl / 32768 % 2 = 1), r.ttl % 32768, acc⟩)) := hid (findN_good HTE.out (recO_good HIN.out hp))
              have HOP := hid hop
              have n0 := KO.out.cell (i := 0) rfl
              have n1 := KO.out.cell (i := 1) rfl
              have n2 := KO.out.cell (i := 2) rfl
              have n3 := KO.out.cell (i := 3) rfl
              have n4 := KO.out.cell (i := 4) rfl
              have n5 := KO.out.cell (i := 5) rfl
              have e0 := KZ.out.cell (i := 0) rfl
              have e1 := KZ.out.cell (i := 1) rfl
              have e2 := KZ.out.cell (i := 2) rfl
              have e3 := KZ.out.cell (i := 3) rfl
              have e4 := KZ.out.cell (i := 4) rfl
              have e5 := KZ.out.cell (i := 5) rfl
              have f0 := KZ.out.frozen 0
              have f1 := KZ.out.frozen 1
              have f2 := KZ.out.frozen 2
              have f3 := KZ.out.frozen 3
              have f4 := KZ.out.frozen 4
              have f5 := KZ.out.frozen 5
              clear hp hop
              go_wp2_with fail
              refine bodyPost_ret (results_refof _ _ (w.heap.size + 1) _ _ _ _ _ _ rfl (Bl.put6 KZ.out _ _ _ _ _ _)) rfl ?_
              have hs1 : w.heap.size + 1 < ob + 1 := by omega
              obtain ⟨x5, c5, e5', R5⟩ := OMid.ops ((((((OM.out.set (p := ⟨w.heap.size + 1, 0, none⟩) (Nat.le_succ _) hs1 (.int .i64 r.cl)).set (p := ⟨w.heap.size + 1, 1, none⟩) (Nat.le_succ _) hs1 (.int .i64 (r.ttl / 16777216))).set (p := ⟨w.heap.size + 1, 2, none⟩) (Nat.le_succ _) hs1 (.int .i64 (r.ttl / 65536 % 256))).set (p := ⟨w.heap.size + 1, 3, none⟩) (Nat.le_succ _) hs1 (.bool (r.ttl / 32768 % 2 == 1))).set (p := ⟨w.heap.size + 1, 4, none⟩) (Nat.le_succ _) hs1 (.int .i64 (r.ttl % 32768))).set (p := ⟨w.heap.size + 1, 5, none⟩) (Nat.le_succ _) hs1 (.slice vx acc.length vc)) (show acc.length ≤ 5000000000000 by omega)
              simp only [Value.slice.injEq, true_and] at e5'
              obtain ⟨rfl, rfl⟩ := e5'
              exact Or.inr ⟨_, vx, vc, FN.out, rfl, R5, below_put6 OM.out.2.1 (Nat.le_succ _) _ _ _ _ _ _⟩
        · have FN : Hid (findN rs = (1, none)) := hid (by unfold findN; rw [HTE.out]; simp only; rw [recO_out hin])
          have e0 := K2A.out.cell (i := 0) rfl
          have e1 := K2A.out.cell (i := 1) rfl
          have e2 := K2A.out.cell (i := 2) rfl
          have e3 := K2A.out.cell (i := 3) rfl
          have e4 := K2A.out.cell (i := 4) rfl
          have e5 := K2A.out.cell (i := 5) rfl
          have f0 := K2A.out.frozen 0
          have f1 := K2A.out.frozen 1
          have f2 := K2A.out.frozen 2
          have f3 := K2A.out.frozen 3
          have f4 := K2A.out.frozen 4
          have f5 := K2A.out.frozen 5
          unfold RecIn at hin
          by_cases n1 : 0 < r.N.length
          · have n1' : (0 : Int) < (r.N.length : Int) := by omega
            go_wp2_with fail
            refine bodyPost_ret (results_refof _ _ (w.heap.size + 1) _ _ _ _ _ _ rfl (Bl.put6 K2A.out _ _ _ _ _ _)) rfl ?_
            exact Or.inl ⟨1, FN.out, rfl, below_put6 B1.out (by omega) _ _ _ _ _ _⟩
          have n0 : r.N = [] := List.length_eq_zero_iff.1 (by omega)
          have n1' : ¬ (0 : Int) < (r.N.length : Int) := by omega
          by_cases n2 : r.cl < 0
          · go_wp2_with fail
            refine bodyPost_ret (results_refof _ _ (w.heap.size + 1) _ _ _ _ _ _ rfl (Bl.put6 K2A.out _ _ _ _ _ _)) rfl ?_
            exact Or.inl ⟨1, FN.out, rfl, below_put6 B1.out (by omega) _ _ _ _ _ _⟩
          by_cases n3 : 65535 < r.cl
          · go_wp2_with fail
            refine bodyPost_ret (results_refof _ _ (w.heap.size + 1) _ _ _ _ _ _ rfl (Bl.put6 K2A.out _ _ _ _ _ _)) rfl ?_
            exact Or.inl ⟨1, FN.out, rfl, below_put6 B1.out (by omega) _ _ _ _ _ _⟩
          by_cases n4 : r.ttl < 0
          · go_wp2_with fail
            refine bodyPost_ret (results_refof _ _ (w.heap.size + 1) _ _ _ _ _ _ rfl (Bl.put6 K2A.out _ _ _ _ _ _)) rfl ?_
            exact Or.inl ⟨1, FN.out, rfl, below_put6 B1.out (by omega) _ _ _ _ _ _⟩
          by_cases n5 : 4294967295 < r.ttl
          · go_wp2_with fail
            refine bodyPost_ret (results_refof _ _ (w.heap.size + 1) _ _ _ _ _ _ rfl (Bl.put6 K2A.out _ _ _ _ _ _)) rfl ?_
            exact Or.inl ⟨1, FN.out, rfl, below_put6 B1.out (by omega) _ _ _ _ _ _⟩
          exact absurd ⟨n0, ⟨by omega, by omega⟩, ⟨by omega, by omega⟩⟩ hin

end Go.Proofs.YtbbgabdiikdjpaaDoor

namespace Go.Proofs.YtbbgabdiikdjpaaDoor
open Go.RowKit Go.Deep

set_option maxRecDepth 100000 in
/-- A pair of bytes, in new memory. -/
theorem tpair_any (n : Int) (w : World) (h0 : 0 ≤ n) (h1 : n ≤ 65535) :
    Calls Tryd.prog 49 #[.int .i64 n] w fun e w' => e = .returned (.slice (some ⟨w.heap.size, 0, none⟩) 2 2) ∧ Bys w' (some ⟨w.heap.size, 0, none⟩) 2 (twoN n) ∧ Below w.heap.size w w' := by
  have e1 : n / 256 = n / 256 % 256 := by omega
  have hb : ∀ b ∈ twoN n, 0 ≤ b ∧ b ≤ 255 := two_bytes n
  have K : Hid (Bys (w.alloc (.cells #[.int .u8 (n / 256), .int .u8 (n % 256)] 5)) (some ⟨w.heap.size, 0, none⟩) 2 (twoN n)) := hid (by
    have := bys_new w (twoN n) hb (by simp [twoN])
    simpa [twoN, ← e1] using this)
  clear hb e1
  go_enter Tryd.func49, Tryd.ntmps49
  go_wp2_with fail
  go_ret
  exact ⟨rfl, K.out, (Below.refl _ w).alloc (Nat.le_refl _) _⟩

/-- Bytes appended to a row of the call's own, as a step of a region that draws. -/
theorem wp_append_bys {w : World} {B : Nat} {v : Value} {xs ys : List Int} {y : Option Addr} {c : Nat} {o : Oper} {a : Act} {K : Act → World → Prop} {Q : Exit → Act → World → Prop} (sl x : Operand)
    (ho : o.op = .call { callee := .builtin .append, args := #[sl, x], argTypes := #[22, 22] }) (hs : a.eval sl = v) (hx : a.eval x = .slice y ys.length c) (hr : Rowb w B v xs) (hy : Bys w y c ys) (hl : xs.length + ys.length ≤ 100000000000000) (hB : B ≤ w.heap.size)
    (hK : ∀ v' w', Rowb w' B v' (xs ++ ys) → w.grownBy w' v.ownBlock → K (a.put o.dst v') w') : o.wp Tryd.prog a w K Q := by
  obtain ⟨i0, hi, hz0, hz1, hz2⟩ := info_of_byte
  cases y with
  | none =>
    have hn : ys = [] := by
      rcases hy.2.2.2 with q | ⟨b, off, q, _⟩
      · exact q
      · cases q
    subst hn
    have hv : ∃ base cap, v = .slice base xs.length cap ∧ xs.length ≤ cap := by
      rcases hr.2 with ⟨e, e2⟩ | ⟨g, cap, cur, e, _, _, hn, _⟩
      · exact ⟨none, 0, by rw [e, e2], by omega⟩
      · exact ⟨_, cap, e, hn⟩
    obtain ⟨base, cap, rfl, hle⟩ := hv
    have hrun := run_append_nothing (P := Tryd.prog) w 22 22 o.type 5 i0 Tryd.underlying22 hi base xs.length cap hle _ (Src.ofNil w Tryd.underlying22 c)
    simp only [List.length_nil] at hx
    unfold Oper.wp execOp
    simp only [ho, resolve, invoke, builtin, Sem.run_bind, Sem.run_pure, Result.andThen_ok, List.map_toArray, List.map_cons, List.map_nil, hs, hx, hrun]
    exact hK _ w (by rw [List.append_nil]; exact hr) ⟨rfl, rfl, rfl, Nat.le_refl _, fun k _ _ => rfl⟩
  | some ad =>
    have hq : ∀ j u, (ys.map (Value.int .u8))[j]? = some u → w.cell? (ad.add j) = some u := by
      rcases hy.2.2.2 with q | ⟨b, off, q, _, q2⟩
      · subst q; simp
      · cases q; exact bys_news q2
    obtain ⟨v', w1, hrun, hown, hg, _⟩ := run_append_own_at (P := Tryd.prog) w B 22 o.type 5 i0 (.int .u8 0) 1 1 Tryd.underlying22 hi hz0 hz1 hz2 rfl (by decide) v _ _ hr ad ys.length c (ys.map (Value.int .u8)) (by simp) hq (one_cells ys) (by unfold maxLen; omega) (by omega) hB
    unfold Oper.wp execOp
    simp only [ho, resolve, invoke, builtin, Sem.run_bind, Sem.run_pure, Result.andThen_ok, List.map_toArray, List.map_cons, List.map_nil, hs, hx, hrun]
    exact hK v' w1 (Rowb.of hown (by simp) (by simp)) hg

theorem Bl.rowSet {t : TypeId} {w : World} {b : Nat} {C : Array Value} (h : Bl t w b C) (C' : Array Value) : Bl t (w.setRow b C') b C' := setRow_heap w b C C' t _ h

theorem Bl.rowOff {t : TypeId} {w : World} {b g : Nat} {C : Array Value} (h : Bl t w b C) (hg : b ≠ g) (C' : Array Value) : Bl t (w.setRow g C') b C := by
  unfold Bl at h ⊢
  rw [setRow_other w g b C' hg, h]

theorem grown_row (w : World) (g : Nat) (C : Array Value) : w.grownBy (w.setRow g C) (some g) := ⟨rfl, rfl, rfl, by simp, fun k _ hk => setRow_other w g k C (fun e => hk (by rw [e]))⟩

theorem GMid.toP {wp w : World} {B : Nat} {v : Value} {rs : List Rn} (h : GMid wp B v rs w) (P : Nat → Prop) (hP : ∀ k, k < wp.heap.size → P k) : RRowP w 0 P v rs := by
  obtain ⟨⟨L, a, b, c⟩, d, e⟩ := h
  have hne : ∀ k, k < wp.heap.size → some k ≠ v.ownBlock := fun k hk q => by have := (World.ownsRow.lt b k q.symm).1; omega
  refine ⟨L, a, owns_base5 b (Nat.zero_le _), fun x hx => ?_⟩
  obtain ⟨k1, k2, k3⟩ := c x hx
  exact ⟨⟨k1.below d, fun p hp => ⟨Nat.zero_le _, (strs_lt k1 hp).imp_right (fun l => ⟨hP _ l, hne _ l⟩)⟩⟩, k2.below d, k3, fun p hp => ⟨Nat.zero_le _, (bys_lt k2 hp).imp_right (fun l => ⟨hP _ l, hne _ l⟩)⟩⟩

theorem res_mid {fn : Func} {p : Tmp} {ty : TypeId} (h : fn.results = #[.cell p ty]) (tmps : Array Value) (P : Program) (w : World) :
    (results fn tmps).run P w = ((asAddr (tmps.getD p undef)).run P w).andThen fun a w₁ => (loadVar ty a).run P w₁ := by
  simp only [results, h]
  simp [Sem.run_bind, Result.andThen]

theorem results_telling (tmps : Array Value) (w : World) (b : Nat) (L : List Value) (hl : L.length = 15) (hp : tmps.getD 4 undef = .pointer (some ⟨b, 0, none⟩)) (hb : Bl 28 w b L.toArray) :
    (results Tryd.f19 tmps).run Tryd.prog w = .ok (.agg L.toArray) w := by
  have h2 := run_loadVar_mid (P := Tryd.prog) w b 0 28 L _ (Bl.range L hb) Tryd.underlying28 rfl (by rw [hl]; exact size_message)
  rw [res_mid Tryd.results19, hp]
  simp only [asAddr, Sem.run_pure, Result.andThen_ok, h2]

theorem RRowP.weak {w : World} {B : Nat} {P P' : Nat → Prop} {v : Value} {rs : List Rn} (h : RRowP w B P v rs) (hP : ∀ k, P k → P' k) : RRowP w B P' v rs := by
  obtain ⟨L, h1, h2, h3⟩ := h
  exact ⟨L, h1, h2, fun e he => ⟨⟨(h3 e he).1.1, fun a ha => ⟨((h3 e he).1.2 a ha).1, ((h3 e he).1.2 a ha).2.imp_right (fun q => ⟨hP _ q.1, q.2⟩)⟩⟩, (h3 e he).2.1, (h3 e he).2.2.1, fun a ha => ⟨((h3 e he).2.2.2 a ha).1, ((h3 e he).2.2.2 a ha).2.imp_right (fun q => ⟨hP _ q.1, q.2⟩)⟩⟩⟩

/-- The loop over the options. -/
def TelRel (W0 : World) (o : Ot) (rb : Nat) (vi : Value) (wr : World) : Prop :=
  ∃ (i : Nat) (v : Value), i ≤ o.os.length ∧ vi = .int .i64 (i : Int) ∧ Bl 67 wr rb #[.slice none 0 0, .int .i64 41, .int .i64 o.size, .int .i64 (ttlN o), v] ∧ Rowb wr (rb + 1) v (optB (o.os.take i)) ∧ Below rb W0 wr ∧ rb + 1 ≤ wr.heap.size

theorem rowb_val {w : World} {B : Nat} {v : Value} {xs : List Int} (h : Rowb w B v xs) : ∃ x c, v = .slice x xs.length c := by
  rcases h.2 with ⟨e, e2⟩ | ⟨g, cap, cur, e, _, _, hn, _⟩
  · exact ⟨none, 0, by rw [e, e2]⟩
  · exact ⟨_, cap, e⟩

theorem opt_at_in {os : List On} (h : optE os = 0) {i : Nat} (hi : i < os.length) : 0 ≤ os[i].code ∧ os[i].code ≤ 65535 ∧ os[i].D.length ≤ 65535 := by
  induction os generalizing i with
  | nil => simp at hi
  | cons o l ih =>
    rw [optE_cons] at h
    by_cases c1 : 0 ≤ o.code ∧ o.code ≤ 65535
    · rw [if_neg (by simpa using c1)] at h
      by_cases c2 : 65535 < o.D.length
      · rw [if_pos c2] at h; cases h
      · rw [if_neg c2] at h
        cases i with
        | zero => exact ⟨c1.1, c1.2, by simpa using c2⟩
        | succ j => simpa using ih h (by simpa using hi)
    · rw [if_pos c1] at h; cases h

set_option maxHeartbeats 8000000 in
set_option maxRecDepth 100000 in
theorem telling_own {xq x1 x2 x3 x : Option Addr} {cq c1 c2 c3 c b3 bo : Nat} (wp : World) (h : Hd) (qs : List Qn) (r1 r2 r3 : List Rn) (o : Ot) (w : World) (hwp : Below wp.heap.size wp w) (hr3 : Rs wp b3 x3 c3 r3) (hs : Ops w bo x c o.os) (ho : otE o = 0) (l3 : (r3.length + 1) * 72 ≤ 140737488355328) :
    Calls Tryd.prog 19 #[.agg #[.int .i64 h.id, .bool h.an, .int .i64 h.op, .bool h.aa, .bool h.tc, .bool h.rd, .bool h.ra, .bool h.z, .bool h.ad, .bool h.cd, .int .i64 h.code, .slice xq qs.length cq, .slice x1 r1.length c1, .slice x2 r2.length c2, .slice x3 r3.length c3], .agg #[.int .i64 o.size, .int .i64 o.code, .int .i64 o.ver, .bool o.dO, .int .i64 o.z, .slice x o.os.length c]] w fun e w' => ∃ y d, e = .returned (.agg #[.int .i64 h.id, .bool h.an, .int .i64 h.op, .bool h.aa, .bool h.tc, .bool h.rd, .bool h.ra, .bool h.z, .bool h.ad, .bool h.cd, .int .i64 h.code, .slice xq qs.length cq, .slice x1 r1.length c1, .slice x2 r2.length c2, .slice y (silR r3 ++ [otR o]).length d]) ∧ RRowP w' 0 (fun k => k < wp.heap.size ∨ w.heap.size ≤ k) (.slice y (silR r3 ++ [otR o]).length d) (silR r3 ++ [otR o]) ∧ (∀ g, (Value.slice y (silR r3 ++ [otR o]).length d).ownBlock = some g → w.heap.size ≤ g) ∧ Below w.heap.size w w' := by
  obtain ⟨hin, hdt⟩ : OtIn o ∧ dataE o.os = 0 := by
    by_cases h : OtIn o
    · exact ⟨h, by rw [← otE_in h]; exact ho⟩
    · rw [otE_out h] at ho; cases ho
  obtain ⟨hoE, hoS⟩ := dataE_zero hdt
  obtain ⟨k1, k2, k3, k4⟩ := Bl.three 28 46 28 w #[.int .i64 h.id, .bool h.an, .int .i64 h.op, .bool h.aa, .bool h.tc, .bool h.rd, .bool h.ra, .bool h.z, .bool h.ad, .bool h.cd, .int .i64 h.code, .slice xq qs.length cq, .slice x1 r1.length c1, .slice x2 r2.length c2, .slice x3 r3.length c3] #[.int .i64 o.size, .int .i64 o.code, .int .i64 o.ver, .bool o.dO, .int .i64 o.z, .slice x o.os.length c] #[.int .i64 0, .bool false, .int .i64 0, .bool false, .bool false, .bool false, .bool false, .bool false, .bool false, .bool false, .int .i64 0, .slice none 0 0, .slice none 0 0, .slice none 0 0, .slice none 0 0]
  have hsz : (((w.alloc (.cells #[.int .i64 h.id, .bool h.an, .int .i64 h.op, .bool h.aa, .bool h.tc, .bool h.rd, .bool h.ra, .bool h.z, .bool h.ad, .bool h.cd, .int .i64 h.code, .slice xq qs.length cq, .slice x1 r1.length c1, .slice x2 r2.length c2, .slice x3 r3.length c3] 28)).alloc (.cells #[.int .i64 o.size, .int .i64 o.code, .int .i64 o.ver, .bool o.dO, .int .i64 o.z, .slice x o.os.length c] 46)).alloc (.cells #[.int .i64 0, .bool false, .int .i64 0, .bool false, .bool false, .bool false, .bool false, .bool false, .bool false, .bool false, .int .i64 0, .slice none 0 0, .slice none 0 0, .slice none 0 0, .slice none 0 0] 28)).heap.size = w.heap.size + 3 := by simp
  have HR3 := hid hr3
  have HWP := hid hwp
  have HS := hid hs
  have HOE := hid hoE
  have HBY := hid (optB_bytes hs.data)
  have hlen := hs.2.1
  have L3 := hid l3
  obtain ⟨⟨i1, i2⟩, ⟨i3, i4⟩, ⟨i5, i6⟩, ⟨i7, i8⟩⟩ := hin
  clear hwp hr3 hs hdt ho hoE l3
  go_enter Tryd.func19, Tryd.ntmps19
  go_upto_region 1 with fail
  generalize ((w.alloc (.cells #[.int .i64 h.id, .bool h.an, .int .i64 h.op, .bool h.aa, .bool h.tc, .bool h.rd, .bool h.ra, .bool h.z, .bool h.ad, .bool h.cd, .int .i64 h.code, .slice xq qs.length cq, .slice x1 r1.length c1, .slice x2 r2.length c2, .slice x3 r3.length c3] 28)).alloc (.cells #[.int .i64 o.size, .int .i64 o.code, .int .i64 o.ver, .bool o.dO, .int .i64 o.z, .slice x o.os.length c] 46)).alloc (.cells #[.int .i64 0, .bool false, .int .i64 0, .bool false, .bool false, .bool false, .bool false, .bool false, .bool false, .bool false, .int .i64 0, .slice none 0 0, .slice none 0 0, .slice none 0 0, .slice none 0 0] 28) = W0 at *
  have K1 := hid k1
  have K2 := hid k2
  have K3 := hid k3
  have K4 := hid k4
  have HSZ := hid hsz
  have j0 := k2.cell (i := 0) rfl
  have j1 := k2.cell (i := 1) rfl
  have j2 := k2.cell (i := 2) rfl
  have j3 := k2.cell (i := 3) rfl
  have j4 := k2.cell (i := 4) rfl
  clear k1 k2 k3 k4 hsz
  go_upto_region 2 with fail
  have BA := (Below.refl W0.heap.size W0).alloc (Nat.le_refl _) (.cells #[.slice none 0 0, .int .i64 41, .int .i64 o.size, .int .i64 (o.code * 16777216 + o.ver * 65536 + o.z), .slice none 0 0] 67)
  have KR := hid (Bl.new 67 W0 #[.slice none 0 0, .int .i64 41, .int .i64 o.size, .int .i64 (o.code * 16777216 + o.ver * 65536 + o.z), .slice none 0 0])
  generalize W0.alloc (.cells #[.slice none 0 0, .int .i64 41, .int .i64 o.size, .int .i64 (o.code * 16777216 + o.ver * 65536 + o.z), .slice none 0 0] 67) = W1 at *
  have KB := hid BA
  clear BA j0 j1 j2 j4
  obtain ⟨rb, hrb⟩ : ∃ rb, W0.heap.size = rb := ⟨_, rfl⟩
  rw [hrb] at KR KB HSZ ⊢
  have j3' : W1.cell? ⟨w.heap.size + 1, 3, none⟩ = some (.bool o.dO) := (KB.out.cell (p := ⟨w.heap.size + 1, 3, none⟩) (by have := HSZ.out; simp only; omega)).trans j3
  clear j3
  have rc3 := KR.out.cell (i := 3) rfl
  have f3 := KR.out.frozen 3
  generalize Value.agg #[.int .i64 o.size, .int .i64 o.code, .int .i64 o.ver, .bool o.dO, .int .i64 o.z, .slice x o.os.length c] = V1
  go_upto_if 21 with fail
  go_cut [] from 20 to 25 (fun wx => Bl 67 wx rb #[.slice none 0 0, .int .i64 41, .int .i64 o.size, .int .i64 (ttlN o), .slice none 0 0] ∧ Below rb W0 wx)
  case first =>
    cases hd : o.dO with
    | true =>
      have TT : ttlN o = o.code * 16777216 + o.ver * 65536 + o.z + 32768 := by unfold ttlN; rw [if_pos hd]
      go_wp2
      go_meet
      refine ⟨?_, KB.out.setCell (Nat.le_refl _) _⟩
      rw [TT]
      exact KR.out.set 3 _
    | false =>
      have TT : ttlN o = o.code * 16777216 + o.ver * 65536 + o.z := by unfold ttlN; rw [hd]; simp
      go_wp2
      go_meet
      rw [TT]
      exact ⟨KR.out, KB.out⟩
  case rest =>
    obtain ⟨kr, b0⟩ := hcut
    have KR0 := hid kr
    have B00 := hid b0
    have hrbw : rb < wc.heap.size := kr.lt
    clear kr b0 KR KB rc3 f3 j3'
    go_wp2_with fail
    go_loopw [6] (fun vi wr => TelRel W0 o rb vi wr) (fun vi _ => o.os.length - (intOf vi).toNat)
    case atStart => exact ⟨0, .slice none 0 0, Nat.zero_le _, rfl, KR0.out, World.ownsRow_nil _ _ _ _, B00.out, hrbw⟩
    case round =>
      obtain ⟨i, v, hi, rfl, hkr, hrow, hbw, hBw⟩ := hrel
      have KR := hid hkr
      have RW := hid hrow
      have BW := hid hbw
      have WW := hid (K4.out.trans (hbw.mono (show w.heap.size ≤ rb by have := HSZ.out; omega)))
      have j5 : wr.cell? ⟨w.heap.size + 1, 5, none⟩ = some (.slice x o.os.length c) := (hbw.cell (p := ⟨w.heap.size + 1, 5, none⟩) (by have := HSZ.out; simp only; omega)).trans (K2.out.cell (i := 5) rfl)
      clear hkr hrow hbw KR0 B00
      by_cases ci : i < o.os.length
      · skip
        have ci' : (i : Int) < (o.os.length : Int) := by omega
        obtain ⟨b0, o0, z, t, rfl, hb0, p0, p1, q1, q2⟩ := HS.out.at ci
        have hcapo := HS.out.1
        have NB := hid (optB_next ci)
        have hz1 := optB_take_len (os := o.os) (i + 1)
        rw [NB.out] at hz1
        simp only [List.length_append, two_len] at hz1
        obtain ⟨g1, g2, g3⟩ : 0 ≤ o.os[i].code ∧ o.os[i].code ≤ 65535 ∧ o.os[i].D.length ≤ 65535 := opt_at_in HOE.out ci
        generalize o.os[i] = r at *
        generalize optB (o.os.take i) = X at *
        have e0 := (WW.out.cell (p := ⟨b0, o0 + i * 2, none⟩) hb0).trans p0
        have e1 := (WW.out.cell (p := ⟨b0, o0 + i * 2 + 1, none⟩) hb0).trans p1
        have Q1 := hid q1
        have Q2 := hid q2
        have hb0r : b0 < rb := by have := HSZ.out; omega
        have hw1r : w.heap.size + 1 < rb := by have := HSZ.out; omega
        have hwr : w.heap.size ≤ rb := by have := HSZ.out; omega
        have P0 := hid p0
        have P1 := hid p1
        clear p0 p1 q1 q2
        go_upto_region 7 with fail
        have h4 : ∀ s' : OldsB (rb + 1) wr, s'.val.cell? ⟨rb, 4, none⟩ = some v := fun s' => (KR.out.under (Nat.lt_succ_self _) s'.keeps).cell (i := 4) rfl
        have h5 : ∀ s' : OldsB (rb + 1) wr, s'.val.cell? ⟨w.heap.size + 1, 5, none⟩ = some (.slice (some ⟨b0, o0, none⟩) o.os.length c) := fun s' => (s'.keeps.cell (p := ⟨w.heap.size + 1, 5, none⟩) (Nat.lt_succ_of_lt hw1r)).trans j5
        have h6 : ∀ s' : OldsB (rb + 1) wr, s'.val.cell? ⟨b0, o0 + i * 2, none⟩ = some (.int .i64 r.code) := fun s' => (s'.keeps.cell (p := ⟨b0, o0 + i * 2, none⟩) (Nat.lt_succ_of_lt hb0r)).trans e0
        have hNe : Nonempty (OldsB (rb + 1) wr) := ⟨⟨wr, Below.refl _ _⟩⟩
        have f4 := KR.out.frozen 4
        refine wp_region_fork [0, 1, 2, 3, 4, 5, 6, 7] (.one 8 (.one 9 (.one 10 (.one 11 .nil)))) (fun u => ∃ s' : OldsB (rb + 1) wr, u = s'.val) (by kernel_rfl) (by kernel_rfl) (by kernel_rfl) ⟨⟨wr.drew, (Below.refl _ _).drew⟩, rfl⟩ ?_
        change wpQuiet _ _ _ _ [_, _, _, _, _, _, _, _] _
        repeat (go_big_quiet_step (fail))
        refine wpQuiet_nil ?_
        clear h4 h5 h6 hNe
        have HB := (Below.refl wr.heap.size wr).drew
        change stepL _ _ _ _ _ _ _ _ _
        refine stepL_at (by rfl) fun K Q' hK => ?_
        go_simp
        refine (tpair_any (r.code) _ (by omega) (by omega)).mono ?_
        rintro e u6 ⟨rfl, hbs, d6⟩
        replace HB := HB.trans ((d6).mono HB.size)
        refine hK _ _ (fun _ => ⟨⟨_, HB.mono hBw⟩, rfl⟩) ?_
        clear hK d6
        have RW1 := hid (owns_stay RW.out HB)
        have KR1 := hid (KR.out.below HB)
        have hB1 : rb + 1 ≤ (World.heap u6).size := Nat.le_trans hBw HB.size
        change stepL _ _ _ _ _ _ _ _ _
        refine stepL_at (by rfl) fun K Q' hK => ?_
        refine wp_append_bys (B := rb + 1) (xs := X) (ys := twoN r.code) (.tmp 34) (.tmp 41) rfl rfl rfl RW1.out hbs (by rw [two_len]; omega) hB1 ?_
        intro v6 w6 r6 g6
        have hq : ∀ b, v.ownBlock = some b → rb + 1 ≤ b := fun b q => (World.ownsRow.lt RW1.out b q).1
        have HB2 : Below (rb + 1) wr w6 := (HB.mono hBw).grown g6 hB1 hq
        have KR2 := hid (KR1.out.grown5 g6 (fun q => by have := hq rb q.symm; omega))
        have hB2 : rb + 1 ≤ w6.heap.size := Nat.le_trans hB1 g6.size
        refine hK _ _ (fun _ => ⟨⟨_, HB2⟩, rfl⟩) ?_
        clear hK hbs
        obtain ⟨x6, c6', hv6⟩ := rowb_val r6
        obtain ⟨l6, hl6⟩ : ∃ l, (X ++ twoN r.code).length = l := ⟨_, rfl⟩
        rw [hl6] at hv6
        subst hv6
        clear hl6
        have c4 := KR2.out.cell (i := 4) rfl
        have f4 := KR2.out.frozen 4
        have KR3 : Hid (Bl 67 (w6.setCell ⟨rb, 4, none⟩ (.slice x6 l6 c6')) rb #[.slice none 0 0, .int .i64 41, .int .i64 o.size, .int .i64 (ttlN o), .slice x6 l6 c6']) := hid (KR2.out.set 4 _)
        have RW3 := hid (owns_far r6 (p := ⟨rb, 4, none⟩) (Nat.lt_succ_self _) (.slice x6 l6 c6'))
        have BW3 := hid ((BW.out.trans (HB2.mono (Nat.le_succ _))).setCell (p := ⟨rb, 4, none⟩) (Nat.le_refl _) (.slice x6 l6 c6'))
        have hB3 : rb + 1 ≤ (w6.setCell ⟨rb, 4, none⟩ (.slice x6 l6 c6')).heap.size := by simpa [World.setCell] using hB2
        change stepL _ _ _ _ _ _ _ _ _
        refine stepL_at (by rfl) fun K Q' hK => ?_
        go_simp
        refine hK _ _ (fun _ => ⟨⟨_, HB2⟩, rfl⟩) ?_
        clear hK
        change stepL _ _ _ _ _ _ _ _ _
        refine stepL_at (by rfl) fun K Q' hK => ?_
        go_simp
        refine hK _ _ (fun q => absurd q (by decide)) ?_
        clear hK c4 f4 KR2 r6 g6 hq HB HB2 KR1 RW1 hB1 hB2 KR RW BW hBw
        refine treeL_nil ?_
        generalize w6.setCell ⟨rb, 4, none⟩ (.slice x6 l6 c6') = y6 at *
        have KR := KR3
        have RW := RW3
        have BW := BW3
        have hBw := hB3
        clear KR3 RW3 BW3 hB3 j5 e0 e1 WW
        have WW := hid (K4.out.trans (BW.out.mono hwr))
        have j5 : y6.cell? ⟨w.heap.size + 1, 5, none⟩ = some (.slice (some ⟨b0, o0, none⟩) o.os.length c) := (BW.out.cell (p := ⟨w.heap.size + 1, 5, none⟩) hw1r).trans (K2.out.cell (i := 5) rfl)
        have e0 := (WW.out.cell (p := ⟨b0, o0 + i * 2, none⟩) hb0).trans P0.out
        have e1 := (WW.out.cell (p := ⟨b0, o0 + i * 2 + 1, none⟩) hb0).trans P1.out
        go_upto_region 8 with fail
        have h4 : ∀ s' : OldsB (rb + 1) y6, s'.val.cell? ⟨rb, 4, none⟩ = some (Value.slice x6 l6 c6') := fun s' => (KR.out.under (Nat.lt_succ_self _) s'.keeps).cell (i := 4) rfl
        have h5 : ∀ s' : OldsB (rb + 1) y6, s'.val.cell? ⟨w.heap.size + 1, 5, none⟩ = some (.slice (some ⟨b0, o0, none⟩) o.os.length c) := fun s' => (s'.keeps.cell (p := ⟨w.heap.size + 1, 5, none⟩) (Nat.lt_succ_of_lt hw1r)).trans j5
        have h6 : ∀ s' : OldsB (rb + 1) y6, s'.val.cell? ⟨b0, o0 + i * 2 + 1, none⟩ = some (.slice z r.D.length t) := fun s' => (s'.keeps.cell (p := ⟨b0, o0 + i * 2 + 1, none⟩) (Nat.lt_succ_of_lt hb0r)).trans e1
        have hNe : Nonempty (OldsB (rb + 1) y6) := ⟨⟨y6, Below.refl _ _⟩⟩
        have f4 := KR.out.frozen 4
        refine wp_region_fork [0, 1, 2, 3, 4, 5, 6, 7] (.one 8 (.one 9 (.one 10 (.one 11 (.one 12 .nil))))) (fun u => ∃ s' : OldsB (rb + 1) y6, u = s'.val) (by kernel_rfl) (by kernel_rfl) (by kernel_rfl) ⟨⟨y6.drew, (Below.refl _ _).drew⟩, rfl⟩ ?_
        change wpQuiet _ _ _ _ [_, _, _, _, _, _, _, _] _
        repeat (go_big_quiet_step (fail))
        refine wpQuiet_nil ?_
        clear h4 h5 h6 hNe
        have HB := (Below.refl y6.heap.size y6).drew
        change stepL _ _ _ _ _ _ _ _ _
        refine stepL_at (by rfl) fun K Q' hK => ?_
        go_simp
        refine hK _ _ (fun _ => ⟨⟨_, HB.mono hBw⟩, rfl⟩) ?_
        clear hK
        change stepL _ _ _ _ _ _ _ _ _
        refine stepL_at (by rfl) fun K Q' hK => ?_
        go_simp
        refine (tpair_any ((r.D.length : Int)) _ (by omega) (by omega)).mono ?_
        rintro e u7 ⟨rfl, hbs, d7⟩
        replace HB := HB.trans ((d7).mono HB.size)
        refine hK _ _ (fun _ => ⟨⟨_, HB.mono hBw⟩, rfl⟩) ?_
        clear hK d7
        have RW1 := hid (owns_stay RW.out HB)
        have KR1 := hid (KR.out.below HB)
        have hB1 : rb + 1 ≤ (World.heap u7).size := Nat.le_trans hBw HB.size
        change stepL _ _ _ _ _ _ _ _ _
        refine stepL_at (by rfl) fun K Q' hK => ?_
        refine wp_append_bys (B := rb + 1) (xs := (X ++ twoN r.code)) (ys := twoN (r.D.length : Int)) (.tmp 45) (.tmp 53) rfl rfl rfl RW1.out hbs (by rw [List.length_append, two_len, two_len]; omega) hB1 ?_
        intro v7 w7 r7 g7
        have hq : ∀ b, (Value.slice x6 l6 c6').ownBlock = some b → rb + 1 ≤ b := fun b q => (World.ownsRow.lt RW1.out b q).1
        have HB2 : Below (rb + 1) y6 w7 := (HB.mono hBw).grown g7 hB1 hq
        have KR2 := hid (KR1.out.grown5 g7 (fun q => by have := hq rb q.symm; omega))
        have hB2 : rb + 1 ≤ w7.heap.size := Nat.le_trans hB1 g7.size
        refine hK _ _ (fun _ => ⟨⟨_, HB2⟩, rfl⟩) ?_
        clear hK hbs
        obtain ⟨x7, c7', hv7⟩ := rowb_val r7
        obtain ⟨l7, hl7⟩ : ∃ l, ((X ++ twoN r.code) ++ twoN (r.D.length : Int)).length = l := ⟨_, rfl⟩
        rw [hl7] at hv7
        subst hv7
        clear hl7
        have c4 := KR2.out.cell (i := 4) rfl
        have f4 := KR2.out.frozen 4
        have KR3 : Hid (Bl 67 (w7.setCell ⟨rb, 4, none⟩ (.slice x7 l7 c7')) rb #[.slice none 0 0, .int .i64 41, .int .i64 o.size, .int .i64 (ttlN o), .slice x7 l7 c7']) := hid (KR2.out.set 4 _)
        have RW3 := hid (owns_far r7 (p := ⟨rb, 4, none⟩) (Nat.lt_succ_self _) (.slice x7 l7 c7'))
        have BW3 := hid ((BW.out.trans (HB2.mono (Nat.le_succ _))).setCell (p := ⟨rb, 4, none⟩) (Nat.le_refl _) (.slice x7 l7 c7'))
        have hB3 : rb + 1 ≤ (w7.setCell ⟨rb, 4, none⟩ (.slice x7 l7 c7')).heap.size := by simpa [World.setCell] using hB2
        change stepL _ _ _ _ _ _ _ _ _
        refine stepL_at (by rfl) fun K Q' hK => ?_
        go_simp
        refine hK _ _ (fun _ => ⟨⟨_, HB2⟩, rfl⟩) ?_
        clear hK
        change stepL _ _ _ _ _ _ _ _ _
        refine stepL_at (by rfl) fun K Q' hK => ?_
        go_simp
        refine hK _ _ (fun q => absurd q (by decide)) ?_
        clear hK c4 f4 KR2 r7 g7 hq HB HB2 KR1 RW1 hB1 hB2 KR RW BW hBw
        refine treeL_nil ?_
        generalize w7.setCell ⟨rb, 4, none⟩ (.slice x7 l7 c7') = y7 at *
        have KR := KR3
        have RW := RW3
        have BW := BW3
        have hBw := hB3
        clear KR3 RW3 BW3 hB3 j5 e0 e1 WW
        have WW := hid (K4.out.trans (BW.out.mono hwr))
        have j5 : y7.cell? ⟨w.heap.size + 1, 5, none⟩ = some (.slice (some ⟨b0, o0, none⟩) o.os.length c) := (BW.out.cell (p := ⟨w.heap.size + 1, 5, none⟩) hw1r).trans (K2.out.cell (i := 5) rfl)
        have e0 := (WW.out.cell (p := ⟨b0, o0 + i * 2, none⟩) hb0).trans P0.out
        have e1 := (WW.out.cell (p := ⟨b0, o0 + i * 2 + 1, none⟩) hb0).trans P1.out
        go_upto_region 9 with fail
        have h4 : ∀ s' : OldsB (rb + 1) y7, s'.val.cell? ⟨rb, 4, none⟩ = some (Value.slice x7 l7 c7') := fun s' => (KR.out.under (Nat.lt_succ_self _) s'.keeps).cell (i := 4) rfl
        have h5 : ∀ s' : OldsB (rb + 1) y7, s'.val.cell? ⟨w.heap.size + 1, 5, none⟩ = some (.slice (some ⟨b0, o0, none⟩) o.os.length c) := fun s' => (s'.keeps.cell (p := ⟨w.heap.size + 1, 5, none⟩) (Nat.lt_succ_of_lt hw1r)).trans j5
        have h6 : ∀ s' : OldsB (rb + 1) y7, s'.val.cell? ⟨b0, o0 + i * 2 + 1, none⟩ = some (.slice z r.D.length t) := fun s' => (s'.keeps.cell (p := ⟨b0, o0 + i * 2 + 1, none⟩) (Nat.lt_succ_of_lt hb0r)).trans e1
        have hNe : Nonempty (OldsB (rb + 1) y7) := ⟨⟨y7, Below.refl _ _⟩⟩
        have f4 := KR.out.frozen 4
        refine wp_region_fork [0, 1, 2, 3, 4, 5, 6, 7] (.one 8 (.one 9 (.one 10 .nil))) (fun u => ∃ s' : OldsB (rb + 1) y7, u = s'.val) (by kernel_rfl) (by kernel_rfl) (by kernel_rfl) ⟨⟨y7.drew, (Below.refl _ _).drew⟩, rfl⟩ ?_
        change wpQuiet _ _ _ _ [_, _, _, _, _, _, _, _] _
        repeat (go_big_quiet_step (fail))
        refine wpQuiet_nil ?_
        clear h4 h5 h6 hNe
        have HB := (Below.refl y7.heap.size y7).drew
        have hbs := (Q1.out.below WW.out).below HB
        have RW1 := hid (owns_stay RW.out HB)
        have KR1 := hid (KR.out.below HB)
        have hB1 : rb + 1 ≤ (World.heap (World.drew y7)).size := Nat.le_trans hBw HB.size
        change stepL _ _ _ _ _ _ _ _ _
        refine stepL_at (by rfl) fun K Q' hK => ?_
        refine wp_append_bys (B := rb + 1) (xs := ((X ++ twoN r.code) ++ twoN (r.D.length : Int))) (ys := r.D) (.tmp 57) (.tmp 63) rfl rfl rfl RW1.out hbs (by rw [List.length_append, List.length_append, two_len, two_len]; omega) hB1 ?_
        intro v8 w8 r8 g8
        have hq : ∀ b, (Value.slice x7 l7 c7').ownBlock = some b → rb + 1 ≤ b := fun b q => (World.ownsRow.lt RW1.out b q).1
        have HB2 : Below (rb + 1) y7 w8 := (HB.mono hBw).grown g8 hB1 hq
        have KR2 := hid (KR1.out.grown5 g8 (fun q => by have := hq rb q.symm; omega))
        have hB2 : rb + 1 ≤ w8.heap.size := Nat.le_trans hB1 g8.size
        refine hK _ _ (fun _ => ⟨⟨_, HB2⟩, rfl⟩) ?_
        clear hK hbs
        obtain ⟨x8, c8', hv8⟩ := rowb_val r8
        obtain ⟨l8, hl8⟩ : ∃ l, (((X ++ twoN r.code) ++ twoN (r.D.length : Int)) ++ r.D).length = l := ⟨_, rfl⟩
        rw [hl8] at hv8
        subst hv8
        clear hl8
        have c4 := KR2.out.cell (i := 4) rfl
        have f4 := KR2.out.frozen 4
        have KR3 : Hid (Bl 67 (w8.setCell ⟨rb, 4, none⟩ (.slice x8 l8 c8')) rb #[.slice none 0 0, .int .i64 41, .int .i64 o.size, .int .i64 (ttlN o), .slice x8 l8 c8']) := hid (KR2.out.set 4 _)
        have RW3 := hid (owns_far r8 (p := ⟨rb, 4, none⟩) (Nat.lt_succ_self _) (.slice x8 l8 c8'))
        have BW3 := hid ((BW.out.trans (HB2.mono (Nat.le_succ _))).setCell (p := ⟨rb, 4, none⟩) (Nat.le_refl _) (.slice x8 l8 c8'))
        have hB3 : rb + 1 ≤ (w8.setCell ⟨rb, 4, none⟩ (.slice x8 l8 c8')).heap.size := by simpa [World.setCell] using hB2
        change stepL _ _ _ _ _ _ _ _ _
        refine stepL_at (by rfl) fun K Q' hK => ?_
        go_simp
        refine hK _ _ (fun _ => ⟨⟨_, HB2⟩, rfl⟩) ?_
        clear hK
        change stepL _ _ _ _ _ _ _ _ _
        refine stepL_at (by rfl) fun K Q' hK => ?_
        go_simp
        refine hK _ _ (fun q => absurd q (by decide)) ?_
        clear hK c4 f4 KR2 r8 g8 hq HB HB2 KR1 RW1 hB1 hB2 KR RW BW hBw
        refine treeL_nil ?_
        generalize w8.setCell ⟨rb, 4, none⟩ (.slice x8 l8 c8') = y8 at *
        have KR := KR3
        have RW := RW3
        have BW := BW3
        have hBw := hB3
        clear KR3 RW3 BW3 hB3 j5 e0 e1 WW
        have WW := hid (K4.out.trans (BW.out.mono hwr))
        have j5 : y8.cell? ⟨w.heap.size + 1, 5, none⟩ = some (.slice (some ⟨b0, o0, none⟩) o.os.length c) := (BW.out.cell (p := ⟨w.heap.size + 1, 5, none⟩) hw1r).trans (K2.out.cell (i := 5) rfl)
        have e0 := (WW.out.cell (p := ⟨b0, o0 + i * 2, none⟩) hb0).trans P0.out
        have e1 := (WW.out.cell (p := ⟨b0, o0 + i * 2 + 1, none⟩) hb0).trans P1.out
        have RWn := hid (show Rowb y8 (rb + 1) (Value.slice x8 l8 c8') (optB (o.os.take (i + 1))) by rw [NB.out]; exact RW.out)
        go_wp2_with fail
        exact ⟨⟨i + 1, _, by omega, by go_num, KR.out, RWn.out, BW.out, hBw⟩, by simp [intOf]; omega⟩
      · skip
        have ci' : ¬ (i : Int) < (o.os.length : Int) := by omega
        obtain rfl : i = o.os.length := by omega
        have e1 : o.os.take o.os.length = o.os := List.take_of_length_le (Nat.le_refl _)
        rw [e1] at RW
        have hob : (optB o.os).length ≤ 65535 := by rw [optB_len]; exact hoS
        obtain ⟨z, t, hv, y1, y2, y3⟩ := rowb_new RW.out (by omega) HBY.out
        subst hv
        have Y1 := hid y1
        have Y2 := hid y2
        have Y3 := hid y3
        have KM := hid (K1.out.under (show w.heap.size < rb by have := HSZ.out; omega) BW.out)
        have KZ := hid (K3.out.under (show w.heap.size + 2 < rb by have := HSZ.out; omega) BW.out)
        have ML := hid (Bl.range [.int .i64 h.id, .bool h.an, .int .i64 h.op, .bool h.aa, .bool h.tc, .bool h.rd, .bool h.ra, .bool h.z, .bool h.ad, .bool h.cd, .int .i64 h.code, .slice xq qs.length cq, .slice x1 r1.length c1, .slice x2 r2.length c2, .slice x3 r3.length c3] KM.out)
        clear y1 y2 y3 e1 RW K1 K2 K3 HS HOE HBY hlen i1 i2 i3 i4 i5 i6 i7 i8
        go_wp2_with (first | (refine wpList_load_mid rfl 28 _ rfl w.heap.size 0 rfl [.int .i64 h.id, .bool h.an, .int .i64 h.op, .bool h.aa, .bool h.tc, .bool h.rd, .bool h.ra, .bool h.z, .bool h.ad, .bool h.cd, .int .i64 h.code, .slice xq qs.length cq, .slice x1 r1.length c1, .slice x2 r2.length c2, .slice x3 r3.length c3] _ ML.out Tryd.underlying28 rfl size_message ?_) | fail)
        refine (silent_own wp h qs r1 r2 r3 wr (grown_on HWP.out WW.out) HR3.out (by have := L3.out; omega)).mono ?_
        rintro e w5 ⟨y, d, rfl, g5, b5⟩
        have hw5 : wr.heap.size ≤ w5.heap.size := b5.size
        have TO : Hid (∀ g, (Value.slice y (silR r3).length d).ownBlock = some g → wr.heap.size + 2 ≤ g ∧ g < w5.heap.size) := hid (fun g hg => World.ownsRow.lt g5.1.choose_spec.2.1 g hg)
        have R5 := hid (g5.toP (fun k => k < wp.heap.size ∨ (rb < k ∧ k < w5.heap.size)) (fun k hk => Or.inl hk))
        have B5 := hid (grown_on WW.out b5)
        have M5 := hid (KM.out.below b5)
        have Z5 := hid (KZ.out.below b5)
        have A5 := hid (KR.out.below b5)
        have YB : Hid (∀ a, z = some a → optB o.os = [] ∨ a.block < wr.heap.size) := hid (fun a ha => bys_lt Y1.out ha)
        have Y5 := hid (Y1.out.below b5)
        have hrbm : w.heap.size + 2 < rb := by have := HSZ.out; omega
        have hwpw : wp.heap.size ≤ w.heap.size := HWP.out.size
        clear g5 b5 KM KZ KR Y1 ML WW BW
        dsimp only
        first | go_step | go_upon | go_back
        refine wpList_store_row rfl 28 (.tmp 2) (.tmp 67) rfl w.heap.size #[.int .i64 h.id, .bool h.an, .int .i64 h.op, .bool h.aa, .bool h.tc, .bool h.rd, .bool h.ra, .bool h.z, .bool h.ad, .bool h.cd, .int .i64 h.code, .slice xq qs.length cq, .slice x1 r1.length c1, .slice x2 r2.length c2, .slice y (silR r3).length d] rfl rfl 28 #[.int .i64 h.id, .bool h.an, .int .i64 h.op, .bool h.aa, .bool h.tc, .bool h.rd, .bool h.ra, .bool h.z, .bool h.ad, .bool h.cd, .int .i64 h.code, .slice xq qs.length cq, .slice x1 r1.length c1, .slice x2 r2.length c2, .slice x3 r3.length c3] M5.out size_message rfl (by simp [Value.oneCell']) ?_
        go_upto_region 11 with fail
        have G6 := grown_row w5 w.heap.size #[.int .i64 h.id, .bool h.an, .int .i64 h.op, .bool h.aa, .bool h.tc, .bool h.rd, .bool h.ra, .bool h.z, .bool h.ad, .bool h.cd, .int .i64 h.code, .slice xq qs.length cq, .slice x1 r1.length c1, .slice x2 r2.length c2, .slice y (silR r3).length d]
        have M6 := hid (M5.out.rowSet #[.int .i64 h.id, .bool h.an, .int .i64 h.op, .bool h.aa, .bool h.tc, .bool h.rd, .bool h.ra, .bool h.z, .bool h.ad, .bool h.cd, .int .i64 h.code, .slice xq qs.length cq, .slice x1 r1.length c1, .slice x2 r2.length c2, .slice y (silR r3).length d])
        have Z6 := hid (Z5.out.rowOff (g := w.heap.size) (by omega) #[.int .i64 h.id, .bool h.an, .int .i64 h.op, .bool h.aa, .bool h.tc, .bool h.rd, .bool h.ra, .bool h.z, .bool h.ad, .bool h.cd, .int .i64 h.code, .slice xq qs.length cq, .slice x1 r1.length c1, .slice x2 r2.length c2, .slice y (silR r3).length d])
        have A6 := hid (A5.out.rowOff (g := w.heap.size) (by omega) #[.int .i64 h.id, .bool h.an, .int .i64 h.op, .bool h.aa, .bool h.tc, .bool h.rd, .bool h.ra, .bool h.z, .bool h.ad, .bool h.cd, .int .i64 h.code, .slice xq qs.length cq, .slice x1 r1.length c1, .slice x2 r2.length c2, .slice y (silR r3).length d])
        have R6 := hid (R5.out.kept G6 (by omega) (fun q => by have := TO.out _ q; omega))
        have Y6 := hid (Y5.out.kept G6 (fun a ha => Or.inr (fun q => by have := Y3.out a ha; have := Option.some.inj q; omega)))
        have B6 := hid (below_setRow B5.out (Nat.le_refl _) #[.int .i64 h.id, .bool h.an, .int .i64 h.op, .bool h.aa, .bool h.tc, .bool h.rd, .bool h.ra, .bool h.z, .bool h.ad, .bool h.cd, .int .i64 h.code, .slice xq qs.length cq, .slice x1 r1.length c1, .slice x2 r2.length c2, .slice y (silR r3).length d])
        have HS6 : Hid ((w5.setRow w.heap.size #[.int .i64 h.id, .bool h.an, .int .i64 h.op, .bool h.aa, .bool h.tc, .bool h.rd, .bool h.ra, .bool h.z, .bool h.ad, .bool h.cd, .int .i64 h.code, .slice xq qs.length cq, .slice x1 r1.length c1, .slice x2 r2.length c2, .slice y (silR r3).length d]).heap.size = w5.heap.size) := hid (size_setRow _ _ _)
        clear G6 M5 Z5 A5 R5 Y5 B5
        generalize w5.setRow w.heap.size #[.int .i64 h.id, .bool h.an, .int .i64 h.op, .bool h.aa, .bool h.tc, .bool h.rd, .bool h.ra, .bool h.z, .bool h.ad, .bool h.cd, .int .i64 h.code, .slice xq qs.length cq, .slice x1 r1.length c1, .slice x2 r2.length c2, .slice y (silR r3).length d] = w6 at *
        have m14 := M6.out.cell (i := 14) rfl
        have ra0 := A6.out.cell (i := 0) rfl
        have ra1 := A6.out.cell (i := 1) rfl
        have ra2 := A6.out.cell (i := 2) rfl
        have ra3 := A6.out.cell (i := 3) rfl
        have ra4 := A6.out.cell (i := 4) rfl
        have BC := hid ((Below.refl w6.heap.size w6).alloc (Nat.le_refl _) (.cells #[.slice none 0 0, .int .i64 41, .int .i64 o.size, .int .i64 (ttlN o), .slice z (optB o.os).length t] 67))
        have KC := hid (Bl.new 67 w6 #[.slice none 0 0, .int .i64 41, .int .i64 o.size, .int .i64 (ttlN o), .slice z (optB o.os).length t])
        have hl2 : ((silR r3).length + 1) * 72 ≤ 140737488355328 := by have := L3.out; have := sil_len r3; omega
        have HSC : Hid ((w6.alloc (.cells #[.slice none 0 0, .int .i64 41, .int .i64 o.size, .int .i64 (ttlN o), .slice z (optB o.os).length t] 67)).heap.size = w6.heap.size + 1) := hid (by simp)
        have R6C := hid (R6.out.below BC.out)
        have Y6C := hid (Y6.out.below BC.out)
        go_wp2_with (at_builtin; refine wpList_append_rrow (r := otR o) (B := 0) (P := fun k => k < wp.heap.size ∨ (rb < k ∧ k < w5.heap.size)) (y := none) (s := 0) rfl _ _ rfl rfl rfl R6C.out KC.out (Strs.empty _) Y6C.out Y2.out (fun a ha => by cases ha) (fun a ha => ⟨Nat.zero_le _, (YB.out a ha).imp_right (fun q => ⟨Or.inr ⟨by have := Y3.out a ha; omega, by omega⟩, fun e => by have := TO.out _ e.symm; omega⟩)⟩) hl2 (Nat.zero_le _) (fun k hk => by have := HS6.out; have := HSC.out; omega) ?_)
        intro v7 w7 hr7 hg7 hloc
        have HRB := hid hrbw
        obtain ⟨y4, d4, hv4⟩ := hr7.toR.val
        obtain ⟨n4, hn4⟩ : ∃ n, (silR r3 ++ [otR o]).length = n := ⟨_, rfl⟩
        rw [hn4] at hv4
        subst hv4
        have HN := hid hn4
        clear hn4
        have HLT : Hid (w.heap.size + 2 < wr.heap.size) := hid (by omega)
        have NE : Hid (∀ b, b < wr.heap.size → some b ≠ (Value.slice y (silR r3).length d).ownBlock) := hid (fun b hb e => by have := TO.out b e.symm; omega)
        have NO : Hid (∀ b, b < wr.heap.size → (Value.slice y4 n4 d4).ownBlock ≠ some b) := hid (fun b hb e => by
          rcases hloc with q | q
          · rw [q] at e; exact NE.out _ hb e.symm
          · rw [q] at e; have := Option.some.inj e; have := HS6.out; have := HSC.out; omega)
        have M7 := hid ((M6.out.below BC.out).grown hg7 (NE.out _ (by have := HLT.out; omega)))
        have Z7 := hid ((Z6.out.below BC.out).grown hg7 (NE.out _ (by have := HLT.out; omega)))
        have B7 := hid ((grown_on B6.out BC.out).grown hg7 (grown_on B6.out BC.out).size (fun k hk => by have := TO.out k hk; have := HLT.out; omega))
        have R7 := hid hr7
        have c14 := M7.out.cell (i := 14) rfl
        have z14 := M7.out.frozen 14
        clear hr7 hg7 hloc m14 ra0 ra1 ra2 ra3 ra4 BC KC R6C Y6C M6 Z6 A6 R6 Y6 B6
        go_upto_region 12 with fail
        have M8 : Hid (Bl 28 (w7.setCell ⟨w.heap.size, 14, none⟩ (.slice y4 n4 d4)) w.heap.size #[.int .i64 h.id, .bool h.an, .int .i64 h.op, .bool h.aa, .bool h.tc, .bool h.rd, .bool h.ra, .bool h.z, .bool h.ad, .bool h.cd, .int .i64 h.code, .slice xq qs.length cq, .slice x1 r1.length c1, .slice x2 r2.length c2, .slice y4 n4 d4]) := hid (M7.out.set 14 _)
        have Z8 := hid (Z7.out.far (p := ⟨w.heap.size, 14, none⟩) (by simp only; omega) (.slice y4 n4 d4))
        have R8 := hid (R7.out.kept (grown_set (grown_refl w7 (some w.heap.size)) 14 (.slice y4 n4 d4)) (by omega) (NO.out _ (by have := HLT.out; omega)))
        have B8 := hid (B7.out.setCell (p := ⟨w.heap.size, 14, none⟩) (Nat.le_refl _) (.slice y4 n4 d4))
        clear M7 Z7 R7 B7 c14 z14
        generalize w7.setCell ⟨w.heap.size, 14, none⟩ (.slice y4 n4 d4) = w8 at *
        have ML8 := hid (Bl.range [.int .i64 h.id, .bool h.an, .int .i64 h.op, .bool h.aa, .bool h.tc, .bool h.rd, .bool h.ra, .bool h.z, .bool h.ad, .bool h.cd, .int .i64 h.code, .slice xq qs.length cq, .slice x1 r1.length c1, .slice x2 r2.length c2, .slice y4 n4 d4] M8.out)
        go_wp2_with (first | (refine wpList_load_mid rfl 28 _ rfl w.heap.size 0 rfl [.int .i64 h.id, .bool h.an, .int .i64 h.op, .bool h.aa, .bool h.tc, .bool h.rd, .bool h.ra, .bool h.z, .bool h.ad, .bool h.cd, .int .i64 h.code, .slice xq qs.length cq, .slice x1 r1.length c1, .slice x2 r2.length c2, .slice y4 n4 d4] _ ML8.out Tryd.underlying28 rfl size_message ?_) | (refine wpList_store_row rfl 28 (.tmp 4) (.tmp 74) rfl (w.heap.size + 1 + 1) #[.int .i64 h.id, .bool h.an, .int .i64 h.op, .bool h.aa, .bool h.tc, .bool h.rd, .bool h.ra, .bool h.z, .bool h.ad, .bool h.cd, .int .i64 h.code, .slice xq qs.length cq, .slice x1 r1.length c1, .slice x2 r2.length c2, .slice y4 n4 d4] rfl rfl 28 ms0 Z8.out size_message rfl (by simp [Value.oneCell']) ?_) | fail)
        refine bodyPost_ret (results_telling _ _ (w.heap.size + 1 + 1) [.int .i64 h.id, .bool h.an, .int .i64 h.op, .bool h.aa, .bool h.tc, .bool h.rd, .bool h.ra, .bool h.z, .bool h.ad, .bool h.cd, .int .i64 h.code, .slice xq qs.length cq, .slice x1 r1.length c1, .slice x2 r2.length c2, .slice y4 n4 d4] rfl rfl (Z8.out.rowSet _)) rfl ?_
        have R9 := R8.out.kept (grown_row w8 (w.heap.size + 1 + 1) #[.int .i64 h.id, .bool h.an, .int .i64 h.op, .bool h.aa, .bool h.tc, .bool h.rd, .bool h.ra, .bool h.z, .bool h.ad, .bool h.cd, .int .i64 h.code, .slice xq qs.length cq, .slice x1 r1.length c1, .slice x2 r2.length c2, .slice y4 n4 d4]) (by omega) (NO.out _ (by have := HLT.out; omega))
        have B9 := below_setRow B8.out (show w.heap.size ≤ w.heap.size + 1 + 1 by omega) #[.int .i64 h.id, .bool h.an, .int .i64 h.op, .bool h.aa, .bool h.tc, .bool h.rd, .bool h.ra, .bool h.z, .bool h.ad, .bool h.cd, .int .i64 h.code, .slice xq qs.length cq, .slice x1 r1.length c1, .slice x2 r2.length c2, .slice y4 n4 d4]
        have hn := HN.out
        subst hn
        exact ⟨y4, d4, rfl, R9.weak (fun k hk => by have := HLT.out; omega), fun g hg => by have := HLT.out; rcases Nat.lt_or_ge g wr.heap.size with q | q; exact absurd hg (NO.out _ q); omega, B9⟩

end Go.Proofs.YtbbgabdiikdjpaaDoor
