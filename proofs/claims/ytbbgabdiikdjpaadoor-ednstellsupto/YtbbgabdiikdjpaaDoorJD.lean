/-
  The walk of package edns' Drop: the message without records of type 41 in its last section, in memory of its own. The walk of package edns' Find: what a message tells of itself. The walk of package edns' Set: a message that tells this of itself.
-/
import Derived.Test.YtbbgabdiikdjpaaDoorJC
import Derived.Test.YtbbgabdiikdjpaaDoorJE
import Derived.Test.YtbbgabdiikdjpaaDoorJF
namespace Go.Proofs.YtbbgabdiikdjpaaDoor
open Go.RowKit Go.Deep

/-- Records but those of type 41. -/
def silR (rs : List Rn) : List Rn := rs.filter (fun r => !decide (r.ty = 41))

theorem sil_next {rs : List Rn} {i : Nat} (hi : i < rs.length) : silR (rs.take (i + 1)) = if rs[i].ty = 41 then silR (rs.take i) else silR (rs.take i) ++ [rs[i]] := by
  unfold silR
  rw [List.take_succ_eq_append_getElem hi, List.filter_append]
  by_cases c : rs[i].ty = 41
  · rw [if_pos c]; simp [c]
  · rw [if_neg c]; simp [c]

theorem sil_len (rs : List Rn) : (silR rs).length ≤ rs.length := List.length_filter_le _ _

set_option maxRecDepth 100000 in
theorem results_drop (tmps : Array Value) (w : World) (b : Nat) (v0 v1 v2 v3 v4 v5 v6 v7 v8 v9 v10 v11 v12 v13 v14 : Value) (hp : tmps.getD 2 undef = .pointer (some ⟨b, 0, none⟩)) (hb : Bl 28 w b #[v0, v1, v2, v3, v4, v5, v6, v7, v8, v9, v10, v11, v12, v13, v14]) :
    (results Tryd.f16 tmps).run Tryd.prog w = .ok (.agg #[v0, v1, v2, v3, v4, v5, v6, v7, v8, v9, v10, v11, v12, v13, v14]) w := by
  have c0 : w.cell? ⟨b, 0, none⟩ = some v0 := hb.cell (i := 0) rfl
  have c1 : w.cell? ⟨b, 1, none⟩ = some v1 := hb.cell (i := 1) rfl
  have c2 : w.cell? ⟨b, 2, none⟩ = some v2 := hb.cell (i := 2) rfl
  have c3 : w.cell? ⟨b, 3, none⟩ = some v3 := hb.cell (i := 3) rfl
  have c4 : w.cell? ⟨b, 4, none⟩ = some v4 := hb.cell (i := 4) rfl
  have c5 : w.cell? ⟨b, 5, none⟩ = some v5 := hb.cell (i := 5) rfl
  have c6 : w.cell? ⟨b, 6, none⟩ = some v6 := hb.cell (i := 6) rfl
  have c7 : w.cell? ⟨b, 7, none⟩ = some v7 := hb.cell (i := 7) rfl
  have c8 : w.cell? ⟨b, 8, none⟩ = some v8 := hb.cell (i := 8) rfl
  have c9 : w.cell? ⟨b, 9, none⟩ = some v9 := hb.cell (i := 9) rfl
  have c10 : w.cell? ⟨b, 10, none⟩ = some v10 := hb.cell (i := 10) rfl
  have c11 : w.cell? ⟨b, 11, none⟩ = some v11 := hb.cell (i := 11) rfl
  have c12 : w.cell? ⟨b, 12, none⟩ = some v12 := hb.cell (i := 12) rfl
  have c13 : w.cell? ⟨b, 13, none⟩ = some v13 := hb.cell (i := 13) rfl
  have c14 : w.cell? ⟨b, 14, none⟩ = some v14 := hb.cell (i := 14) rfl
  have hp' : tmps[2]?.getD undef = .pointer (some ⟨b, 0, none⟩) := by simpa using hp
  simp [results, Tryd.results16, go_sem, hp', c0, c1, c2, c3, c4, c5, c6, c7, c8, c9, c10, c11, c12, c13, c14]

theorem wpList_append_rl {wp w0 w : World} {xs rs : List Rn} {y : Option Addr} {m c : Nat} {ops : Array Oper} {rest : List Oper} {o : Oper} {a : Act} {Q : Exit → Act → World → Prop} (hgd : o.guard = none) (sl x : Operand)
    (ho : o.op = .call { callee := .builtin .append, args := #[sl, x], argTypes := #[26, 26] }) (v : Value) (hs : a.eval sl = v) (hx : a.eval x = .slice y m c) (h : GRow wp w0 v xs w) (hr : RList wp w y m rs) (hl : (xs.length + m) * 72 ≤ 140737488355328)
    (hK : ∀ v' w', GRow wp w0 v' (xs ++ rs) w' → w.grownBy w' v.ownBlock → wpList Tryd.prog ops Q rest (a.put o.dst v') w') : wpList Tryd.prog ops Q (o :: rest) a w := by
  refine wpList_plain hgd fun K hK' => ?_
  obtain ⟨v', w', hrun, har, hg⟩ := run_append_g (c := c) o.type v h hr hl
  unfold Oper.wp execOp
  simp only [ho, resolve, invoke, builtin, Sem.run_bind, Sem.run_pure, Result.andThen_ok, List.map_toArray, List.map_cons, List.map_nil, hs, hx, hrun]
  exact hK' _ _ (hK v' w' har hg)

theorem GRow.zero (wp w : World) : GRow wp w (.slice none 0 0) [] w := ⟨⟨[], rfl, World.ownsRow_nil _ _ _ _, fun e he => by simp at he⟩, Below.refl _ _⟩

/-- The loop of Drop: those of the first so many records that stay. -/
def DropRel (w W0 : World) (r3 : List Rn) (v vi : Value) (wr : World) : Prop := ∃ i : Nat, i ≤ r3.length ∧ vi = .int .i64 (i : Int) ∧ GRow w W0 v (silR (r3.take i)) wr

set_option maxHeartbeats 8000000 in
set_option maxRecDepth 100000 in
theorem drop_any {xq x1 x2 x3 : Option Addr} {cq c1 c2 c3 bq b1 b2 b3 : Nat} (h : Hd) (qs : List Qn) (r1 r2 r3 : List Rn) (w : World) (hq : Qs w bq xq cq qs) (hr1 : Rs w b1 x1 c1 r1) (hr2 : Rs w b2 x2 c2 r2) (hr3 : Rs w b3 x3 c3 r3) (l1 : r1.length * 72 ≤ 140737488355328) (l2 : r2.length * 72 ≤ 140737488355328) (l3 : r3.length * 72 ≤ 140737488355328) :
    Calls Tryd.prog 16 #[.agg #[.int .i64 h.id, .bool h.an, .int .i64 h.op, .bool h.aa, .bool h.tc, .bool h.rd, .bool h.ra, .bool h.z, .bool h.ad, .bool h.cd, .int .i64 h.code, .slice xq qs.length cq, .slice x1 r1.length c1, .slice x2 r2.length c2, .slice x3 r3.length c3]] w (MCopy h qs r1 r2 (silR r3) w) := by
  obtain ⟨k1, k2, k3⟩ := Bl.two 28 28 w #[.int .i64 h.id, .bool h.an, .int .i64 h.op, .bool h.aa, .bool h.tc, .bool h.rd, .bool h.ra, .bool h.z, .bool h.ad, .bool h.cd, .int .i64 h.code, .slice xq qs.length cq, .slice x1 r1.length c1, .slice x2 r2.length c2, .slice x3 r3.length c3] #[.int .i64 0, .bool false, .int .i64 0, .bool false, .bool false, .bool false, .bool false, .bool false, .bool false, .bool false, .int .i64 0, .slice none 0 0, .slice none 0 0, .slice none 0 0, .slice none 0 0]
  have hs : ((w.alloc (.cells #[.int .i64 h.id, .bool h.an, .int .i64 h.op, .bool h.aa, .bool h.tc, .bool h.rd, .bool h.ra, .bool h.z, .bool h.ad, .bool h.cd, .int .i64 h.code, .slice xq qs.length cq, .slice x1 r1.length c1, .slice x2 r2.length c2, .slice x3 r3.length c3] 28)).alloc (.cells #[.int .i64 0, .bool false, .int .i64 0, .bool false, .bool false, .bool false, .bool false, .bool false, .bool false, .bool false, .int .i64 0, .slice none 0 0, .slice none 0 0, .slice none 0 0, .slice none 0 0] 28)).heap.size = w.heap.size + 2 := by simp
  have HQ := hid hq
  have H1 := hid hr1
  have H2 := hid hr2
  have H3 := hid hr3
  have L1 := hid l1
  have L2 := hid l2
  have hlen := hr3.2.1
  have G14 : _ := k1.cell (i := 14) rfl
  clear hq hr1 hr2 hr3 l1 l2
  go_enter Tryd.func16, Tryd.ntmps16
  go_upto_region 2 with fail
  generalize (w.alloc (.cells #[.int .i64 h.id, .bool h.an, .int .i64 h.op, .bool h.aa, .bool h.tc, .bool h.rd, .bool h.ra, .bool h.z, .bool h.ad, .bool h.cd, .int .i64 h.code, .slice xq qs.length cq, .slice x1 r1.length c1, .slice x2 r2.length c2, .slice x3 r3.length c3] 28)).alloc (.cells #[.int .i64 0, .bool false, .int .i64 0, .bool false, .bool false, .bool false, .bool false, .bool false, .bool false, .bool false, .int .i64 0, .slice none 0 0, .slice none 0 0, .slice none 0 0, .slice none 0 0] 28) = W0 at *
  have K1 := hid k1
  have K2 := hid k2
  have K3 := hid k3
  have HS := hid hs
  clear k1 k2 k3 hs
  go_wp2_with fail
  go_loopw [3, 9] (fun v vi wr => DropRel w W0 r3 v vi wr) (fun _ i _ => r3.length - (intOf i).toNat)
  case atStart => exact ⟨0, Nat.zero_le _, rfl, GRow.zero w W0⟩
  case round =>
    obtain ⟨i, hi, rfl, hrow⟩ := hrel
    have HR := hid hrow
    clear hrow
    by_cases ci : i < r3.length
    · obtain ⟨b0, o0, y, s, z, t, rfl, hb0, p0, p1, p2, p3, p4, q1, q2, q3⟩ := H3.out.at ci
      have B0 := grown_on K3.out HR.out.2
      have e0 := (B0.cell (p := ⟨b0, o0 + i * 5, none⟩) hb0).trans p0
      have e1 := (B0.cell (p := ⟨b0, o0 + i * 5 + 1, none⟩) hb0).trans p1
      have e2 := (B0.cell (p := ⟨b0, o0 + i * 5 + 2, none⟩) hb0).trans p2
      have e3 := (B0.cell (p := ⟨b0, o0 + i * 5 + 3, none⟩) hb0).trans p3
      have e4 := (B0.cell (p := ⟨b0, o0 + i * 5 + 4, none⟩) hb0).trans p4
      have NX := hid (sil_next ci)
      have hsl : (silR (r3.take i)).length ≤ i := Nat.le_trans (sil_len _) (by rw [List.length_take]; omega)
      generalize r3[i] = r at *
      have Q1 := hid q1
      have Q2 := hid q2
      have Q3 := hid q3
      have ci2 : (i : Int) < (r3.length : Int) := by omega
      have hcap := H3.out.1
      have BA := hid ((Below.refl wr.heap.size wr).alloc (Nat.le_refl _) (.cells #[.slice y r.N.length s, .int .i64 r.ty, .int .i64 r.cl, .int .i64 r.ttl, .slice z r.D.length t] 67))
      clear p0 p1 p2 p3 p4 q1 q2 q3 B0 G14
      by_cases ct : r.ty = 41
      · have G2 := hid (HR.out.below BA.out)
        rw [ct] at e1
        go_wp2_with fail
        refine ⟨⟨i + 1, by omega, by go_num, ?_⟩, by simp [intOf]; omega⟩
        rw [NX.out, if_pos ct]
        have := G2.out
        rw [ct] at this
        exact this
      · have G2 : Hid (GRow w W0 u3 (silR (r3.take i)) ((wr.alloc (.cells #[.slice y r.N.length s, .int .i64 r.ty, .int .i64 r.cl, .int .i64 r.ttl, .slice z r.D.length t] 67)).alloc (.cells #[.slice y r.N.length s, .int .i64 r.ty, .int .i64 r.cl, .int .i64 r.ttl, .slice z r.D.length t] 67))) := hid ((HR.out.below BA.out).below ((Below.refl _ _).alloc (Nat.le_refl _) _))
        have RL : Hid (RList w ((wr.alloc (.cells #[.slice y r.N.length s, .int .i64 r.ty, .int .i64 r.cl, .int .i64 r.ttl, .slice z r.D.length t] 67)).alloc (.cells #[.slice y r.N.length s, .int .i64 r.ty, .int .i64 r.cl, .int .i64 r.ttl, .slice z r.D.length t] 67)) (some ⟨wr.heap.size + 1, 0, none⟩) 1 [r]) := hid (one_of (Bl.new2 67 wr (.cells #[.slice y r.N.length s, .int .i64 r.ty, .int .i64 r.cl, .int .i64 r.ttl, .slice z r.D.length t] 67) _) Q1.out Q2.out Q3.out)
        have hl2 : ((silR (r3.take i)).length + 1) * 72 ≤ 140737488355328 := by omega
        go_wp2_with (at_builtin; refine wpList_append_rl rfl _ _ rfl _ rfl rfl G2.out RL.out hl2 ?_)
        intro v1 w2 hg2 _
        have G3 := hid hg2
        clear hg2 G2 RL
        go_wp2_with fail
        refine ⟨⟨i + 1, by omega, by go_num, ?_⟩, by simp [intOf]; omega⟩
        rw [NX.out, if_neg ct]
        exact G3.out
    · have ei : i = r3.length := by omega
      subst ei
      rw [List.take_of_length_le (Nat.le_refl _)] at HR
      have hsl := sil_len r3
      have KW1 := hid (K1.out.below HR.out.2)
      have KW2 := hid (K2.out.below HR.out.2)
      have BW := hid (grown_on K3.out HR.out.2)
      obtain ⟨x4, c4, rfl, hput⟩ := HR.out.put K3.out (by omega) (p := ⟨w.heap.size, 14, none⟩) (Nat.le_refl _) (by rw [HS.out]; exact Nat.lt_succ_of_lt (Nat.lt_succ_self _))
      have R4 := hid (hput (.slice x4 (silR r3).length c4))
      have c14 : wr.cell? ⟨w.heap.size, 14, none⟩ = _ := KW1.out.cell (i := 14) rfl
      have z14 := KW1.out.frozen 14
      clear G14 hput HR
      go_upto_region 9 with fail
      have KA : Hid (Bl 28 (wr.setCell ⟨w.heap.size, 14, none⟩ (.slice x4 (silR r3).length c4)) w.heap.size #[.int .i64 h.id, .bool h.an, .int .i64 h.op, .bool h.aa, .bool h.tc, .bool h.rd, .bool h.ra, .bool h.z, .bool h.ad, .bool h.cd, .int .i64 h.code, .slice xq qs.length cq, .slice x1 r1.length c1, .slice x2 r2.length c2, .slice x4 (silR r3).length c4]) := hid (KW1.out.set 14 _)
      have KB := hid (KW2.out.far (p := ⟨w.heap.size, 14, none⟩) (by simp) (.slice x4 (silR r3).length c4))
      have BB := hid (BW.out.setCell (p := ⟨w.heap.size, 14, none⟩) (Nat.le_refl _) (.slice x4 (silR r3).length c4))
      generalize wr.setCell ⟨w.heap.size, 14, none⟩ (.slice x4 (silR r3).length c4) = w3 at *
      clear c14 z14 KW1 KW2 BW
      have g0 : w3.cell? ⟨w.heap.size, 0, none⟩ = some (.int .i64 h.id) := KA.out.cell (i := 0) rfl
      have g1 : w3.cell? ⟨w.heap.size, 1, none⟩ = some (.bool h.an) := KA.out.cell (i := 1) rfl
      have g2 : w3.cell? ⟨w.heap.size, 2, none⟩ = some (.int .i64 h.op) := KA.out.cell (i := 2) rfl
      have g3 : w3.cell? ⟨w.heap.size, 3, none⟩ = some (.bool h.aa) := KA.out.cell (i := 3) rfl
      have g4 : w3.cell? ⟨w.heap.size, 4, none⟩ = some (.bool h.tc) := KA.out.cell (i := 4) rfl
      have g5 : w3.cell? ⟨w.heap.size, 5, none⟩ = some (.bool h.rd) := KA.out.cell (i := 5) rfl
      have g6 : w3.cell? ⟨w.heap.size, 6, none⟩ = some (.bool h.ra) := KA.out.cell (i := 6) rfl
      have g7 : w3.cell? ⟨w.heap.size, 7, none⟩ = some (.bool h.z) := KA.out.cell (i := 7) rfl
      have g8 : w3.cell? ⟨w.heap.size, 8, none⟩ = some (.bool h.ad) := KA.out.cell (i := 8) rfl
      have g9 : w3.cell? ⟨w.heap.size, 9, none⟩ = some (.bool h.cd) := KA.out.cell (i := 9) rfl
      have g10 : w3.cell? ⟨w.heap.size, 10, none⟩ = some (.int .i64 h.code) := KA.out.cell (i := 10) rfl
      have g11 : w3.cell? ⟨w.heap.size, 11, none⟩ = some (.slice xq qs.length cq) := KA.out.cell (i := 11) rfl
      have g12 : w3.cell? ⟨w.heap.size, 12, none⟩ = some (.slice x1 r1.length c1) := KA.out.cell (i := 12) rfl
      have g13 : w3.cell? ⟨w.heap.size, 13, none⟩ = some (.slice x2 r2.length c2) := KA.out.cell (i := 13) rfl
      have g14 : w3.cell? ⟨w.heap.size, 14, none⟩ = some (.slice x4 (silR r3).length c4) := KA.out.cell (i := 14) rfl
      go_wp2_with fail
      refine (fmsg_any h qs r1 r2 (silR r3) w3 (HQ.out.below BB.out) (H1.out.below BB.out) (H2.out.below BB.out) R4.out L1.out L2.out (by omega)).mono ?_
      rintro e w5 ⟨yq, dq, y1, d1, y2, d2, y3, d3, rfl, m1, m5⟩
      have s3 : w.heap.size + 1 < w3.heap.size := KB.out.lt
      have KZ := hid (KB.out.below m5)
      have BZ := hid (grown_on BB.out m5)
      have M1 := hid m1
      clear m1 m5 g0 g1 g2 g3 g4 g5 g6 g7 g8 g9 g10 g11 g12 g13 g14
      have f0 : w5.frozen? ⟨w.heap.size + 1, 0, none⟩ = false := KZ.out.frozen 0
      have e0 : w5.cell? ⟨w.heap.size + 1, 0, none⟩ = some (.int .i64 0) := KZ.out.cell (i := 0) rfl
      have f1 : w5.frozen? ⟨w.heap.size + 1, 1, none⟩ = false := KZ.out.frozen 1
      have e1 : w5.cell? ⟨w.heap.size + 1, 1, none⟩ = some (.bool false) := KZ.out.cell (i := 1) rfl
      have f2 : w5.frozen? ⟨w.heap.size + 1, 2, none⟩ = false := KZ.out.frozen 2
      have e2 : w5.cell? ⟨w.heap.size + 1, 2, none⟩ = some (.int .i64 0) := KZ.out.cell (i := 2) rfl
      have f3 : w5.frozen? ⟨w.heap.size + 1, 3, none⟩ = false := KZ.out.frozen 3
      have e3 : w5.cell? ⟨w.heap.size + 1, 3, none⟩ = some (.bool false) := KZ.out.cell (i := 3) rfl
      have f4 : w5.frozen? ⟨w.heap.size + 1, 4, none⟩ = false := KZ.out.frozen 4
      have e4 : w5.cell? ⟨w.heap.size + 1, 4, none⟩ = some (.bool false) := KZ.out.cell (i := 4) rfl
      have f5 : w5.frozen? ⟨w.heap.size + 1, 5, none⟩ = false := KZ.out.frozen 5
      have e5 : w5.cell? ⟨w.heap.size + 1, 5, none⟩ = some (.bool false) := KZ.out.cell (i := 5) rfl
      have f6 : w5.frozen? ⟨w.heap.size + 1, 6, none⟩ = false := KZ.out.frozen 6
      have e6 : w5.cell? ⟨w.heap.size + 1, 6, none⟩ = some (.bool false) := KZ.out.cell (i := 6) rfl
      have f7 : w5.frozen? ⟨w.heap.size + 1, 7, none⟩ = false := KZ.out.frozen 7
      have e7 : w5.cell? ⟨w.heap.size + 1, 7, none⟩ = some (.bool false) := KZ.out.cell (i := 7) rfl
      have f8 : w5.frozen? ⟨w.heap.size + 1, 8, none⟩ = false := KZ.out.frozen 8
      have e8 : w5.cell? ⟨w.heap.size + 1, 8, none⟩ = some (.bool false) := KZ.out.cell (i := 8) rfl
      have f9 : w5.frozen? ⟨w.heap.size + 1, 9, none⟩ = false := KZ.out.frozen 9
      have e9 : w5.cell? ⟨w.heap.size + 1, 9, none⟩ = some (.bool false) := KZ.out.cell (i := 9) rfl
      have f10 : w5.frozen? ⟨w.heap.size + 1, 10, none⟩ = false := KZ.out.frozen 10
      have e10 : w5.cell? ⟨w.heap.size + 1, 10, none⟩ = some (.int .i64 0) := KZ.out.cell (i := 10) rfl
      have f11 : w5.frozen? ⟨w.heap.size + 1, 11, none⟩ = false := KZ.out.frozen 11
      have e11 : w5.cell? ⟨w.heap.size + 1, 11, none⟩ = some (.slice none 0 0) := KZ.out.cell (i := 11) rfl
      have f12 : w5.frozen? ⟨w.heap.size + 1, 12, none⟩ = false := KZ.out.frozen 12
      have e12 : w5.cell? ⟨w.heap.size + 1, 12, none⟩ = some (.slice none 0 0) := KZ.out.cell (i := 12) rfl
      have f13 : w5.frozen? ⟨w.heap.size + 1, 13, none⟩ = false := KZ.out.frozen 13
      have e13 : w5.cell? ⟨w.heap.size + 1, 13, none⟩ = some (.slice none 0 0) := KZ.out.cell (i := 13) rfl
      have f14 : w5.frozen? ⟨w.heap.size + 1, 14, none⟩ = false := KZ.out.frozen 14
      have e14 : w5.cell? ⟨w.heap.size + 1, 14, none⟩ = some (.slice none 0 0) := KZ.out.cell (i := 14) rfl
      go_wp2_with fail
      have GR := grown_put15 w5 (w.heap.size + 1) (.int .i64 h.id) (.bool h.an) (.int .i64 h.op) (.bool h.aa) (.bool h.tc) (.bool h.rd) (.bool h.ra) (.bool h.z) (.bool h.ad) (.bool h.cd) (.int .i64 h.code) (.slice yq qs.length dq) (.slice y1 r1.length d1) (.slice y2 r2.length d2) (.slice y3 (silR r3).length d3)
      refine bodyPost_ret (results_drop _ _ (w.heap.size + 1) _ _ _ _ _ _ _ _ _ _ _ _ _ _ _ rfl ((show Bl 28 w5 (w.heap.size + 1) ms0 from KZ.out).put15 _ _ _ _ _ _ _ _ _ _ _ _ _ _ _)) rfl ?_
      exact ⟨yq, dq, y1, d1, y2, d2, y3, d3, rfl, (M1.out.put GR s3).base (by omega), below_put15 BZ.out (by omega) _ _ _ _ _ _ _ _ _ _ _ _ _ _ _⟩

end Go.Proofs.YtbbgabdiikdjpaaDoor

namespace Go.Proofs.YtbbgabdiikdjpaaDoor
open Go.RowKit Go.Deep

/-- Records of type 41. -/
def telR (rs : List Rn) : List Rn := rs.filter (fun r => decide (r.ty = 41))

theorem tel_next {rs : List Rn} {i : Nat} (hi : i < rs.length) : telR (rs.take (i + 1)) = if rs[i].ty = 41 then telR (rs.take i) ++ [rs[i]] else telR (rs.take i) := by
  unfold telR
  rw [List.take_succ_eq_append_getElem hi, List.filter_append]
  by_cases c : rs[i].ty = 41
  · rw [if_pos c]; simp [c]
  · rw [if_neg c]; simp [c]

theorem tel_len (rs : List Rn) : (telR rs).length ≤ rs.length := List.length_filter_le _ _

/-- What records tell. -/
def findN (rs : List Rn) : Int × Option Ot :=
  match telR rs with
  | [] => (0, none)
  | [r] => match recO r with | some o => (0, some o) | none => (1, none)
  | _ => (10, none)

/-- What Find answers. -/
def FindP (rs : List Rn) (w : World) (e : Ending) (w' : World) : Prop :=
  (∃ k, findN rs = (k, none) ∧ e = .returned (.tuple #[.agg #[.int .i64 0, .int .i64 0, .int .i64 0, .bool false, .int .i64 0, .slice none 0 0], .bool false, errV k]) ∧ Below w.heap.size w w') ∨
  (∃ o x c, findN rs = (0, some o) ∧ e = .returned (.tuple #[.agg #[.int .i64 o.size, .int .i64 o.code, .int .i64 o.ver, .bool o.dO, .int .i64 o.z, .slice x o.os.length c], .bool true, .nilIface]) ∧ Ops w' w.heap.size x c o.os ∧ Below w.heap.size w w')

theorem findN_none {rs : List Rn} (h : telR rs = []) : findN rs = (0, none) := by unfold findN; rw [h]
theorem findN_two {rs : List Rn} (h : 1 < (telR rs).length) : findN rs = (10, none) := by
  unfold findN
  cases q : telR rs with
  | nil => rw [q] at h; simp at h
  | cons a l =>
    cases l with
    | nil => rw [q] at h; simp at h
    | cons b l => rfl
theorem findN_one {rs : List Rn} {r : Rn} (h : telR rs = [r]) : findN rs = match recO r with | some o => (0, some o) | none => (1, none) := by unfold findN; rw [h]
theorem findN_bad {rs : List Rn} {r : Rn} (h : telR rs = [r]) (h2 : recO r = none) : findN rs = (1, none) := by rw [findN_one h, h2]
theorem findN_good {rs : List Rn} {r : Rn} {o : Ot} (h : telR rs = [r]) (h2 : recO r = some o) : findN rs = (0, some o) := by rw [findN_one h, h2]

theorem results_find (tmps : Array Value) (w : World) (b : Nat) (v0 v1 v2 v3 v4 v5 : Value) (hp : tmps.getD 2 undef = .pointer (some ⟨b, 0, none⟩)) (hb : Bl 46 w b #[v0, v1, v2, v3, v4, v5]) :
    (results Tryd.f14 tmps).run Tryd.prog w = .ok (.tuple #[.agg #[v0, v1, v2, v3, v4, v5], tmps.getD 3 undef, tmps.getD 4 undef]) w := by
  have c0 : w.cell? ⟨b, 0, none⟩ = some v0 := hb.cell (i := 0) rfl
  have c1 : w.cell? ⟨b, 1, none⟩ = some v1 := hb.cell (i := 1) rfl
  have c2 : w.cell? ⟨b, 2, none⟩ = some v2 := hb.cell (i := 2) rfl
  have c3 : w.cell? ⟨b, 3, none⟩ = some v3 := hb.cell (i := 3) rfl
  have c4 : w.cell? ⟨b, 4, none⟩ = some v4 := hb.cell (i := 4) rfl
  have c5 : w.cell? ⟨b, 5, none⟩ = some v5 := hb.cell (i := 5) rfl
  have hp' : tmps[2]?.getD undef = .pointer (some ⟨b, 0, none⟩) := by simpa using hp
  simp [results, Tryd.results14, go_sem, hp', c0, c1, c2, c3, c4, c5]

theorem GRow.open' {wp w0 w : World} {v : Value} {rs : List Rn} (h : GRow wp w0 v rs w) (hw : Below wp.heap.size wp w0) (hl : rs.length ≤ 4000000000000) : ∃ x c, v = .slice x rs.length c ∧ Rs w 0 x c rs := by
  obtain ⟨⟨L, h3, h4, h5⟩, hb⟩ := h
  exact ARow.open ⟨⟨L, h3, owns_base5 h4 hw.size, h5⟩, wp_on hw hb⟩ hl

/-- The loop of Find: those of the first so many records that tell. -/
def FindRel (w W0 : World) (r3 : List Rn) (v vi : Value) (wr : World) : Prop := ∃ i : Nat, i ≤ r3.length ∧ vi = .int .i64 (i : Int) ∧ GRow w W0 v (telR (r3.take i)) wr

set_option maxHeartbeats 8000000 in
set_option maxRecDepth 100000 in
theorem find_any {xq x1 x2 x3 : Option Addr} {lq l1 l2 cq c1 c2 c3 b3 : Nat} (h : Hd) (r3 : List Rn) (w : World) (hr3 : Rs w b3 x3 c3 r3) (l3 : r3.length * 72 ≤ 140737488355328) (hD : ∀ r ∈ telR r3, r.D.length ≤ 100000000) :
    Calls Tryd.prog 14 #[.agg #[.int .i64 h.id, .bool h.an, .int .i64 h.op, .bool h.aa, .bool h.tc, .bool h.rd, .bool h.ra, .bool h.z, .bool h.ad, .bool h.cd, .int .i64 h.code, .slice xq lq cq, .slice x1 l1 c1, .slice x2 l2 c2, .slice x3 r3.length c3]] w (FindP r3 w) := by
  obtain ⟨k1, k2, k3⟩ := Bl.two 28 46 w #[.int .i64 h.id, .bool h.an, .int .i64 h.op, .bool h.aa, .bool h.tc, .bool h.rd, .bool h.ra, .bool h.z, .bool h.ad, .bool h.cd, .int .i64 h.code, .slice xq lq cq, .slice x1 l1 c1, .slice x2 l2 c2, .slice x3 r3.length c3] #[.int .i64 0, .int .i64 0, .int .i64 0, .bool false, .int .i64 0, .slice none 0 0]
  have hs : ((w.alloc (.cells #[.int .i64 h.id, .bool h.an, .int .i64 h.op, .bool h.aa, .bool h.tc, .bool h.rd, .bool h.ra, .bool h.z, .bool h.ad, .bool h.cd, .int .i64 h.code, .slice xq lq cq, .slice x1 l1 c1, .slice x2 l2 c2, .slice x3 r3.length c3] 28)).alloc (.cells #[.int .i64 0, .int .i64 0, .int .i64 0, .bool false, .int .i64 0, .slice none 0 0] 46)).heap.size = w.heap.size + 1 + 1 := by simp
  have H3 := hid hr3
  have HDL := hid hD
  have hlen := hr3.2.1
  have G4 : _ := k1.cell (i := 14) rfl
  clear hr3 hD
  go_enter Tryd.func14, Tryd.ntmps14
  go_upto_region 2 with fail
  generalize (w.alloc (.cells #[.int .i64 h.id, .bool h.an, .int .i64 h.op, .bool h.aa, .bool h.tc, .bool h.rd, .bool h.ra, .bool h.z, .bool h.ad, .bool h.cd, .int .i64 h.code, .slice xq lq cq, .slice x1 l1 c1, .slice x2 l2 c2, .slice x3 r3.length c3] 28)).alloc (.cells #[.int .i64 0, .int .i64 0, .int .i64 0, .bool false, .int .i64 0, .slice none 0 0] 46) = W0 at *
  have K1 := hid k1
  have K2 := hid k2
  have K3 := hid k3
  have HS := hid hs
  clear k1 k2 k3 hs
  go_wp2_with fail
  go_loopw [5, 13] (fun v vi wr => FindRel w W0 r3 v vi wr) (fun _ i _ => r3.length - (intOf i).toNat)
  case atStart => exact ⟨0, Nat.zero_le _, rfl, GRow.zero w W0⟩
  case round =>
    obtain ⟨i, hi, rfl, hrow⟩ := hrel
    have HR := hid hrow
    clear hrow
    by_cases ci : i < r3.length
    · obtain ⟨b0, o0, y, s, z, t, rfl, hb0, p0, p1, p2, p3, p4, q1, q2, q3⟩ := H3.out.at ci
      have B0 := grown_on K3.out HR.out.2
      have e0 := (B0.cell (p := ⟨b0, o0 + i * 5, none⟩) hb0).trans p0
      have e1 := (B0.cell (p := ⟨b0, o0 + i * 5 + 1, none⟩) hb0).trans p1
      have e2 := (B0.cell (p := ⟨b0, o0 + i * 5 + 2, none⟩) hb0).trans p2
      have e3 := (B0.cell (p := ⟨b0, o0 + i * 5 + 3, none⟩) hb0).trans p3
      have e4 := (B0.cell (p := ⟨b0, o0 + i * 5 + 4, none⟩) hb0).trans p4
      have NX := hid (tel_next ci)
      have hsl : (telR (r3.take i)).length ≤ i := Nat.le_trans (tel_len _) (by rw [List.length_take]; omega)
      generalize r3[i] = r at *
      have Q1 := hid q1
      have Q2 := hid q2
      have Q3 := hid q3
      have ci2 : (i : Int) < (r3.length : Int) := by omega
      have hcap := H3.out.1
      have BA := hid ((Below.refl wr.heap.size wr).alloc (Nat.le_refl _) (.cells #[.slice y r.N.length s, .int .i64 r.ty, .int .i64 r.cl, .int .i64 r.ttl, .slice z r.D.length t] 67))
      clear p0 p1 p2 p3 p4 q1 q2 q3 B0 G4
      by_cases ct : r.ty = 41
      · obtain ⟨N, ty, cl, ttl, D⟩ := r
        dsimp only at ct
        subst ct
        dsimp only at *
        have G2 : Hid (GRow w W0 _ (telR (r3.take i)) ((wr.alloc (.cells #[.slice y N.length s, .int .i64 41, .int .i64 cl, .int .i64 ttl, .slice z D.length t] 67)).alloc (.cells #[.slice y N.length s, .int .i64 41, .int .i64 cl, .int .i64 ttl, .slice z D.length t] 67))) := hid ((HR.out.below BA.out).below ((Below.refl _ _).alloc (Nat.le_refl _) _))
        have RL : Hid (RList w ((wr.alloc (.cells #[.slice y N.length s, .int .i64 41, .int .i64 cl, .int .i64 ttl, .slice z D.length t] 67)).alloc (.cells #[.slice y N.length s, .int .i64 41, .int .i64 cl, .int .i64 ttl, .slice z D.length t] 67)) (some ⟨wr.heap.size + 1, 0, none⟩) 1 [⟨N, 41, cl, ttl, D⟩]) := hid (one_of (Bl.new2 67 wr (.cells #[.slice y N.length s, .int .i64 41, .int .i64 cl, .int .i64 ttl, .slice z D.length t] 67) _) Q1.out Q2.out Q3.out)
        have hl2 : ((telR (r3.take i)).length + 1) * 72 ≤ 140737488355328 := by omega
        go_wp2_with (at_builtin; refine wpList_append_rl rfl _ _ rfl _ rfl rfl G2.out RL.out hl2 ?_)
        intro v1 w2 hg2 _
        have G3 := hid hg2
        clear hg2 G2 RL
        go_wp2_with fail
        refine ⟨⟨i + 1, by omega, by go_num, ?_⟩, by simp [intOf]; omega⟩
        rw [NX.out, if_pos trivial]
        exact G3.out
      · have G2 := hid (HR.out.below BA.out)
        go_wp2_with fail
        refine ⟨⟨i + 1, by omega, by go_num, ?_⟩, by simp [intOf]; omega⟩
        rw [NX.out, if_neg ct]
        exact G2.out
    · have ei : i = r3.length := by omega
      subst ei
      rw [List.take_of_length_le (Nat.le_refl _)] at HR
      have hsl := tel_len r3
      have KW2 := hid (K2.out.below HR.out.2)
      have BW := hid (grown_on K3.out HR.out.2)
      have HWR : Hid (w.heap.size + 2 ≤ wr.heap.size) := hid (by have q1 := HR.out.2.size; have q2 := HS.out; omega)
      obtain ⟨x4, c4, rfl, hR4⟩ := HR.out.open' K3.out (by omega)
      have R4 := hid hR4
      clear G4 hR4 HR
      have f0 := KW2.out.frozen 0
      have f1 := KW2.out.frozen 1
      have f2 := KW2.out.frozen 2
      have f3 := KW2.out.frozen 3
      have f4 := KW2.out.frozen 4
      have f5 := KW2.out.frozen 5
      have g0 : wr.cell? ⟨w.heap.size + 1, 0, none⟩ = some (.int .i64 0) := KW2.out.cell (i := 0) rfl
      have g1 : wr.cell? ⟨w.heap.size + 1, 1, none⟩ = some (.int .i64 0) := KW2.out.cell (i := 1) rfl
      have g2 : wr.cell? ⟨w.heap.size + 1, 2, none⟩ = some (.int .i64 0) := KW2.out.cell (i := 2) rfl
      have g3 : wr.cell? ⟨w.heap.size + 1, 3, none⟩ = some (.bool false) := KW2.out.cell (i := 3) rfl
      have g4 : wr.cell? ⟨w.heap.size + 1, 4, none⟩ = some (.int .i64 0) := KW2.out.cell (i := 4) rfl
      have g5 : wr.cell? ⟨w.heap.size + 1, 5, none⟩ = some (.slice none 0 0) := KW2.out.cell (i := 5) rfl
      generalize hq : telR r3 = rs at *
      rcases rs with _ | ⟨r, _ | ⟨r', l⟩⟩
      · go_wp2_with fail
        refine bodyPost_ret (results_find _ _ (w.heap.size + 1) _ _ _ _ _ _ rfl (Bl.put6 KW2.out _ _ _ _ _ _)) rfl ?_
        exact Or.inl ⟨0, findN_none hq, by rw [errV_none]; rfl, below_put6 BW.out (by omega) _ _ _ _ _ _⟩
      · have hmem : r ∈ [r] := List.mem_singleton.2 rfl
        have hlD := HDL.out r hmem
        obtain ⟨b0, o0, y, s, z, t, rfl, hb0, p0, p1, p2, p3, p4, q1, q2, q3⟩ := R4.out.at (i := 0) (by simp)
        simp only [List.getElem_cons_zero, Nat.zero_mul, Nat.add_zero] at p0 p1 p2 p3 p4 q1 q2 q3
        have Q2 := hid q2
        clear f0 f1 f2 f3 f4 f5 g0 g1 g2 g3 g4 g5
        go_wp2_with fail
        refine (optOf_any r wr rfl rfl Q2.out hlD).mono ?_
        clear hmem hlD p0 p1 p2 p3 p4 q1 q2 q3 hb0 HDL H3 hlen
        rintro e w2 (⟨hO, rfl, d2⟩ | ⟨o, x2, c2', hO, rfl, o2, d2⟩)
        all_goals
          have HO := hid hO
          have B2 := grown_on BW.out d2
          have L3 := KW2.out.below d2
          clear hO d2
        · have L4 := L3.below ((Below.refl _ _).alloc (Nat.le_refl _) (.cells #[.int .i64 0, .int .i64 0, .int .i64 0, .bool false, .int .i64 0, .slice none 0 0] 46))
          have B4 := hid (B2.alloc B2.size (.cells #[.int .i64 0, .int .i64 0, .int .i64 0, .bool false, .int .i64 0, .slice none 0 0] 46))
          clear B2 L3
          go_upto_region 13 with fail
          generalize w2.alloc (.cells #[.int .i64 0, .int .i64 0, .int .i64 0, .bool false, .int .i64 0, .slice none 0 0] 46) = w4 at *
          have fa0 := L4.frozen 0
          have fa1 := L4.frozen 1
          have fa2 := L4.frozen 2
          have fa3 := L4.frozen 3
          have fa4 := L4.frozen 4
          have fa5 := L4.frozen 5
          have ga0 : w4.cell? ⟨w.heap.size + 1, 0, none⟩ = some (.int .i64 0) := L4.cell (i := 0) rfl
          have ga1 : w4.cell? ⟨w.heap.size + 1, 1, none⟩ = some (.int .i64 0) := L4.cell (i := 1) rfl
          have ga2 : w4.cell? ⟨w.heap.size + 1, 2, none⟩ = some (.int .i64 0) := L4.cell (i := 2) rfl
          have ga3 : w4.cell? ⟨w.heap.size + 1, 3, none⟩ = some (.bool false) := L4.cell (i := 3) rfl
          have ga4 : w4.cell? ⟨w.heap.size + 1, 4, none⟩ = some (.int .i64 0) := L4.cell (i := 4) rfl
          have ga5 : w4.cell? ⟨w.heap.size + 1, 5, none⟩ = some (.slice none 0 0) := L4.cell (i := 5) rfl
          have L5 := hid L4
          clear L4 KW2
          go_wp2_with fail
          refine bodyPost_ret (results_find _ _ (w.heap.size + 1) _ _ _ _ _ _ rfl (Bl.put6 L5.out _ _ _ _ _ _)) rfl ?_
          exact Or.inl ⟨1, findN_bad hq HO.out, rfl, below_put6 B4.out (by omega) _ _ _ _ _ _⟩
        · have L4 := L3.below ((Below.refl _ _).alloc (Nat.le_refl _) (.cells #[.int .i64 o.size, .int .i64 o.code, .int .i64 o.ver, .bool o.dO, .int .i64 o.z, .slice x2 o.os.length c2'] 46))
          have B4 := hid (B2.alloc B2.size (.cells #[.int .i64 o.size, .int .i64 o.code, .int .i64 o.ver, .bool o.dO, .int .i64 o.z, .slice x2 o.os.length c2'] 46))
          have N4 := Bl.new 46 w2 #[.int .i64 o.size, .int .i64 o.code, .int .i64 o.ver, .bool o.dO, .int .i64 o.z, .slice x2 o.os.length c2']
          have O4 := hid ((o2.below ((Below.refl _ _).alloc (Nat.le_refl _) (.cells #[.int .i64 o.size, .int .i64 o.code, .int .i64 o.ver, .bool o.dO, .int .i64 o.z, .slice x2 o.os.length c2'] 46))).base (show w.heap.size + 2 ≤ wr.heap.size from HWR.out))
          clear B2 L3 o2
          go_upto_region 13 with fail
          generalize w2.alloc (.cells #[.int .i64 o.size, .int .i64 o.code, .int .i64 o.ver, .bool o.dO, .int .i64 o.z, .slice x2 o.os.length c2'] 46) = w4 at *
          have fa0 := L4.frozen 0
          have fa1 := L4.frozen 1
          have fa2 := L4.frozen 2
          have fa3 := L4.frozen 3
          have fa4 := L4.frozen 4
          have fa5 := L4.frozen 5
          have ga0 : w4.cell? ⟨w.heap.size + 1, 0, none⟩ = some (.int .i64 0) := L4.cell (i := 0) rfl
          have ga1 : w4.cell? ⟨w.heap.size + 1, 1, none⟩ = some (.int .i64 0) := L4.cell (i := 1) rfl
          have ga2 : w4.cell? ⟨w.heap.size + 1, 2, none⟩ = some (.int .i64 0) := L4.cell (i := 2) rfl
          have ga3 : w4.cell? ⟨w.heap.size + 1, 3, none⟩ = some (.bool false) := L4.cell (i := 3) rfl
          have ga4 : w4.cell? ⟨w.heap.size + 1, 4, none⟩ = some (.int .i64 0) := L4.cell (i := 4) rfl
          have ga5 : w4.cell? ⟨w.heap.size + 1, 5, none⟩ = some (.slice none 0 0) := L4.cell (i := 5) rfl
          have fb0 := N4.frozen 0
          have fb1 := N4.frozen 1
          have fb2 := N4.frozen 2
          have fb3 := N4.frozen 3
          have fb4 := N4.frozen 4
          have fb5 := N4.frozen 5
          have gb0 : w4.cell? ⟨w2.heap.size, 0, none⟩ = some (.int .i64 o.size) := N4.cell (i := 0) rfl
          have gb1 : w4.cell? ⟨w2.heap.size, 1, none⟩ = some (.int .i64 o.code) := N4.cell (i := 1) rfl
          have gb2 : w4.cell? ⟨w2.heap.size, 2, none⟩ = some (.int .i64 o.ver) := N4.cell (i := 2) rfl
          have gb3 : w4.cell? ⟨w2.heap.size, 3, none⟩ = some (.bool o.dO) := N4.cell (i := 3) rfl
          have gb4 : w4.cell? ⟨w2.heap.size, 4, none⟩ = some (.int .i64 o.z) := N4.cell (i := 4) rfl
          have gb5 : w4.cell? ⟨w2.heap.size, 5, none⟩ = some (.slice x2 o.os.length c2') := N4.cell (i := 5) rfl
          have L5 := hid L4
          clear L4 KW2 N4
          go_wp2_with fail
          refine bodyPost_ret (results_find _ _ (w.heap.size + 1) _ _ _ _ _ _ rfl (Bl.put6 L5.out _ _ _ _ _ _)) rfl ?_
          exact Or.inr ⟨o, x2, c2', findN_good hq HO.out, rfl, (O4.out.put6 (by omega) _ _ _ _ _ _).base (by omega), below_put6 B4.out (by omega) _ _ _ _ _ _⟩
      · have hlen2 : (1 : Int) < ((r :: r' :: l).length : Int) := by simp; omega
        have hz : ¬ (((r :: r' :: l).length : Int) = 0) := by omega
        have hf := findN_two (rs := r3) (by rw [hq]; simp)
        generalize (r :: r' :: l).length = n at *
        go_wp2_with fail
        refine bodyPost_ret (results_find _ _ (w.heap.size + 1) _ _ _ _ _ _ rfl (Bl.put6 KW2.out _ _ _ _ _ _)) rfl ?_
        exact Or.inl ⟨10, hf, rfl, below_put6 BW.out (by omega) _ _ _ _ _ _⟩

end Go.Proofs.YtbbgabdiikdjpaaDoor

namespace Go.Proofs.YtbbgabdiikdjpaaDoor
open Go.RowKit Go.Deep

set_option maxRecDepth 100000 in
theorem results_set (tmps : Array Value) (w : World) (b : Nat) (v0 v1 v2 v3 v4 v5 v6 v7 v8 v9 v10 v11 v12 v13 v14 : Value) (hp : tmps.getD 4 undef = .pointer (some ⟨b, 0, none⟩)) (hb : Bl 28 w b #[v0, v1, v2, v3, v4, v5, v6, v7, v8, v9, v10, v11, v12, v13, v14]) :
    (results Tryd.f20 tmps).run Tryd.prog w = .ok (.tuple #[.agg #[v0, v1, v2, v3, v4, v5, v6, v7, v8, v9, v10, v11, v12, v13, v14], tmps.getD 5 undef]) w := by
  have c0 : w.cell? ⟨b, 0, none⟩ = some v0 := hb.cell (i := 0) rfl
  have c1 : w.cell? ⟨b, 1, none⟩ = some v1 := hb.cell (i := 1) rfl
  have c2 : w.cell? ⟨b, 2, none⟩ = some v2 := hb.cell (i := 2) rfl
  have c3 : w.cell? ⟨b, 3, none⟩ = some v3 := hb.cell (i := 3) rfl
  have c4 : w.cell? ⟨b, 4, none⟩ = some v4 := hb.cell (i := 4) rfl
  have c5 : w.cell? ⟨b, 5, none⟩ = some v5 := hb.cell (i := 5) rfl
  have c6 : w.cell? ⟨b, 6, none⟩ = some v6 := hb.cell (i := 6) rfl
  have c7 : w.cell? ⟨b, 7, none⟩ = some v7 := hb.cell (i := 7) rfl
  have c8 : w.cell? ⟨b, 8, none⟩ = some v8 := hb.cell (i := 8) rfl
  have c9 : w.cell? ⟨b, 9, none⟩ = some v9 := hb.cell (i := 9) rfl
  have c10 : w.cell? ⟨b, 10, none⟩ = some v10 := hb.cell (i := 10) rfl
  have c11 : w.cell? ⟨b, 11, none⟩ = some v11 := hb.cell (i := 11) rfl
  have c12 : w.cell? ⟨b, 12, none⟩ = some v12 := hb.cell (i := 12) rfl
  have c13 : w.cell? ⟨b, 13, none⟩ = some v13 := hb.cell (i := 13) rfl
  have c14 : w.cell? ⟨b, 14, none⟩ = some v14 := hb.cell (i := 14) rfl
  have hp' : tmps[4]?.getD undef = .pointer (some ⟨b, 0, none⟩) := by simpa using hp
  simp [results, Tryd.results20, go_sem, hp', c0, c1, c2, c3, c4, c5, c6, c7, c8, c9, c10, c11, c12, c13, c14]

theorem Bl.three (t t2 t3 : TypeId) (w : World) (C D E : Array Value) : Bl t (((w.alloc (.cells C t)).alloc (.cells D t2)).alloc (.cells E t3)) w.heap.size C ∧ Bl t2 (((w.alloc (.cells C t)).alloc (.cells D t2)).alloc (.cells E t3)) (w.heap.size + 1) D ∧ Bl t3 (((w.alloc (.cells C t)).alloc (.cells D t2)).alloc (.cells E t3)) (w.heap.size + 2) E ∧ Below w.heap.size w (((w.alloc (.cells C t)).alloc (.cells D t2)).alloc (.cells E t3)) := by
  obtain ⟨h1, h2, h3⟩ := Bl.two t t2 w C D
  have hb := (Below.refl _ ((w.alloc (.cells C t)).alloc (.cells D t2))).alloc (Nat.le_refl _) (.cells E t3)
  refine ⟨h1.below hb, h2.below hb, ?_, h3.alloc (by simp; omega) _⟩
  have := Bl.new t3 ((w.alloc (.cells C t)).alloc (.cells D t2)) E
  simpa using this

/-- What Set answers where something is wrong. -/
def SetBad (k : Int) (w : World) (e : Ending) (w' : World) : Prop := e = .returned (.tuple #[.agg #[.int .i64 0, .bool false, .int .i64 0, .bool false, .bool false, .bool false, .bool false, .bool false, .bool false, .bool false, .int .i64 0, .slice none 0 0, .slice none 0 0, .slice none 0 0, .slice none 0 0], .iface 29 (.int .i64 k)]) ∧ Below w.heap.size w w'

theorem recordOf_bad {x : Option Addr} {c bq : Nat} (k : Int) (o : Ot) (w : World) (hs : Ops w bq x c o.os) (hk : otE o = k) (h0 : ¬ k = 0) :
    Calls Tryd.prog 50 #[.agg #[.int .i64 o.size, .int .i64 o.code, .int .i64 o.ver, .bool o.dO, .int .i64 o.z, .slice x o.os.length c]] w fun e w' => e = .returned (.tuple #[.agg #[.slice none 0 0, .int .i64 0, .int .i64 0, .int .i64 0, .slice none 0 0], .iface 29 (.int .i64 k)]) ∧ Below w.heap.size w w' := by
  unfold otE at hk
  by_cases h : OtIn o
  · rw [if_neg (by simpa using h)] at hk
    exact recordOf_data k o w h hs hk h0
  · rw [if_pos h] at hk
    subst hk
    exact recordOf_range o w h

set_option maxHeartbeats 4000000 in
set_option maxRecDepth 100000 in
theorem set_bad {xq x1 x2 x3 x : Option Addr} {lq l1 l2 l3 cq c1 c2 c3 c bo : Nat} (k : Int) (h : Hd) (o : Ot) (w : World) (hs : Ops w bo x c o.os) (hk : otE o = k) (h0 : ¬ k = 0) :
    Calls Tryd.prog 20 #[.agg #[.int .i64 h.id, .bool h.an, .int .i64 h.op, .bool h.aa, .bool h.tc, .bool h.rd, .bool h.ra, .bool h.z, .bool h.ad, .bool h.cd, .int .i64 h.code, .slice xq lq cq, .slice x1 l1 c1, .slice x2 l2 c2, .slice x3 l3 c3], .agg #[.int .i64 o.size, .int .i64 o.code, .int .i64 o.ver, .bool o.dO, .int .i64 o.z, .slice x o.os.length c]] w (SetBad k w) := by
  obtain ⟨k1, k2, k3, k4⟩ := Bl.three 28 46 28 w #[.int .i64 h.id, .bool h.an, .int .i64 h.op, .bool h.aa, .bool h.tc, .bool h.rd, .bool h.ra, .bool h.z, .bool h.ad, .bool h.cd, .int .i64 h.code, .slice xq lq cq, .slice x1 l1 c1, .slice x2 l2 c2, .slice x3 l3 c3] #[.int .i64 o.size, .int .i64 o.code, .int .i64 o.ver, .bool o.dO, .int .i64 o.z, .slice x o.os.length c] #[.int .i64 0, .bool false, .int .i64 0, .bool false, .bool false, .bool false, .bool false, .bool false, .bool false, .bool false, .int .i64 0, .slice none 0 0, .slice none 0 0, .slice none 0 0, .slice none 0 0]
  have K3 := hid k3
  have K4 := hid k4
  have HS := hid (hs.below k4)
  have HK := hid hk
  have H0 := hid h0
  clear k1 k2 k3 k4 hs hk h0
  go_enter Tryd.func20, Tryd.ntmps20
  go_wp2_with fail
  refine (recordOf_bad k o _ HS.out HK.out H0.out).mono ?_
  rintro e w1 ⟨rfl, b1⟩
  have L3 := hid (K3.out.below b1)
  have L4 := hid (grown_on K4.out b1)
  have f0 : w1.frozen? ⟨w.heap.size + 2, 0, none⟩ = false := L3.out.frozen 0
  have e0 : w1.cell? ⟨w.heap.size + 2, 0, none⟩ = some (.int .i64 0) := L3.out.cell (i := 0) rfl
  have f1 : w1.frozen? ⟨w.heap.size + 2, 1, none⟩ = false := L3.out.frozen 1
  have e1 : w1.cell? ⟨w.heap.size + 2, 1, none⟩ = some (.bool false) := L3.out.cell (i := 1) rfl
  have f2 : w1.frozen? ⟨w.heap.size + 2, 2, none⟩ = false := L3.out.frozen 2
  have e2 : w1.cell? ⟨w.heap.size + 2, 2, none⟩ = some (.int .i64 0) := L3.out.cell (i := 2) rfl
  have f3 : w1.frozen? ⟨w.heap.size + 2, 3, none⟩ = false := L3.out.frozen 3
  have e3 : w1.cell? ⟨w.heap.size + 2, 3, none⟩ = some (.bool false) := L3.out.cell (i := 3) rfl
  have f4 : w1.frozen? ⟨w.heap.size + 2, 4, none⟩ = false := L3.out.frozen 4
  have e4 : w1.cell? ⟨w.heap.size + 2, 4, none⟩ = some (.bool false) := L3.out.cell (i := 4) rfl
  have f5 : w1.frozen? ⟨w.heap.size + 2, 5, none⟩ = false := L3.out.frozen 5
  have e5 : w1.cell? ⟨w.heap.size + 2, 5, none⟩ = some (.bool false) := L3.out.cell (i := 5) rfl
  have f6 : w1.frozen? ⟨w.heap.size + 2, 6, none⟩ = false := L3.out.frozen 6
  have e6 : w1.cell? ⟨w.heap.size + 2, 6, none⟩ = some (.bool false) := L3.out.cell (i := 6) rfl
  have f7 : w1.frozen? ⟨w.heap.size + 2, 7, none⟩ = false := L3.out.frozen 7
  have e7 : w1.cell? ⟨w.heap.size + 2, 7, none⟩ = some (.bool false) := L3.out.cell (i := 7) rfl
  have f8 : w1.frozen? ⟨w.heap.size + 2, 8, none⟩ = false := L3.out.frozen 8
  have e8 : w1.cell? ⟨w.heap.size + 2, 8, none⟩ = some (.bool false) := L3.out.cell (i := 8) rfl
  have f9 : w1.frozen? ⟨w.heap.size + 2, 9, none⟩ = false := L3.out.frozen 9
  have e9 : w1.cell? ⟨w.heap.size + 2, 9, none⟩ = some (.bool false) := L3.out.cell (i := 9) rfl
  have f10 : w1.frozen? ⟨w.heap.size + 2, 10, none⟩ = false := L3.out.frozen 10
  have e10 : w1.cell? ⟨w.heap.size + 2, 10, none⟩ = some (.int .i64 0) := L3.out.cell (i := 10) rfl
  have f11 : w1.frozen? ⟨w.heap.size + 2, 11, none⟩ = false := L3.out.frozen 11
  have e11 : w1.cell? ⟨w.heap.size + 2, 11, none⟩ = some (.slice none 0 0) := L3.out.cell (i := 11) rfl
  have f12 : w1.frozen? ⟨w.heap.size + 2, 12, none⟩ = false := L3.out.frozen 12
  have e12 : w1.cell? ⟨w.heap.size + 2, 12, none⟩ = some (.slice none 0 0) := L3.out.cell (i := 12) rfl
  have f13 : w1.frozen? ⟨w.heap.size + 2, 13, none⟩ = false := L3.out.frozen 13
  have e13 : w1.cell? ⟨w.heap.size + 2, 13, none⟩ = some (.slice none 0 0) := L3.out.cell (i := 13) rfl
  have f14 : w1.frozen? ⟨w.heap.size + 2, 14, none⟩ = false := L3.out.frozen 14
  have e14 : w1.cell? ⟨w.heap.size + 2, 14, none⟩ = some (.slice none 0 0) := L3.out.cell (i := 14) rfl
  have s1 := L3.out.lt
  clear b1
  go_wp2_with fail
  have BZ := below_put15 (b := w.heap.size + 1 + 1) L4.out (by omega) (.int .i64 0) (.bool false) (.int .i64 0) (.bool false) (.bool false) (.bool false) (.bool false) (.bool false) (.bool false) (.bool false) (.int .i64 0) (.slice none 0 0) (.slice none 0 0) (.slice none 0 0) (.slice none 0 0)
  refine bodyPost_ret (results_set _ _ (w.heap.size + 1 + 1) _ _ _ _ _ _ _ _ _ _ _ _ _ _ _ rfl (((show Bl 28 w1 (w.heap.size + 1 + 1) ms0 from L3.out).put15 _ _ _ _ _ _ _ _ _ _ _ _ _ _ _).below ((Below.refl _ _).alloc (Nat.le_refl _) _))) rfl ?_
  exact ⟨rfl, BZ.alloc BZ.size _⟩

/-- A row of records that the call owns from block B on, whose parts lie in blocks of which P holds. -/
def RRowP (w : World) (B : Nat) (P : Nat → Prop) (v : Value) (rs : List Rn) : Prop :=
  ∃ L : List (Rn × (Option Addr × Nat) × (Option Addr × Nat)), L.map (·.1) = rs ∧ w.ownsRow B 67 5 v L.length (L.flatMap rcells) ∧ ∀ e ∈ L, (Strs w e.2.1.1 e.2.1.2 e.1.N ∧ ∀ a, e.2.1.1 = some a → B ≤ a.block ∧ (e.1.N = [] ∨ (P a.block ∧ some a.block ≠ v.ownBlock))) ∧
    Bys w e.2.2.1 e.2.2.2 e.1.D ∧ (e.2.2.1 = none → e.2.2.2 = 0) ∧ ∀ a, e.2.2.1 = some a → B ≤ a.block ∧ (e.1.D = [] ∨ (P a.block ∧ some a.block ≠ v.ownBlock))

theorem RRow.toP {w : World} {B n m : Nat} {v : Value} {rs : List Rn} (h : RRow w B v rs) (hn : w.heap.size ≤ n) (hm : m < B) : RRowP w B (fun k => k < n ∧ m < k) v rs := by
  obtain ⟨L, h1, h2, h3⟩ := h
  refine ⟨L, h1, h2, fun e he => ?_⟩
  obtain ⟨⟨k1, k2⟩, k3, k4, k5⟩ := h3 e he
  refine ⟨⟨k1, fun a ha => ⟨(k2 a ha).1, ?_⟩⟩, k3, k4, fun a ha => ⟨(k5 a ha).1, ?_⟩⟩
  · rcases (k2 a ha).2 with q | q
    · exact Or.inl q
    · exact (strs_lt k1 ha).imp_right (fun l => ⟨⟨Nat.lt_of_lt_of_le l hn, Nat.lt_of_lt_of_le hm (k2 a ha).1⟩, q⟩)
  · rcases (k5 a ha).2 with q | q
    · exact Or.inl q
    · exact (bys_lt k3 ha).imp_right (fun l => ⟨⟨Nat.lt_of_lt_of_le l hn, Nat.lt_of_lt_of_le hm (k5 a ha).1⟩, q⟩)

theorem RRowP.toR {w : World} {B : Nat} {P : Nat → Prop} {v : Value} {rs : List Rn} (h : RRowP w B P v rs) : RRow w B v rs := by
  obtain ⟨L, h1, h2, h3⟩ := h
  exact ⟨L, h1, h2, fun e he => ⟨⟨(h3 e he).1.1, fun a ha => ⟨((h3 e he).1.2 a ha).1, ((h3 e he).1.2 a ha).2.imp_right And.right⟩⟩, (h3 e he).2.1, (h3 e he).2.2.1, fun a ha => ⟨((h3 e he).2.2.2 a ha).1, ((h3 e he).2.2.2 a ha).2.imp_right And.right⟩⟩⟩

theorem RRowP.below {w w' : World} {B : Nat} {P : Nat → Prop} {v : Value} {rs : List Rn} (h : RRowP w B P v rs) (k : Below w.heap.size w w') : RRowP w' B P v rs := by
  obtain ⟨L, h1, h2, h3⟩ := h
  exact ⟨L, h1, owns_stay h2 k, fun e he => ⟨⟨(h3 e he).1.1.below k, (h3 e he).1.2⟩, (h3 e he).2.1.below k, (h3 e he).2.2⟩⟩

theorem RRowP.base {w : World} {B B' : Nat} {P : Nat → Prop} {v : Value} {rs : List Rn} (h : RRowP w B P v rs) (k : B' ≤ B) : RRowP w B' P v rs := by
  obtain ⟨L, h1, h2, h3⟩ := h
  exact ⟨L, h1, owns_base5 h2 k, fun e he => ⟨⟨(h3 e he).1.1, fun a ha => ⟨Nat.le_trans k ((h3 e he).1.2 a ha).1, ((h3 e he).1.2 a ha).2⟩⟩, (h3 e he).2.1, (h3 e he).2.2.1, fun a ha => ⟨Nat.le_trans k ((h3 e he).2.2.2 a ha).1, ((h3 e he).2.2.2 a ha).2⟩⟩⟩

theorem RRowP.kept {w w' : World} {B b : Nat} {P : Nat → Prop} {v : Value} {rs : List Rn} (h : RRowP w B P v rs) (hg : w.grownBy w' (some b)) (hb : ¬ P b) (ho : v.ownBlock ≠ some b) : RRowP w' B P v rs := by
  obtain ⟨L, h1, h2, h3⟩ := h
  refine ⟨L, h1, h2.kept hg (Or.inr ho), fun e he => ?_⟩
  obtain ⟨⟨k1, k2⟩, k3, k4, k5⟩ := h3 e he
  exact ⟨⟨k1.kept hg (fun a ha => (k2 a ha).2.imp_right (fun q e => by cases e; exact hb q.1)), k2⟩, k3.kept hg (fun a ha => (k5 a ha).2.imp_right (fun q e => by cases e; exact hb q.1)), k4, k5⟩

/-- A record appended to a row of the call's own. -/
theorem wpList_append_rrow {w : World} {B g cc : Nat} {P : Nat → Prop} {v : Value} {xs : List Rn} {r : Rn} {y z : Option Addr} {s t : Nat} {ops : Array Oper} {rest : List Oper} {op : Oper} {a : Act} {Q : Exit → Act → World → Prop} (hgd : op.guard = none) (sl x : Operand)
    (ho : op.op = .call { callee := .builtin .append, args := #[sl, x], argTypes := #[26, 26] }) (hs : a.eval sl = v) (hx : a.eval x = .slice (some ⟨g, 0, none⟩) 1 cc) (hr : RRowP w B P v xs) (hk : Bl 67 w g #[.slice y r.N.length s, .int .i64 r.ty, .int .i64 r.cl, .int .i64 r.ttl, .slice z r.D.length t])
    (h1 : Strs w y s r.N) (h2 : Bys w z t r.D) (h3 : z = none → t = 0) (h4 : ∀ a, y = some a → B ≤ a.block ∧ (r.N = [] ∨ (P a.block ∧ some a.block ≠ v.ownBlock))) (h5 : ∀ a, z = some a → B ≤ a.block ∧ (r.D = [] ∨ (P a.block ∧ some a.block ≠ v.ownBlock))) (hl : (xs.length + 1) * 72 ≤ 140737488355328) (hB : B ≤ w.heap.size) (hP : ∀ k, P k → k < w.heap.size)
    (hK : ∀ v' w', RRowP w' B P v' (xs ++ [r]) → w.grownBy w' v.ownBlock → (v'.ownBlock = v.ownBlock ∨ v'.ownBlock = some w.heap.size) → wpList Tryd.prog ops Q rest (a.put op.dst v') w') : wpList Tryd.prog ops Q (op :: rest) a w := by
  obtain ⟨i0, hi, hz0, hz1, hz2⟩ := info_of_record
  obtain ⟨L, hL, hown, hin⟩ := hr
  have hLl : L.length = xs.length := by rw [← hL, List.length_map]
  refine wpList_append_own_at _ hgd sl x 26 ho B 67 i0 (.agg #[.slice none 0 0, .int .i64 0, .int .i64 0, .int .i64 0, .slice none 0 0]) 5 72 Tryd.underlying26 hi hz0 hz1 hz2 rfl (by decide) v L.length (L.flatMap rcells) hs hown ⟨g, 0, none⟩ 1 cc [.slice y r.N.length s, .int .i64 r.ty, .int .i64 r.cl, .int .i64 r.ttl, .slice z r.D.length t] hx rfl (fun j u hj => ?_) (by intro u hu; simp at hu; rcases hu with rfl | rfl | rfl | rfl | rfl <;> rfl) (by unfold maxLen; omega) (by omega) hB ?_
  · rw [Go.WideShapes.add_plain, Nat.zero_add]
    exact hk.cell (i := j) (by rw [List.getElem?_toArray]; exact hj)
  · intro v1 w2 hown1 hgrow1 _ hloc
    refine hK v1 w2 ?_ hgrow1 hloc
    have hne : ∀ k, P k → some k ≠ v.ownBlock → some k ≠ v1.ownBlock := by
      intro k h1 h2 q
      rcases hloc with e | e
      · rw [e] at q; exact h2 q
      · rw [e] at q; cases q; have := hP _ h1; omega
    refine ⟨L ++ [(r, (y, s), (z, t))], by rw [List.map_append, hL]; rfl, ?_, fun e he => ?_⟩
    · rw [List.length_append, List.flatMap_append, List.flatMap_cons, List.flatMap_nil, List.append_nil]
      exact hown1
    · rcases List.mem_append.1 he with he | he
      · obtain ⟨⟨k1, k2⟩, k3, k4, k5⟩ := hin e he
        exact ⟨⟨k1.kept hgrow1 (fun a ha => (k2 a ha).2.imp_right And.right), fun a ha => ⟨(k2 a ha).1, (k2 a ha).2.imp_right (fun q => ⟨q.1, hne _ q.1 q.2⟩)⟩⟩, k3.kept hgrow1 (fun a ha => (k5 a ha).2.imp_right And.right), k4, fun a ha => ⟨(k5 a ha).1, (k5 a ha).2.imp_right (fun q => ⟨q.1, hne _ q.1 q.2⟩)⟩⟩
      · rw [List.mem_singleton.1 he]
        exact ⟨⟨h1.kept hgrow1 (fun a ha => (h4 a ha).2.imp_right And.right), fun a ha => ⟨(h4 a ha).1, (h4 a ha).2.imp_right (fun q => ⟨q.1, hne _ q.1 q.2⟩)⟩⟩, h2.kept hgrow1 (fun a ha => (h5 a ha).2.imp_right And.right), h3, fun a ha => ⟨(h5 a ha).1, (h5 a ha).2.imp_right (fun q => ⟨q.1, hne _ q.1 q.2⟩)⟩⟩

/-- What Set answers where nothing is wrong. -/
def SetP (h : Hd) (qs : List Qn) (r1 r2 r3 : List Rn) (w : World) (e : Ending) (w' : World) : Prop :=
  ∃ yq dq y1 d1 y2 d2 y3 d3, e = .returned (.tuple #[.agg #[.int .i64 h.id, .bool h.an, .int .i64 h.op, .bool h.aa, .bool h.tc, .bool h.rd, .bool h.ra, .bool h.z, .bool h.ad, .bool h.cd, .int .i64 h.code, .slice yq qs.length dq, .slice y1 r1.length d1, .slice y2 r2.length d2, .slice y3 r3.length d3], .nilIface]) ∧ QRow w' w.heap.size (.slice yq qs.length dq) qs ∧ RRow w' w.heap.size (.slice y1 r1.length d1) r1 ∧ RRow w' w.heap.size (.slice y2 r2.length d2) r2 ∧ RRow w' w.heap.size (.slice y3 r3.length d3) r3 ∧ Below w.heap.size w w'

theorem otE_zero {o : Ot} (h : otE o = 0) : OtIn o ∧ dataE o.os = 0 := by
  unfold otE at h
  by_cases c : OtIn o
  · rw [if_neg (by simpa using c)] at h; exact ⟨c, h⟩
  · rw [if_pos c] at h; cases h

set_option maxHeartbeats 8000000 in
set_option maxRecDepth 100000 in
theorem set_good {xq x1 x2 x3 x : Option Addr} {cq c1 c2 c3 c bq b1 b2 b3 bo : Nat} (h : Hd) (qs : List Qn) (r1 r2 r3 : List Rn) (o : Ot) (w : World) (hq : Qs w bq xq cq qs) (hr1 : Rs w b1 x1 c1 r1) (hr2 : Rs w b2 x2 c2 r2) (hr3 : Rs w b3 x3 c3 r3) (l1 : r1.length * 72 ≤ 140737488355328) (l2 : r2.length * 72 ≤ 140737488355328) (l3 : (r3.length + 1) * 72 ≤ 140737488355328) (hs : Ops w bo x c o.os) (hk : otE o = 0) :
    Calls Tryd.prog 20 #[.agg #[.int .i64 h.id, .bool h.an, .int .i64 h.op, .bool h.aa, .bool h.tc, .bool h.rd, .bool h.ra, .bool h.z, .bool h.ad, .bool h.cd, .int .i64 h.code, .slice xq qs.length cq, .slice x1 r1.length c1, .slice x2 r2.length c2, .slice x3 r3.length c3], .agg #[.int .i64 o.size, .int .i64 o.code, .int .i64 o.ver, .bool o.dO, .int .i64 o.z, .slice x o.os.length c]] w (SetP h qs r1 r2 (silR r3 ++ [otR o]) w) := by
  obtain ⟨k1, k2, k3, k4⟩ := Bl.three 28 46 28 w #[.int .i64 h.id, .bool h.an, .int .i64 h.op, .bool h.aa, .bool h.tc, .bool h.rd, .bool h.ra, .bool h.z, .bool h.ad, .bool h.cd, .int .i64 h.code, .slice xq qs.length cq, .slice x1 r1.length c1, .slice x2 r2.length c2, .slice x3 r3.length c3] #[.int .i64 o.size, .int .i64 o.code, .int .i64 o.ver, .bool o.dO, .int .i64 o.z, .slice x o.os.length c] #[.int .i64 0, .bool false, .int .i64 0, .bool false, .bool false, .bool false, .bool false, .bool false, .bool false, .bool false, .int .i64 0, .slice none 0 0, .slice none 0 0, .slice none 0 0, .slice none 0 0]
  have K1 := hid k1
  have K3 := hid k3
  have K4 := hid k4
  have HS := hid (hs.below k4)
  have HK := hid (otE_zero hk)
  have HQ := hid hq
  have H1 := hid hr1
  have H2 := hid hr2
  have H3 := hid hr3
  have L1 := hid l1
  have L2 := hid l2
  have L3 := hid l3
  clear k1 k2 k3 k4 hs hk hq hr1 hr2 hr3 l1 l2 l3
  go_enter Tryd.func20, Tryd.ntmps20
  go_wp2_with fail
  refine (recordOf_good o _ HK.out.1 HS.out HK.out.2).mono ?_
  rintro e w1 ⟨z, t, rfl, m1, m2, m3, m4⟩
  have M1 := hid m1
  have M2 := hid m2
  have M3 : Hid (∀ a, z = some a → w.heap.size + 3 ≤ a.block) := hid (fun a ha => by have := m3 a ha; simp at this; omega)
  have N1 := hid (K1.out.below m4)
  have N3 := hid (K3.out.below m4)
  have N4 := hid (grown_on K4.out m4)
  clear m1 m2 m3 m4 K1 K3 K4 HS
  have g0 : w1.cell? ⟨w.heap.size, 0, none⟩ = some (.int .i64 h.id) := N1.out.cell (i := 0) rfl
  have g1 : w1.cell? ⟨w.heap.size, 1, none⟩ = some (.bool h.an) := N1.out.cell (i := 1) rfl
  have g2 : w1.cell? ⟨w.heap.size, 2, none⟩ = some (.int .i64 h.op) := N1.out.cell (i := 2) rfl
  have g3 : w1.cell? ⟨w.heap.size, 3, none⟩ = some (.bool h.aa) := N1.out.cell (i := 3) rfl
  have g4 : w1.cell? ⟨w.heap.size, 4, none⟩ = some (.bool h.tc) := N1.out.cell (i := 4) rfl
  have g5 : w1.cell? ⟨w.heap.size, 5, none⟩ = some (.bool h.rd) := N1.out.cell (i := 5) rfl
  have g6 : w1.cell? ⟨w.heap.size, 6, none⟩ = some (.bool h.ra) := N1.out.cell (i := 6) rfl
  have g7 : w1.cell? ⟨w.heap.size, 7, none⟩ = some (.bool h.z) := N1.out.cell (i := 7) rfl
  have g8 : w1.cell? ⟨w.heap.size, 8, none⟩ = some (.bool h.ad) := N1.out.cell (i := 8) rfl
  have g9 : w1.cell? ⟨w.heap.size, 9, none⟩ = some (.bool h.cd) := N1.out.cell (i := 9) rfl
  have g10 : w1.cell? ⟨w.heap.size, 10, none⟩ = some (.int .i64 h.code) := N1.out.cell (i := 10) rfl
  have g11 : w1.cell? ⟨w.heap.size, 11, none⟩ = some (.slice xq qs.length cq) := N1.out.cell (i := 11) rfl
  have g12 : w1.cell? ⟨w.heap.size, 12, none⟩ = some (.slice x1 r1.length c1) := N1.out.cell (i := 12) rfl
  have g13 : w1.cell? ⟨w.heap.size, 13, none⟩ = some (.slice x2 r2.length c2) := N1.out.cell (i := 13) rfl
  have g14 : w1.cell? ⟨w.heap.size, 14, none⟩ = some (.slice x3 r3.length c3) := N1.out.cell (i := 14) rfl
  have BA := hid ((Below.refl w1.heap.size w1).alloc (Nat.le_refl _) (.cells #[.slice none 0 0, .int .i64 41, .int .i64 o.size, .int .i64 (ttlN o), .slice z (optB o.os).length t] 67))
  have KA := hid (Bl.new 67 w1 #[.slice none 0 0, .int .i64 41, .int .i64 o.size, .int .i64 (ttlN o), .slice z (optB o.os).length t])
  go_upto_region 4 with fail
  have P1 := hid (N1.out.below BA.out)
  have P3 := hid (N3.out.below BA.out)
  have P4 := hid (grown_on N4.out BA.out)
  have PM := hid (M1.out.below BA.out)
  have hrb : w.heap.size + 2 < w1.heap.size := N3.out.lt
  clear g0 g1 g2 g3 g4 g5 g6 g7 g8 g9 g10 g11 g12 g13 g14
  have hW2 : w1.heap.size < (w1.alloc (.cells #[.slice none 0 0, .int .i64 41, .int .i64 o.size, .int .i64 (ttlN o), .slice z (optB o.os).length t] 67)).heap.size := by simp
  generalize w1.alloc (.cells #[.slice none 0 0, .int .i64 41, .int .i64 o.size, .int .i64 (ttlN o), .slice z (optB o.os).length t] 67) = W2 at *
  generalize w1.heap.size = rb at *
  clear N1 N3 N4 M1 BA
  have g0 : W2.cell? ⟨w.heap.size, 0, none⟩ = some (.int .i64 h.id) := P1.out.cell (i := 0) rfl
  have g1 : W2.cell? ⟨w.heap.size, 1, none⟩ = some (.bool h.an) := P1.out.cell (i := 1) rfl
  have g2 : W2.cell? ⟨w.heap.size, 2, none⟩ = some (.int .i64 h.op) := P1.out.cell (i := 2) rfl
  have g3 : W2.cell? ⟨w.heap.size, 3, none⟩ = some (.bool h.aa) := P1.out.cell (i := 3) rfl
  have g4 : W2.cell? ⟨w.heap.size, 4, none⟩ = some (.bool h.tc) := P1.out.cell (i := 4) rfl
  have g5 : W2.cell? ⟨w.heap.size, 5, none⟩ = some (.bool h.rd) := P1.out.cell (i := 5) rfl
  have g6 : W2.cell? ⟨w.heap.size, 6, none⟩ = some (.bool h.ra) := P1.out.cell (i := 6) rfl
  have g7 : W2.cell? ⟨w.heap.size, 7, none⟩ = some (.bool h.z) := P1.out.cell (i := 7) rfl
  have g8 : W2.cell? ⟨w.heap.size, 8, none⟩ = some (.bool h.ad) := P1.out.cell (i := 8) rfl
  have g9 : W2.cell? ⟨w.heap.size, 9, none⟩ = some (.bool h.cd) := P1.out.cell (i := 9) rfl
  have g10 : W2.cell? ⟨w.heap.size, 10, none⟩ = some (.int .i64 h.code) := P1.out.cell (i := 10) rfl
  have g11 : W2.cell? ⟨w.heap.size, 11, none⟩ = some (.slice xq qs.length cq) := P1.out.cell (i := 11) rfl
  have g12 : W2.cell? ⟨w.heap.size, 12, none⟩ = some (.slice x1 r1.length c1) := P1.out.cell (i := 12) rfl
  have g13 : W2.cell? ⟨w.heap.size, 13, none⟩ = some (.slice x2 r2.length c2) := P1.out.cell (i := 13) rfl
  have g14 : W2.cell? ⟨w.heap.size, 14, none⟩ = some (.slice x3 r3.length c3) := P1.out.cell (i := 14) rfl
  go_wp2_with fail
  refine (drop_any h qs r1 r2 r3 W2 (HQ.out.below P4.out) (H1.out.below P4.out) (H2.out.below P4.out) (H3.out.below P4.out) L1.out L2.out (by have := L3.out; omega)).mono ?_
  rintro e w3 ⟨yq, dq, y1, d1, y2, d2, y3, d3, rfl, q1, q5⟩
  obtain ⟨u, B, h1, h2, h3, h4, h5, h6, h7⟩ := q1
  have R3 := hid (P3.out.below q5)
  have R4 := hid (grown_on P4.out q5)
  have RA := hid (KA.out.below q5)
  have RM := hid (PM.out.below q5)
  have Q1 := hid h3
  have Q2 := hid h4
  have Q3 := hid h5
  have AG := hid h6
  have RP := hid (h7.toP (m := w.heap.size + 2) (Nat.le_refl _) (by omega))
  have hu3 : u.heap.size ≤ w3.heap.size := h6.1
  have hs3 : W2.heap.size ≤ w3.heap.size := q5.size
  have TO : Hid (∀ g, (Value.slice y3 (silR r3).length d3).ownBlock = some g → u.heap.size ≤ g ∧ g < w3.heap.size) := hid (fun g hg => by obtain ⟨L, _, o1, _⟩ := h7; exact World.ownsRow.lt o1 g hg)
  have ZN : Hid (∀ a, z = some a → optB o.os = [] ∨ a.block < W2.heap.size) := hid (fun a ha => bys_lt PM.out ha)
  clear q5 h3 h4 h5 h6 h7 g0 g1 g2 g3 g4 g5 g6 g7 g8 g9 g10 g11 g12 g13 g14 P1 P3 P4 PM KA
  go_upto_region 5 with fail
  have BT := (Below.refl w3.heap.size w3).alloc (Nat.le_refl _) (.cells #[.int .i64 h.id, .bool h.an, .int .i64 h.op, .bool h.aa, .bool h.tc, .bool h.rd, .bool h.ra, .bool h.z, .bool h.ad, .bool h.cd, .int .i64 h.code, .slice yq qs.length dq, .slice y1 r1.length d1, .slice y2 r2.length d2, .slice y3 (silR r3).length d3] 28)
  have KT := hid (Bl.new 28 w3 #[.int .i64 h.id, .bool h.an, .int .i64 h.op, .bool h.aa, .bool h.tc, .bool h.rd, .bool h.ra, .bool h.z, .bool h.ad, .bool h.cd, .int .i64 h.code, .slice yq qs.length dq, .slice y1 r1.length d1, .slice y2 r2.length d2, .slice y3 (silR r3).length d3])
  have S3 := hid (R3.out.below BT)
  have S4 := hid (grown_on R4.out BT)
  have SA := hid (RA.out.below BT)
  have SM := hid (RM.out.below BT)
  have AT := hid (AG.out.below BT)
  have RT := hid (RP.out.below BT)
  have hW5 : (w3.alloc (.cells #[.int .i64 h.id, .bool h.an, .int .i64 h.op, .bool h.aa, .bool h.tc, .bool h.rd, .bool h.ra, .bool h.z, .bool h.ad, .bool h.cd, .int .i64 h.code, .slice yq qs.length dq, .slice y1 r1.length d1, .slice y2 r2.length d2, .slice y3 (silR r3).length d3] 28)).heap.size = w3.heap.size + 1 := by simp
  have HW5 := hid hW5
  clear BT R3 R4 RA RM AG RP hW5
  generalize w3.alloc (.cells #[.int .i64 h.id, .bool h.an, .int .i64 h.op, .bool h.aa, .bool h.tc, .bool h.rd, .bool h.ra, .bool h.z, .bool h.ad, .bool h.cd, .int .i64 h.code, .slice yq qs.length dq, .slice y1 r1.length d1, .slice y2 r2.length d2, .slice y3 (silR r3).length d3] 28) = W5 at *
  have a14 : W5.cell? ⟨w3.heap.size, 14, none⟩ = some (.slice y3 (silR r3).length d3) := KT.out.cell (i := 14) rfl
  have ra0 : W5.cell? ⟨rb, 0, none⟩ = some (.slice none 0 0) := SA.out.cell (i := 0) rfl
  have ra1 : W5.cell? ⟨rb, 1, none⟩ = some (.int .i64 41) := SA.out.cell (i := 1) rfl
  have ra2 : W5.cell? ⟨rb, 2, none⟩ = some (.int .i64 o.size) := SA.out.cell (i := 2) rfl
  have ra3 : W5.cell? ⟨rb, 3, none⟩ = some (.int .i64 (ttlN o)) := SA.out.cell (i := 3) rfl
  have ra4 : W5.cell? ⟨rb, 4, none⟩ = some (.slice z (optB o.os).length t) := SA.out.cell (i := 4) rfl
  have BC := hid ((Below.refl W5.heap.size W5).alloc (Nat.le_refl _) (.cells #[.slice none 0 0, .int .i64 41, .int .i64 o.size, .int .i64 (ttlN o), .slice z (optB o.os).length t] 67))
  have KC := hid (Bl.new 67 W5 #[.slice none 0 0, .int .i64 41, .int .i64 o.size, .int .i64 (ttlN o), .slice z (optB o.os).length t])
  have hl2 : ((silR r3).length + 1) * 72 ≤ 140737488355328 := by have := L3.out; have := sil_len r3; omega
  have hw5 : w.heap.size ≤ (W5.alloc (.cells #[.slice none 0 0, .int .i64 41, .int .i64 o.size, .int .i64 (ttlN o), .slice z (optB o.os).length t] 67)).heap.size := (grown_on S4.out BC.out).size
  have SM2 := hid (SM.out.below BC.out)
  have RT2 := hid (RT.out.below BC.out)
  have hw6 : w3.heap.size < (W5.alloc (.cells #[.slice none 0 0, .int .i64 41, .int .i64 o.size, .int .i64 (ttlN o), .slice z (optB o.os).length t] 67)).heap.size := by rw [show (W5.alloc (.cells #[.slice none 0 0, .int .i64 41, .int .i64 o.size, .int .i64 (ttlN o), .slice z (optB o.os).length t] 67)).heap.size = W5.heap.size + 1 by simp, HW5.out]; omega
  go_wp2_with (at_builtin; refine wpList_append_rrow (r := otR o) (B := w.heap.size) (P := fun k => k < w3.heap.size ∧ w.heap.size + 2 < k) (y := none) (s := 0) rfl _ _ rfl rfl rfl (RT2.out.base (by omega)) KC.out (Strs.empty _) SM2.out M2.out (fun a ha => by cases ha) (fun a ha => ⟨by have := M3.out a ha; omega, (ZN.out a ha).imp_right (fun q => ⟨⟨by omega, by have := M3.out a ha; omega⟩, fun e => by have := TO.out _ e.symm; omega⟩)⟩) hl2 hw5 (fun k hk => Nat.lt_trans hk.1 hw6) ?_)
  intro v4 w6 hr6 hg6 hloc
  obtain ⟨y4, d4, hv4⟩ := hr6.toR.val
  obtain ⟨n4, hn4⟩ : ∃ n, (silR r3 ++ [otR o]).length = n := ⟨_, rfl⟩
  rw [hn4] at hv4
  subst hv4
  have HN := hid hn4
  clear hn4
  have NE : Hid (∀ b, b = w3.heap.size ∨ b = w.heap.size + 2 → some b ≠ (Value.slice y3 (silR r3).length d3).ownBlock) := hid (fun b hb e => by have := TO.out b e.symm; omega)
  have KT6 := hid ((KT.out.below BC.out).grown hg6 (NE.out _ (Or.inl rfl)))
  have S36 := hid ((S3.out.below BC.out).grown hg6 (NE.out _ (Or.inr rfl)))
  have A6 := hid ((AT.out.below BC.out).grown hg6 (fun b hb => Or.inr (TO.out b hb).1))
  have B6 := hid ((grown_on S4.out BC.out).grown hg6 hw5 (fun k hk => by have := TO.out k hk; omega))
  have R6 := hid hr6
  have NO : Hid ((Value.slice y4 n4 d4).ownBlock ≠ some w3.heap.size) := hid (fun e => by
    rcases hloc with q | q
    · rw [q] at e; exact NE.out _ (Or.inl rfl) e.symm
    · rw [q] at e; simp at e; have := HW5.out; omega)
  have NP : Hid ((Value.slice y4 n4 d4).ownBlock ≠ some (w.heap.size + 2)) := hid (fun e => by
    rcases hloc with q | q
    · rw [q] at e; exact NE.out _ (Or.inr rfl) e.symm
    · rw [q] at e; simp at e; have := HW5.out; omega)
  have c14 : w6.cell? ⟨w3.heap.size, 14, none⟩ = some (.slice y3 (silR r3).length d3) := KT6.out.cell (i := 14) rfl
  have z14 : w6.frozen? ⟨w3.heap.size, 14, none⟩ = false := KT6.out.frozen 14
  clear hr6 hg6 hloc a14 ra0 ra1 ra2 ra3 ra4 KT S3 AT S4 RT RT2 SM SM2 SA BC KC
  go_upto_region 6 with fail
  have KT7 : Bl 28 (w6.setCell ⟨w3.heap.size, 14, none⟩ (.slice y4 n4 d4)) w3.heap.size #[.int .i64 h.id, .bool h.an, .int .i64 h.op, .bool h.aa, .bool h.tc, .bool h.rd, .bool h.ra, .bool h.z, .bool h.ad, .bool h.cd, .int .i64 h.code, .slice yq qs.length dq, .slice y1 r1.length d1, .slice y2 r2.length d2, .slice y4 n4 d4] := KT6.out.set 14 _
  have S37 := hid (S36.out.far (p := ⟨w3.heap.size, 14, none⟩) (by simp; omega) (.slice y4 n4 d4))
  have G7 := grown_set (grown_refl w6 (some w3.heap.size)) 14 (.slice y4 n4 d4)
  have A7 := hid (A6.out.grown G7 (fun b hb => by cases hb; exact Or.inr hu3))
  have B7 := hid (B6.out.setCell (p := ⟨w3.heap.size, 14, none⟩) (show w.heap.size ≤ w3.heap.size by omega) (.slice y4 n4 d4))
  have R7 := hid (R6.out.kept G7 (by simp) NO.out)
  have KK7 := hid KT7
  clear G7 KT7 KT6 S36 A6 B6 R6 c14 z14
  generalize w6.setCell ⟨w3.heap.size, 14, none⟩ (.slice y4 n4 d4) = w7 at *
  have t0 : w7.cell? ⟨w3.heap.size, 0, none⟩ = some (.int .i64 h.id) := KK7.out.cell (i := 0) rfl
  have t1 : w7.cell? ⟨w3.heap.size, 1, none⟩ = some (.bool h.an) := KK7.out.cell (i := 1) rfl
  have t2 : w7.cell? ⟨w3.heap.size, 2, none⟩ = some (.int .i64 h.op) := KK7.out.cell (i := 2) rfl
  have t3 : w7.cell? ⟨w3.heap.size, 3, none⟩ = some (.bool h.aa) := KK7.out.cell (i := 3) rfl
  have t4 : w7.cell? ⟨w3.heap.size, 4, none⟩ = some (.bool h.tc) := KK7.out.cell (i := 4) rfl
  have t5 : w7.cell? ⟨w3.heap.size, 5, none⟩ = some (.bool h.rd) := KK7.out.cell (i := 5) rfl
  have t6 : w7.cell? ⟨w3.heap.size, 6, none⟩ = some (.bool h.ra) := KK7.out.cell (i := 6) rfl
  have t7 : w7.cell? ⟨w3.heap.size, 7, none⟩ = some (.bool h.z) := KK7.out.cell (i := 7) rfl
  have t8 : w7.cell? ⟨w3.heap.size, 8, none⟩ = some (.bool h.ad) := KK7.out.cell (i := 8) rfl
  have t9 : w7.cell? ⟨w3.heap.size, 9, none⟩ = some (.bool h.cd) := KK7.out.cell (i := 9) rfl
  have t10 : w7.cell? ⟨w3.heap.size, 10, none⟩ = some (.int .i64 h.code) := KK7.out.cell (i := 10) rfl
  have t11 : w7.cell? ⟨w3.heap.size, 11, none⟩ = some (.slice yq qs.length dq) := KK7.out.cell (i := 11) rfl
  have t12 : w7.cell? ⟨w3.heap.size, 12, none⟩ = some (.slice y1 r1.length d1) := KK7.out.cell (i := 12) rfl
  have t13 : w7.cell? ⟨w3.heap.size, 13, none⟩ = some (.slice y2 r2.length d2) := KK7.out.cell (i := 13) rfl
  have t14 : w7.cell? ⟨w3.heap.size, 14, none⟩ = some (.slice y4 n4 d4) := KK7.out.cell (i := 14) rfl
  have f0 : w7.frozen? ⟨w.heap.size + 2, 0, none⟩ = false := S37.out.frozen 0
  have f1 : w7.frozen? ⟨w.heap.size + 2, 1, none⟩ = false := S37.out.frozen 1
  have f2 : w7.frozen? ⟨w.heap.size + 2, 2, none⟩ = false := S37.out.frozen 2
  have f3 : w7.frozen? ⟨w.heap.size + 2, 3, none⟩ = false := S37.out.frozen 3
  have f4 : w7.frozen? ⟨w.heap.size + 2, 4, none⟩ = false := S37.out.frozen 4
  have f5 : w7.frozen? ⟨w.heap.size + 2, 5, none⟩ = false := S37.out.frozen 5
  have f6 : w7.frozen? ⟨w.heap.size + 2, 6, none⟩ = false := S37.out.frozen 6
  have f7 : w7.frozen? ⟨w.heap.size + 2, 7, none⟩ = false := S37.out.frozen 7
  have f8 : w7.frozen? ⟨w.heap.size + 2, 8, none⟩ = false := S37.out.frozen 8
  have f9 : w7.frozen? ⟨w.heap.size + 2, 9, none⟩ = false := S37.out.frozen 9
  have f10 : w7.frozen? ⟨w.heap.size + 2, 10, none⟩ = false := S37.out.frozen 10
  have f11 : w7.frozen? ⟨w.heap.size + 2, 11, none⟩ = false := S37.out.frozen 11
  have f12 : w7.frozen? ⟨w.heap.size + 2, 12, none⟩ = false := S37.out.frozen 12
  have f13 : w7.frozen? ⟨w.heap.size + 2, 13, none⟩ = false := S37.out.frozen 13
  have f14 : w7.frozen? ⟨w.heap.size + 2, 14, none⟩ = false := S37.out.frozen 14
  have e0 : w7.cell? ⟨w.heap.size + 2, 0, none⟩ = some (.int .i64 0) := S37.out.cell (i := 0) rfl
  have e1 : w7.cell? ⟨w.heap.size + 2, 1, none⟩ = some (.bool false) := S37.out.cell (i := 1) rfl
  have e2 : w7.cell? ⟨w.heap.size + 2, 2, none⟩ = some (.int .i64 0) := S37.out.cell (i := 2) rfl
  have e3 : w7.cell? ⟨w.heap.size + 2, 3, none⟩ = some (.bool false) := S37.out.cell (i := 3) rfl
  have e4 : w7.cell? ⟨w.heap.size + 2, 4, none⟩ = some (.bool false) := S37.out.cell (i := 4) rfl
  have e5 : w7.cell? ⟨w.heap.size + 2, 5, none⟩ = some (.bool false) := S37.out.cell (i := 5) rfl
  have e6 : w7.cell? ⟨w.heap.size + 2, 6, none⟩ = some (.bool false) := S37.out.cell (i := 6) rfl
  have e7 : w7.cell? ⟨w.heap.size + 2, 7, none⟩ = some (.bool false) := S37.out.cell (i := 7) rfl
  have e8 : w7.cell? ⟨w.heap.size + 2, 8, none⟩ = some (.bool false) := S37.out.cell (i := 8) rfl
  have e9 : w7.cell? ⟨w.heap.size + 2, 9, none⟩ = some (.bool false) := S37.out.cell (i := 9) rfl
  have e10 : w7.cell? ⟨w.heap.size + 2, 10, none⟩ = some (.int .i64 0) := S37.out.cell (i := 10) rfl
  have e11 : w7.cell? ⟨w.heap.size + 2, 11, none⟩ = some (.slice none 0 0) := S37.out.cell (i := 11) rfl
  have e12 : w7.cell? ⟨w.heap.size + 2, 12, none⟩ = some (.slice none 0 0) := S37.out.cell (i := 12) rfl
  have e13 : w7.cell? ⟨w.heap.size + 2, 13, none⟩ = some (.slice none 0 0) := S37.out.cell (i := 13) rfl
  have e14 : w7.cell? ⟨w.heap.size + 2, 14, none⟩ = some (.slice none 0 0) := S37.out.cell (i := 14) rfl
  clear hl2 hw5 hw6
  go_wp2_with fail
  have GR := grown_put15 w7 (w.heap.size + 1 + 1) (.int .i64 h.id) (.bool h.an) (.int .i64 h.op) (.bool h.aa) (.bool h.tc) (.bool h.rd) (.bool h.ra) (.bool h.z) (.bool h.ad) (.bool h.cd) (.int .i64 h.code) (.slice yq qs.length dq) (.slice y1 r1.length d1) (.slice y2 r2.length d2) (.slice y4 n4 d4)
  have A8 := A7.out.grown GR (fun b hb => by cases hb; left; omega)
  refine bodyPost_ret (results_set _ _ (w.heap.size + 1 + 1) _ _ _ _ _ _ _ _ _ _ _ _ _ _ _ rfl ((show Bl 28 w7 (w.heap.size + 1 + 1) ms0 from S37.out).put15 _ _ _ _ _ _ _ _ _ _ _ _ _ _ _)) rfl ?_
  have hn := HN.out
  subst hn
  exact ⟨yq, dq, y1, d1, y2, d2, y4, d4, rfl, (Q1.out.agree A8).base (by omega), (Q2.out.agree A8).base (by omega), (Q3.out.agree A8).base (by omega), (R7.out.kept GR (fun q => Nat.lt_irrefl _ q.2) NP.out).toR, below_put15 B7.out (by omega) _ _ _ _ _ _ _ _ _ _ _ _ _ _ _⟩

end Go.Proofs.YtbbgabdiikdjpaaDoor
