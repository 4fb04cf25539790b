/-
  The walk of the law MsgBack over its callees' contracts: for any bytes and any message it hands back true, and writes nothing that was there.
-/
import Derived.Test.YtjpahieeaojieaaDoorMgBack
import Derived.Test.YtjpahieeaojieaaDoorMgSame
import Derived.Test.YtjpahieeaojieaaDoorLawTorn
namespace Go.Proofs.YtjpahieeaojieaaDoor
open Go.RowKit Go.Deep

theorem mwrite_ok {xq x1 x2 x3 : Option Addr} {cq c1 c2 c3 bq : Nat} (h : Hd) (qs : List Qn) (r1 r2 r3 : List Rn) (w : World) (hq : Qs w bq xq cq qs) (hr1 : Rs w bq x1 c1 r1) (hr2 : Rs w bq x2 c2 r2) (hr3 : Rs w bq x3 c3 r3) (hE : msgE h qs r1 r2 r3 = 0) :
    Calls Tryd.prog 18 #[.agg #[.int .i64 h.id, .bool h.an, .int .i64 h.op, .bool h.aa, .bool h.tc, .bool h.rd, .bool h.ra, .bool h.z, .bool h.ad, .bool h.cd, .int .i64 h.code, .slice xq qs.length cq, .slice x1 r1.length c1, .slice x2 r2.length c2, .slice x3 r3.length c3]] w fun e w' => ∃ x c, e = .returned (.tuple #[.slice x (endS h qs r1 r2 r3).1.length c, .nilIface]) ∧ Rowb w' w.heap.size (.slice x (endS h qs r1 r2 r3).1.length c) (endS h qs r1 r2 r3).1 ∧ Below w.heap.size w w' := by
  refine (mwrite_any h qs r1 r2 r3 w hq hr1 hr2 hr3).mono ?_
  rintro e w' (⟨_, k⟩ | ⟨k, _⟩)
  · exact k
  · exact absurd hE k

theorem mwrite_no {xq x1 x2 x3 : Option Addr} {cq c1 c2 c3 bq : Nat} (h : Hd) (qs : List Qn) (r1 r2 r3 : List Rn) (w : World) (hq : Qs w bq xq cq qs) (hr1 : Rs w bq x1 c1 r1) (hr2 : Rs w bq x2 c2 r2) (hr3 : Rs w bq x3 c3 r3) (hE : ¬ msgE h qs r1 r2 r3 = 0) :
    Calls Tryd.prog 18 #[.agg #[.int .i64 h.id, .bool h.an, .int .i64 h.op, .bool h.aa, .bool h.tc, .bool h.rd, .bool h.ra, .bool h.z, .bool h.ad, .bool h.cd, .int .i64 h.code, .slice xq qs.length cq, .slice x1 r1.length c1, .slice x2 r2.length c2, .slice x3 r3.length c3]] w fun e w' => e = .returned (.tuple #[.slice none 0 0, .iface 25 (.int .i64 (msgE h qs r1 r2 r3))]) ∧ Below w.heap.size w w' := by
  refine (mwrite_any h qs r1 r2 r3 w hq hr1 hr2 hr3).mono ?_
  rintro e w' (⟨k, _⟩ | ⟨_, k⟩)
  · exact absurd k hE
  · exact k

theorem rs_data {w : World} {bq : Nat} {x1 x2 x3 : Option Addr} {c1 c2 c3 : Nat} {r1 r2 r3 : List Rn} (hr1 : Rs w bq x1 c1 r1) (hr2 : Rs w bq x2 c2 r2) (hr3 : Rs w bq x3 c3 r3) : ∀ r ∈ r1 ++ r2 ++ r3, ∀ b ∈ r.D, 0 ≤ b ∧ b ≤ 255 := by
  intro r hr
  simp only [List.mem_append] at hr
  rcases hr with (hr | hr) | hr
  · exact hr1.data r hr
  · exact hr2.data r hr
  · exact hr3.data r hr

set_option maxHeartbeats 4000000 in
set_option maxRecDepth 100000 in
theorem mback_ok_err {x xq x1 x2 x3 : Option Addr} {c l cq c1 c2 c3 bq : Nat} (ms : List Int) (h : Hd) (qs : List Qn) (r1 r2 r3 : List Rn) (w : World) (hb : Bys w x c ms) (hl : ms.length = l) (hq : Qs w bq xq cq qs) (hr1 : Rs w bq x1 c1 r1) (hr2 : Rs w bq x2 c2 r2) (hr3 : Rs w bq x3 c3 r3) (hE : msgE h qs r1 r2 r3 = 0) (k : Int) (hr : msgR ms = (k, [], [], [], [])) (k0 : ¬ k = 0) :
    Calls Tryd.prog 5 #[.slice x l c, .agg #[.int .i64 h.id, .bool h.an, .int .i64 h.op, .bool h.aa, .bool h.tc, .bool h.rd, .bool h.ra, .bool h.z, .bool h.ad, .bool h.cd, .int .i64 h.code, .slice xq qs.length cq, .slice x1 r1.length c1, .slice x2 r2.length c2, .slice x3 r3.length c3]] w fun e w' => e = .returned (.bool true) ∧ Below w.heap.size w w' := by
  subst hl
  have hDD : Hid (∀ r ∈ r1 ++ r2 ++ r3, ∀ b ∈ r.D, 0 ≤ b ∧ b ≤ 255) := hid (rs_data hr1 hr2 hr3)
  have E := hid hr
  have K := hid k0
  clear hr k0
  go_enter Tryd.func5, Tryd.ntmps5
  go_wp2_with fail
  have B0 : Below w.heap.size w (w.alloc (.cells #[.int .i64 h.id, .bool h.an, .int .i64 h.op, .bool h.aa, .bool h.tc, .bool h.rd, .bool h.ra, .bool h.z, .bool h.ad, .bool h.cd, .int .i64 h.code, .slice xq qs.length cq, .slice x1 r1.length c1, .slice x2 r2.length c2, .slice x3 r3.length c3] 41)) := (Below.refl _ w).alloc (Nat.le_refl _) _
  have K0 := Bl.new 41 w #[.int .i64 h.id, .bool h.an, .int .i64 h.op, .bool h.aa, .bool h.tc, .bool h.rd, .bool h.ra, .bool h.z, .bool h.ad, .bool h.cd, .int .i64 h.code, .slice xq qs.length cq, .slice x1 r1.length c1, .slice x2 r2.length c2, .slice x3 r3.length c3]
  refine (mwrite_empty _).mono ?_
  rintro e w1 ⟨y1, e1, rfl, b1⟩
  have B1 := hid (grown_on B0 b1)
  have K1 := K0.below b1
  have m0 : w1.cell? ⟨w.heap.size, 0, none⟩ = some (.int .i64 h.id) := K1.cell (i := 0) rfl
  have m1 : w1.cell? ⟨w.heap.size, 1, none⟩ = some (.bool h.an) := K1.cell (i := 1) rfl
  have m2 : w1.cell? ⟨w.heap.size, 2, none⟩ = some (.int .i64 h.op) := K1.cell (i := 2) rfl
  have m3 : w1.cell? ⟨w.heap.size, 3, none⟩ = some (.bool h.aa) := K1.cell (i := 3) rfl
  have m4 : w1.cell? ⟨w.heap.size, 4, none⟩ = some (.bool h.tc) := K1.cell (i := 4) rfl
  have m5 : w1.cell? ⟨w.heap.size, 5, none⟩ = some (.bool h.rd) := K1.cell (i := 5) rfl
  have m6 : w1.cell? ⟨w.heap.size, 6, none⟩ = some (.bool h.ra) := K1.cell (i := 6) rfl
  have m7 : w1.cell? ⟨w.heap.size, 7, none⟩ = some (.bool h.z) := K1.cell (i := 7) rfl
  have m8 : w1.cell? ⟨w.heap.size, 8, none⟩ = some (.bool h.ad) := K1.cell (i := 8) rfl
  have m9 : w1.cell? ⟨w.heap.size, 9, none⟩ = some (.bool h.cd) := K1.cell (i := 9) rfl
  have m10 : w1.cell? ⟨w.heap.size, 10, none⟩ = some (.int .i64 h.code) := K1.cell (i := 10) rfl
  have m11 : w1.cell? ⟨w.heap.size, 11, none⟩ = some (.slice xq qs.length cq) := K1.cell (i := 11) rfl
  have m12 : w1.cell? ⟨w.heap.size, 12, none⟩ = some (.slice x1 r1.length c1) := K1.cell (i := 12) rfl
  have m13 : w1.cell? ⟨w.heap.size, 13, none⟩ = some (.slice x2 r2.length c2) := K1.cell (i := 13) rfl
  have m14 : w1.cell? ⟨w.heap.size, 14, none⟩ = some (.slice x3 r3.length c3) := K1.cell (i := 14) rfl
  have KM := hid K1
  clear B0 K0 b1 K1
  go_wp2_with fail
  have BK := hid (msg_back hE hDD.out)
  have hFl0 : (endS h qs r1 r2 r3).1.length ≤ 65535 := (msgE_zero hE).2.2.2.2
  refine (mwrite_ok h qs r1 r2 r3 _ (hq.below B1.out) (hr1.below B1.out) (hr2.below B1.out) (hr3.below B1.out) hE).mono ?_
  rintro e w2 ⟨x5, c5, rfl, hrow, d2⟩
  have B2 := hid (grown_on B1.out d2)
  have KM2 := hid (KM.out.below d2)
  obtain ⟨F, hF⟩ : ∃ F, (endS h qs r1 r2 r3).1 = F := ⟨_, rfl⟩
  rw [hF] at BK hrow hFl0 ⊢
  obtain ⟨xx, cc, e2, hby⟩ := rowb_bys hrow (by omega) BK.out.2.2
  simp only [Value.slice.injEq, true_and] at e2
  obtain ⟨rfl, rfl⟩ := e2
  have BYS := hid hby
  clear d2 hrow hby hF hE B1 KM m0 m1 m2 m3 m4 m5 m6 m7 m8 m9 m10 m11 m12 m13 m14
  go_wp2_with fail
  refine (mread_good F _ BYS.out rfl BK.out.1).mono ?_
  rintro e w4 ⟨vq, wq, v1, w1', v2, w2', v3, w3', rfl, t0, t1, t2, t3, d4⟩
  rw [BK.out.2.1]
  have DW : Below w4.heap.size w4 (w4.alloc (.cells #[.int .i64 h.id, .bool h.an, .int .i64 h.op, .bool h.aa, .bool h.tc, .bool h.rd, .bool h.ra, .bool h.z, .bool h.ad, .bool h.cd, .int .i64 h.code, .slice vq qs.length wq, .slice v1 r1.length w1', .slice v2 r2.length w2', .slice v3 r3.length w3'] 41)) := (Below.refl _ _).alloc (Nat.le_refl _) _
  have KW := Bl.new 41 w4 #[.int .i64 h.id, .bool h.an, .int .i64 h.op, .bool h.aa, .bool h.tc, .bool h.rd, .bool h.ra, .bool h.z, .bool h.ad, .bool h.cd, .int .i64 h.code, .slice vq qs.length wq, .slice v1 r1.length w1', .slice v2 r2.length w2', .slice v3 r3.length w3']
  have KY4 := (KM2.out.below d4).below DW
  have B4 := hid (grown_on (grown_on B2.out d4) DW)
  have A0 := hid (t0.below DW)
  have A1 := hid (t1.below DW)
  have A2 := hid (t2.below DW)
  have A3 := hid (t3.below DW)
  clear d4 t0 t1 t2 t3 KM2 B2 DW BK BYS
  go_upto_region 7 with fail
  generalize w4.alloc (.cells #[.int .i64 h.id, .bool h.an, .int .i64 h.op, .bool h.aa, .bool h.tc, .bool h.rd, .bool h.ra, .bool h.z, .bool h.ad, .bool h.cd, .int .i64 h.code, .slice vq qs.length wq, .slice v1 r1.length w1', .slice v2 r2.length w2', .slice v3 r3.length w3'] 41) = W5 at *
  have xa0 : W5.cell? ⟨w4.heap.size, 0, none⟩ = some (.int .i64 h.id) := KW.cell (i := 0) rfl
  have xa1 : W5.cell? ⟨w4.heap.size, 1, none⟩ = some (.bool h.an) := KW.cell (i := 1) rfl
  have xa2 : W5.cell? ⟨w4.heap.size, 2, none⟩ = some (.int .i64 h.op) := KW.cell (i := 2) rfl
  have xa3 : W5.cell? ⟨w4.heap.size, 3, none⟩ = some (.bool h.aa) := KW.cell (i := 3) rfl
  have xa4 : W5.cell? ⟨w4.heap.size, 4, none⟩ = some (.bool h.tc) := KW.cell (i := 4) rfl
  have xa5 : W5.cell? ⟨w4.heap.size, 5, none⟩ = some (.bool h.rd) := KW.cell (i := 5) rfl
  have xa6 : W5.cell? ⟨w4.heap.size, 6, none⟩ = some (.bool h.ra) := KW.cell (i := 6) rfl
  have xa7 : W5.cell? ⟨w4.heap.size, 7, none⟩ = some (.bool h.z) := KW.cell (i := 7) rfl
  have xa8 : W5.cell? ⟨w4.heap.size, 8, none⟩ = some (.bool h.ad) := KW.cell (i := 8) rfl
  have xa9 : W5.cell? ⟨w4.heap.size, 9, none⟩ = some (.bool h.cd) := KW.cell (i := 9) rfl
  have xa10 : W5.cell? ⟨w4.heap.size, 10, none⟩ = some (.int .i64 h.code) := KW.cell (i := 10) rfl
  have xa11 : W5.cell? ⟨w4.heap.size, 11, none⟩ = some (.slice vq qs.length wq) := KW.cell (i := 11) rfl
  have xa12 : W5.cell? ⟨w4.heap.size, 12, none⟩ = some (.slice v1 r1.length w1') := KW.cell (i := 12) rfl
  have xa13 : W5.cell? ⟨w4.heap.size, 13, none⟩ = some (.slice v2 r2.length w2') := KW.cell (i := 13) rfl
  have xa14 : W5.cell? ⟨w4.heap.size, 14, none⟩ = some (.slice v3 r3.length w3') := KW.cell (i := 14) rfl
  have xb0 : W5.cell? ⟨w.heap.size, 0, none⟩ = some (.int .i64 h.id) := KY4.cell (i := 0) rfl
  have xb1 : W5.cell? ⟨w.heap.size, 1, none⟩ = some (.bool h.an) := KY4.cell (i := 1) rfl
  have xb2 : W5.cell? ⟨w.heap.size, 2, none⟩ = some (.int .i64 h.op) := KY4.cell (i := 2) rfl
  have xb3 : W5.cell? ⟨w.heap.size, 3, none⟩ = some (.bool h.aa) := KY4.cell (i := 3) rfl
  have xb4 : W5.cell? ⟨w.heap.size, 4, none⟩ = some (.bool h.tc) := KY4.cell (i := 4) rfl
  have xb5 : W5.cell? ⟨w.heap.size, 5, none⟩ = some (.bool h.rd) := KY4.cell (i := 5) rfl
  have xb6 : W5.cell? ⟨w.heap.size, 6, none⟩ = some (.bool h.ra) := KY4.cell (i := 6) rfl
  have xb7 : W5.cell? ⟨w.heap.size, 7, none⟩ = some (.bool h.z) := KY4.cell (i := 7) rfl
  have xb8 : W5.cell? ⟨w.heap.size, 8, none⟩ = some (.bool h.ad) := KY4.cell (i := 8) rfl
  have xb9 : W5.cell? ⟨w.heap.size, 9, none⟩ = some (.bool h.cd) := KY4.cell (i := 9) rfl
  have xb10 : W5.cell? ⟨w.heap.size, 10, none⟩ = some (.int .i64 h.code) := KY4.cell (i := 10) rfl
  have xb11 : W5.cell? ⟨w.heap.size, 11, none⟩ = some (.slice xq qs.length cq) := KY4.cell (i := 11) rfl
  have xb12 : W5.cell? ⟨w.heap.size, 12, none⟩ = some (.slice x1 r1.length c1) := KY4.cell (i := 12) rfl
  have xb13 : W5.cell? ⟨w.heap.size, 13, none⟩ = some (.slice x2 r2.length c2) := KY4.cell (i := 13) rfl
  have xb14 : W5.cell? ⟨w.heap.size, 14, none⟩ = some (.slice x3 r3.length c3) := KY4.cell (i := 14) rfl
  clear KW KY4
  go_wp2_with fail
  refine (smsg_at h qs r1 r2 r3 _ A0.out A1.out A2.out A3.out (hq.below B4.out) (hr1.below B4.out) (hr2.below B4.out) (hr3.below B4.out)).mono ?_
  rintro e w6 ⟨rfl, d6⟩
  have B6 := hid (grown_on B4.out d6)
  clear d6 B4 A0 A1 A2 A3 xa0 xa1 xa2 xa3 xa4 xa5 xa6 xa7 xa8 xa9 xa10 xa11 xa12 xa13 xa14 xb0 xb1 xb2 xb3 xb4 xb5 xb6 xb7 xb8 xb9 xb10 xb11 xb12 xb13 xb14
  go_wp2_with fail
  refine (mread_err k ms _ (hb.below B6.out) rfl E.out K.out).mono ?_
  rintro e u2 ⟨rfl, d2⟩
  have D2 := hid (grown_on B6.out d2)
  clear d2
  go_wp2_with fail
  go_ret
  exact ⟨rfl, D2.out.alloc D2.out.size _⟩

set_option maxHeartbeats 4000000 in
set_option maxRecDepth 100000 in
theorem mback_ok_good {x xq x1 x2 x3 : Option Addr} {c l cq c1 c2 c3 bq : Nat} (ms : List Int) (h : Hd) (qs : List Qn) (r1 r2 r3 : List Rn) (w : World) (hb : Bys w x c ms) (hl : ms.length = l) (hq : Qs w bq xq cq qs) (hr1 : Rs w bq x1 c1 r1) (hr2 : Rs w bq x2 c2 r2) (hr3 : Rs w bq x3 c3 r3) (hE : msgE h qs r1 r2 r3 = 0) (hh : Hd) (ps : List Qn) (s1 s2 s3 : List Rn) (hr : msgR ms = (0, ps, s1, s2, s3)) (hhd : hdR ms = hh) (hrd : ∀ r ∈ s1 ++ s2 ++ s3, ∀ b ∈ r.D, 0 ≤ b ∧ b ≤ 255) (hE2 : msgE hh ps s1 s2 s3 = 0) :
    Calls Tryd.prog 5 #[.slice x l c, .agg #[.int .i64 h.id, .bool h.an, .int .i64 h.op, .bool h.aa, .bool h.tc, .bool h.rd, .bool h.ra, .bool h.z, .bool h.ad, .bool h.cd, .int .i64 h.code, .slice xq qs.length cq, .slice x1 r1.length c1, .slice x2 r2.length c2, .slice x3 r3.length c3]] w fun e w' => e = .returned (.bool true) ∧ Below w.heap.size w w' := by
  subst hl
  have hDD : Hid (∀ r ∈ r1 ++ r2 ++ r3, ∀ b ∈ r.D, 0 ≤ b ∧ b ≤ 255) := hid (rs_data hr1 hr2 hr3)
  have R := hid hr
  have HHD := hid hhd
  have RD := hid hrd
  have E2 := hid hE2
  clear hr hhd hrd hE2
  go_enter Tryd.func5, Tryd.ntmps5
  go_wp2_with fail
  have B0 : Below w.heap.size w (w.alloc (.cells #[.int .i64 h.id, .bool h.an, .int .i64 h.op, .bool h.aa, .bool h.tc, .bool h.rd, .bool h.ra, .bool h.z, .bool h.ad, .bool h.cd, .int .i64 h.code, .slice xq qs.length cq, .slice x1 r1.length c1, .slice x2 r2.length c2, .slice x3 r3.length c3] 41)) := (Below.refl _ w).alloc (Nat.le_refl _) _
  have K0 := Bl.new 41 w #[.int .i64 h.id, .bool h.an, .int .i64 h.op, .bool h.aa, .bool h.tc, .bool h.rd, .bool h.ra, .bool h.z, .bool h.ad, .bool h.cd, .int .i64 h.code, .slice xq qs.length cq, .slice x1 r1.length c1, .slice x2 r2.length c2, .slice x3 r3.length c3]
  refine (mwrite_empty _).mono ?_
  rintro e w1 ⟨y1, e1, rfl, b1⟩
  have B1 := hid (grown_on B0 b1)
  have K1 := K0.below b1
  have m0 : w1.cell? ⟨w.heap.size, 0, none⟩ = some (.int .i64 h.id) := K1.cell (i := 0) rfl
  have m1 : w1.cell? ⟨w.heap.size, 1, none⟩ = some (.bool h.an) := K1.cell (i := 1) rfl
  have m2 : w1.cell? ⟨w.heap.size, 2, none⟩ = some (.int .i64 h.op) := K1.cell (i := 2) rfl
  have m3 : w1.cell? ⟨w.heap.size, 3, none⟩ = some (.bool h.aa) := K1.cell (i := 3) rfl
  have m4 : w1.cell? ⟨w.heap.size, 4, none⟩ = some (.bool h.tc) := K1.cell (i := 4) rfl
  have m5 : w1.cell? ⟨w.heap.size, 5, none⟩ = some (.bool h.rd) := K1.cell (i := 5) rfl
  have m6 : w1.cell? ⟨w.heap.size, 6, none⟩ = some (.bool h.ra) := K1.cell (i := 6) rfl
  have m7 : w1.cell? ⟨w.heap.size, 7, none⟩ = some (.bool h.z) := K1.cell (i := 7) rfl
  have m8 : w1.cell? ⟨w.heap.size, 8, none⟩ = some (.bool h.ad) := K1.cell (i := 8) rfl
  have m9 : w1.cell? ⟨w.heap.size, 9, none⟩ = some (.bool h.cd) := K1.cell (i := 9) rfl
  have m10 : w1.cell? ⟨w.heap.size, 10, none⟩ = some (.int .i64 h.code) := K1.cell (i := 10) rfl
  have m11 : w1.cell? ⟨w.heap.size, 11, none⟩ = some (.slice xq qs.length cq) := K1.cell (i := 11) rfl
  have m12 : w1.cell? ⟨w.heap.size, 12, none⟩ = some (.slice x1 r1.length c1) := K1.cell (i := 12) rfl
  have m13 : w1.cell? ⟨w.heap.size, 13, none⟩ = some (.slice x2 r2.length c2) := K1.cell (i := 13) rfl
  have m14 : w1.cell? ⟨w.heap.size, 14, none⟩ = some (.slice x3 r3.length c3) := K1.cell (i := 14) rfl
  have KM := hid K1
  clear B0 K0 b1 K1
  go_wp2_with fail
  have BK := hid (msg_back hE hDD.out)
  have hFl0 : (endS h qs r1 r2 r3).1.length ≤ 65535 := (msgE_zero hE).2.2.2.2
  refine (mwrite_ok h qs r1 r2 r3 _ (hq.below B1.out) (hr1.below B1.out) (hr2.below B1.out) (hr3.below B1.out) hE).mono ?_
  rintro e w2 ⟨x5, c5, rfl, hrow, d2⟩
  have B2 := hid (grown_on B1.out d2)
  have KM2 := hid (KM.out.below d2)
  obtain ⟨F, hF⟩ : ∃ F, (endS h qs r1 r2 r3).1 = F := ⟨_, rfl⟩
  rw [hF] at BK hrow hFl0 ⊢
  obtain ⟨xx, cc, e2, hby⟩ := rowb_bys hrow (by omega) BK.out.2.2
  simp only [Value.slice.injEq, true_and] at e2
  obtain ⟨rfl, rfl⟩ := e2
  have BYS := hid hby
  clear d2 hrow hby hF hE B1 KM m0 m1 m2 m3 m4 m5 m6 m7 m8 m9 m10 m11 m12 m13 m14
  go_wp2_with fail
  refine (mread_good F _ BYS.out rfl BK.out.1).mono ?_
  rintro e w4 ⟨vq, wq, v1, w1', v2, w2', v3, w3', rfl, t0, t1, t2, t3, d4⟩
  rw [BK.out.2.1]
  have DW : Below w4.heap.size w4 (w4.alloc (.cells #[.int .i64 h.id, .bool h.an, .int .i64 h.op, .bool h.aa, .bool h.tc, .bool h.rd, .bool h.ra, .bool h.z, .bool h.ad, .bool h.cd, .int .i64 h.code, .slice vq qs.length wq, .slice v1 r1.length w1', .slice v2 r2.length w2', .slice v3 r3.length w3'] 41)) := (Below.refl _ _).alloc (Nat.le_refl _) _
  have KW := Bl.new 41 w4 #[.int .i64 h.id, .bool h.an, .int .i64 h.op, .bool h.aa, .bool h.tc, .bool h.rd, .bool h.ra, .bool h.z, .bool h.ad, .bool h.cd, .int .i64 h.code, .slice vq qs.length wq, .slice v1 r1.length w1', .slice v2 r2.length w2', .slice v3 r3.length w3']
  have KY4 := (KM2.out.below d4).below DW
  have B4 := hid (grown_on (grown_on B2.out d4) DW)
  have A0 := hid (t0.below DW)
  have A1 := hid (t1.below DW)
  have A2 := hid (t2.below DW)
  have A3 := hid (t3.below DW)
  clear d4 t0 t1 t2 t3 KM2 B2 DW BK BYS
  go_upto_region 7 with fail
  generalize w4.alloc (.cells #[.int .i64 h.id, .bool h.an, .int .i64 h.op, .bool h.aa, .bool h.tc, .bool h.rd, .bool h.ra, .bool h.z, .bool h.ad, .bool h.cd, .int .i64 h.code, .slice vq qs.length wq, .slice v1 r1.length w1', .slice v2 r2.length w2', .slice v3 r3.length w3'] 41) = W5 at *
  have xa0 : W5.cell? ⟨w4.heap.size, 0, none⟩ = some (.int .i64 h.id) := KW.cell (i := 0) rfl
  have xa1 : W5.cell? ⟨w4.heap.size, 1, none⟩ = some (.bool h.an) := KW.cell (i := 1) rfl
  have xa2 : W5.cell? ⟨w4.heap.size, 2, none⟩ = some (.int .i64 h.op) := KW.cell (i := 2) rfl
  have xa3 : W5.cell? ⟨w4.heap.size, 3, none⟩ = some (.bool h.aa) := KW.cell (i := 3) rfl
  have xa4 : W5.cell? ⟨w4.heap.size, 4, none⟩ = some (.bool h.tc) := KW.cell (i := 4) rfl
  have xa5 : W5.cell? ⟨w4.heap.size, 5, none⟩ = some (.bool h.rd) := KW.cell (i := 5) rfl
  have xa6 : W5.cell? ⟨w4.heap.size, 6, none⟩ = some (.bool h.ra) := KW.cell (i := 6) rfl
  have xa7 : W5.cell? ⟨w4.heap.size, 7, none⟩ = some (.bool h.z) := KW.cell (i := 7) rfl
  have xa8 : W5.cell? ⟨w4.heap.size, 8, none⟩ = some (.bool h.ad) := KW.cell (i := 8) rfl
  have xa9 : W5.cell? ⟨w4.heap.size, 9, none⟩ = some (.bool h.cd) := KW.cell (i := 9) rfl
  have xa10 : W5.cell? ⟨w4.heap.size, 10, none⟩ = some (.int .i64 h.code) := KW.cell (i := 10) rfl
  have xa11 : W5.cell? ⟨w4.heap.size, 11, none⟩ = some (.slice vq qs.length wq) := KW.cell (i := 11) rfl
  have xa12 : W5.cell? ⟨w4.heap.size, 12, none⟩ = some (.slice v1 r1.length w1') := KW.cell (i := 12) rfl
  have xa13 : W5.cell? ⟨w4.heap.size, 13, none⟩ = some (.slice v2 r2.length w2') := KW.cell (i := 13) rfl
  have xa14 : W5.cell? ⟨w4.heap.size, 14, none⟩ = some (.slice v3 r3.length w3') := KW.cell (i := 14) rfl
  have xb0 : W5.cell? ⟨w.heap.size, 0, none⟩ = some (.int .i64 h.id) := KY4.cell (i := 0) rfl
  have xb1 : W5.cell? ⟨w.heap.size, 1, none⟩ = some (.bool h.an) := KY4.cell (i := 1) rfl
  have xb2 : W5.cell? ⟨w.heap.size, 2, none⟩ = some (.int .i64 h.op) := KY4.cell (i := 2) rfl
  have xb3 : W5.cell? ⟨w.heap.size, 3, none⟩ = some (.bool h.aa) := KY4.cell (i := 3) rfl
  have xb4 : W5.cell? ⟨w.heap.size, 4, none⟩ = some (.bool h.tc) := KY4.cell (i := 4) rfl
  have xb5 : W5.cell? ⟨w.heap.size, 5, none⟩ = some (.bool h.rd) := KY4.cell (i := 5) rfl
  have xb6 : W5.cell? ⟨w.heap.size, 6, none⟩ = some (.bool h.ra) := KY4.cell (i := 6) rfl
  have xb7 : W5.cell? ⟨w.heap.size, 7, none⟩ = some (.bool h.z) := KY4.cell (i := 7) rfl
  have xb8 : W5.cell? ⟨w.heap.size, 8, none⟩ = some (.bool h.ad) := KY4.cell (i := 8) rfl
  have xb9 : W5.cell? ⟨w.heap.size, 9, none⟩ = some (.bool h.cd) := KY4.cell (i := 9) rfl
  have xb10 : W5.cell? ⟨w.heap.size, 10, none⟩ = some (.int .i64 h.code) := KY4.cell (i := 10) rfl
  have xb11 : W5.cell? ⟨w.heap.size, 11, none⟩ = some (.slice xq qs.length cq) := KY4.cell (i := 11) rfl
  have xb12 : W5.cell? ⟨w.heap.size, 12, none⟩ = some (.slice x1 r1.length c1) := KY4.cell (i := 12) rfl
  have xb13 : W5.cell? ⟨w.heap.size, 13, none⟩ = some (.slice x2 r2.length c2) := KY4.cell (i := 13) rfl
  have xb14 : W5.cell? ⟨w.heap.size, 14, none⟩ = some (.slice x3 r3.length c3) := KY4.cell (i := 14) rfl
  clear KW KY4
  go_wp2_with fail
  refine (smsg_at h qs r1 r2 r3 _ A0.out A1.out A2.out A3.out (hq.below B4.out) (hr1.below B4.out) (hr2.below B4.out) (hr3.below B4.out)).mono ?_
  rintro e w6 ⟨rfl, d6⟩
  have B6 := hid (grown_on B4.out d6)
  clear d6 B4 A0 A1 A2 A3 xa0 xa1 xa2 xa3 xa4 xa5 xa6 xa7 xa8 xa9 xa10 xa11 xa12 xa13 xa14 xb0 xb1 xb2 xb3 xb4 xb5 xb6 xb7 xb8 xb9 xb10 xb11 xb12 xb13 xb14
  go_wp2_with fail
  refine (mread_good ms _ (hb.below B6.out) rfl R.out).mono ?_
  rintro e u2 ⟨zq, eq, z1, f1, z2, f2, z3, f3, rfl, gq, g1, g2, g3, d2⟩
  have D2 := grown_on B6.out d2
  rw [HHD.out]
  have KY := Bl.new 41 u2 #[.int .i64 hh.id, .bool hh.an, .int .i64 hh.op, .bool hh.aa, .bool hh.tc, .bool hh.rd, .bool hh.ra, .bool hh.z, .bool hh.ad, .bool hh.cd, .int .i64 hh.code, .slice zq ps.length eq, .slice z1 s1.length f1, .slice z2 s2.length f2, .slice z3 s3.length f3]
  have DY : Below u2.heap.size u2 (u2.alloc (.cells #[.int .i64 hh.id, .bool hh.an, .int .i64 hh.op, .bool hh.aa, .bool hh.tc, .bool hh.rd, .bool hh.ra, .bool hh.z, .bool hh.ad, .bool hh.cd, .int .i64 hh.code, .slice zq ps.length eq, .slice z1 s1.length f1, .slice z2 s2.length f2, .slice z3 s3.length f3] 41)) := (Below.refl _ _).alloc (Nat.le_refl _) _
  have BY := hid (grown_on D2 DY)
  have GQ := hid (gq.below DY)
  have G1 := hid (g1.below DY)
  have G2 := hid (g2.below DY)
  have G3 := hid (g3.below DY)
  have KYY := hid KY
  clear d2 D2 DY gq g1 g2 g3 KY
  go_wp2_with fail
  refine (mwrite_ok hh ps s1 s2 s3 _ GQ.out G1.out G2.out G3.out E2.out).mono ?_
  rintro e u3 ⟨x5, c5, rfl, hrow, d3⟩
  have B3 := hid (grown_on BY.out d3)
  have GQ3 := hid (GQ.out.below d3)
  have G13 := hid (G1.out.below d3)
  have G23 := hid (G2.out.below d3)
  have G33 := hid (G3.out.below d3)
  have KY3 := hid (KYY.out.below d3)
  have hFl : (endS hh ps s1 s2 s3).1.length ≤ 65535 := (msgE_zero E2.out).2.2.2.2
  have BK2 := hid (msg_back E2.out RD.out)
  obtain ⟨F2, hF⟩ : ∃ F, (endS hh ps s1 s2 s3).1 = F := ⟨_, rfl⟩
  rw [hF] at BK2 hrow hFl ⊢
  obtain ⟨xx, cc, e2, hby⟩ := rowb_bys hrow (by omega) BK2.out.2.2
  simp only [Value.slice.injEq, true_and] at e2
  obtain ⟨rfl, rfl⟩ := e2
  have BYS2 := hid hby
  clear d3 GQ G1 G2 G3 KYY BY hrow hby hF
  go_wp2_with fail
  refine (mread_good F2 _ BYS2.out rfl BK2.out.1).mono ?_
  rintro e u4 ⟨vq, wq, v1, w1', v2, w2', v3, w3', rfl, t0, t1, t2, t3, d4⟩
  rw [BK2.out.2.1]
  have DW : Below u4.heap.size u4 (u4.alloc (.cells #[.int .i64 hh.id, .bool hh.an, .int .i64 hh.op, .bool hh.aa, .bool hh.tc, .bool hh.rd, .bool hh.ra, .bool hh.z, .bool hh.ad, .bool hh.cd, .int .i64 hh.code, .slice vq ps.length wq, .slice v1 s1.length w1', .slice v2 s2.length w2', .slice v3 s3.length w3'] 41)) := (Below.refl _ _).alloc (Nat.le_refl _) _
  have KW := Bl.new 41 u4 #[.int .i64 hh.id, .bool hh.an, .int .i64 hh.op, .bool hh.aa, .bool hh.tc, .bool hh.rd, .bool hh.ra, .bool hh.z, .bool hh.ad, .bool hh.cd, .int .i64 hh.code, .slice vq ps.length wq, .slice v1 s1.length w1', .slice v2 s2.length w2', .slice v3 s3.length w3']
  have KY4 := (KY3.out.below d4).below DW
  have B4 := hid (grown_on (grown_on B3.out d4) DW)
  have A0 := hid (t0.below DW)
  have A1 := hid (t1.below DW)
  have A2 := hid (t2.below DW)
  have A3 := hid (t3.below DW)
  have C0 := hid ((GQ3.out.below d4).below DW)
  have C1 := hid ((G13.out.below d4).below DW)
  have C2 := hid ((G23.out.below d4).below DW)
  have C3 := hid ((G33.out.below d4).below DW)
  clear d4 t0 t1 t2 t3 GQ3 G13 G23 G33 KY3 B3 DW BK2 BYS2
  go_upto_region 18 with fail
  generalize u4.alloc (.cells #[.int .i64 hh.id, .bool hh.an, .int .i64 hh.op, .bool hh.aa, .bool hh.tc, .bool hh.rd, .bool hh.ra, .bool hh.z, .bool hh.ad, .bool hh.cd, .int .i64 hh.code, .slice vq ps.length wq, .slice v1 s1.length w1', .slice v2 s2.length w2', .slice v3 s3.length w3'] 41) = U5 at *
  have xa0 : U5.cell? ⟨u4.heap.size, 0, none⟩ = some (.int .i64 hh.id) := KW.cell (i := 0) rfl
  have xa1 : U5.cell? ⟨u4.heap.size, 1, none⟩ = some (.bool hh.an) := KW.cell (i := 1) rfl
  have xa2 : U5.cell? ⟨u4.heap.size, 2, none⟩ = some (.int .i64 hh.op) := KW.cell (i := 2) rfl
  have xa3 : U5.cell? ⟨u4.heap.size, 3, none⟩ = some (.bool hh.aa) := KW.cell (i := 3) rfl
  have xa4 : U5.cell? ⟨u4.heap.size, 4, none⟩ = some (.bool hh.tc) := KW.cell (i := 4) rfl
  have xa5 : U5.cell? ⟨u4.heap.size, 5, none⟩ = some (.bool hh.rd) := KW.cell (i := 5) rfl
  have xa6 : U5.cell? ⟨u4.heap.size, 6, none⟩ = some (.bool hh.ra) := KW.cell (i := 6) rfl
  have xa7 : U5.cell? ⟨u4.heap.size, 7, none⟩ = some (.bool hh.z) := KW.cell (i := 7) rfl
  have xa8 : U5.cell? ⟨u4.heap.size, 8, none⟩ = some (.bool hh.ad) := KW.cell (i := 8) rfl
  have xa9 : U5.cell? ⟨u4.heap.size, 9, none⟩ = some (.bool hh.cd) := KW.cell (i := 9) rfl
  have xa10 : U5.cell? ⟨u4.heap.size, 10, none⟩ = some (.int .i64 hh.code) := KW.cell (i := 10) rfl
  have xa11 : U5.cell? ⟨u4.heap.size, 11, none⟩ = some (.slice vq ps.length wq) := KW.cell (i := 11) rfl
  have xa12 : U5.cell? ⟨u4.heap.size, 12, none⟩ = some (.slice v1 s1.length w1') := KW.cell (i := 12) rfl
  have xa13 : U5.cell? ⟨u4.heap.size, 13, none⟩ = some (.slice v2 s2.length w2') := KW.cell (i := 13) rfl
  have xa14 : U5.cell? ⟨u4.heap.size, 14, none⟩ = some (.slice v3 s3.length w3') := KW.cell (i := 14) rfl
  have xb0 : U5.cell? ⟨u2.heap.size, 0, none⟩ = some (.int .i64 hh.id) := KY4.cell (i := 0) rfl
  have xb1 : U5.cell? ⟨u2.heap.size, 1, none⟩ = some (.bool hh.an) := KY4.cell (i := 1) rfl
  have xb2 : U5.cell? ⟨u2.heap.size, 2, none⟩ = some (.int .i64 hh.op) := KY4.cell (i := 2) rfl
  have xb3 : U5.cell? ⟨u2.heap.size, 3, none⟩ = some (.bool hh.aa) := KY4.cell (i := 3) rfl
  have xb4 : U5.cell? ⟨u2.heap.size, 4, none⟩ = some (.bool hh.tc) := KY4.cell (i := 4) rfl
  have xb5 : U5.cell? ⟨u2.heap.size, 5, none⟩ = some (.bool hh.rd) := KY4.cell (i := 5) rfl
  have xb6 : U5.cell? ⟨u2.heap.size, 6, none⟩ = some (.bool hh.ra) := KY4.cell (i := 6) rfl
  have xb7 : U5.cell? ⟨u2.heap.size, 7, none⟩ = some (.bool hh.z) := KY4.cell (i := 7) rfl
  have xb8 : U5.cell? ⟨u2.heap.size, 8, none⟩ = some (.bool hh.ad) := KY4.cell (i := 8) rfl
  have xb9 : U5.cell? ⟨u2.heap.size, 9, none⟩ = some (.bool hh.cd) := KY4.cell (i := 9) rfl
  have xb10 : U5.cell? ⟨u2.heap.size, 10, none⟩ = some (.int .i64 hh.code) := KY4.cell (i := 10) rfl
  have xb11 : U5.cell? ⟨u2.heap.size, 11, none⟩ = some (.slice zq ps.length eq) := KY4.cell (i := 11) rfl
  have xb12 : U5.cell? ⟨u2.heap.size, 12, none⟩ = some (.slice z1 s1.length f1) := KY4.cell (i := 12) rfl
  have xb13 : U5.cell? ⟨u2.heap.size, 13, none⟩ = some (.slice z2 s2.length f2) := KY4.cell (i := 13) rfl
  have xb14 : U5.cell? ⟨u2.heap.size, 14, none⟩ = some (.slice z3 s3.length f3) := KY4.cell (i := 14) rfl
  clear KW KY4
  go_wp2_with fail
  refine (smsg_at hh ps s1 s2 s3 _ A0.out A1.out A2.out A3.out C0.out C1.out C2.out C3.out).mono ?_
  rintro e u6 ⟨rfl, d6⟩
  have B7 := hid (grown_on B4.out d6)
  clear d6 xa0 xa1 xa2 xa3 xa4 xa5 xa6 xa7 xa8 xa9 xa10 xa11 xa12 xa13 xa14 xb0 xb1 xb2 xb3 xb4 xb5 xb6 xb7 xb8 xb9 xb10 xb11 xb12 xb13 xb14
  go_wp2_with fail
  go_ret
  exact ⟨rfl, B7.out⟩

set_option maxHeartbeats 4000000 in
set_option maxRecDepth 100000 in
theorem mback_ok_full {x xq x1 x2 x3 : Option Addr} {c l cq c1 c2 c3 bq : Nat} (ms : List Int) (h : Hd) (qs : List Qn) (r1 r2 r3 : List Rn) (w : World) (hb : Bys w x c ms) (hl : ms.length = l) (hq : Qs w bq xq cq qs) (hr1 : Rs w bq x1 c1 r1) (hr2 : Rs w bq x2 c2 r2) (hr3 : Rs w bq x3 c3 r3) (hE : msgE h qs r1 r2 r3 = 0) (hh : Hd) (ps : List Qn) (s1 s2 s3 : List Rn) (hr : msgR ms = (0, ps, s1, s2, s3)) (hhd : hdR ms = hh) (hE2 : msgE hh ps s1 s2 s3 = 7) (hg : Glob w) :
    Calls Tryd.prog 5 #[.slice x l c, .agg #[.int .i64 h.id, .bool h.an, .int .i64 h.op, .bool h.aa, .bool h.tc, .bool h.rd, .bool h.ra, .bool h.z, .bool h.ad, .bool h.cd, .int .i64 h.code, .slice xq qs.length cq, .slice x1 r1.length c1, .slice x2 r2.length c2, .slice x3 r3.length c3]] w fun e w' => e = .returned (.bool true) ∧ Below w.heap.size w w' := by
  subst hl
  have hDD : Hid (∀ r ∈ r1 ++ r2 ++ r3, ∀ b ∈ r.D, 0 ≤ b ∧ b ≤ 255) := hid (rs_data hr1 hr2 hr3)
  have R := hid hr
  have HHD := hid hhd
  have E2 := hid hE2
  clear hr hhd hE2
  go_enter Tryd.func5, Tryd.ntmps5
  go_wp2_with fail
  have B0 : Below w.heap.size w (w.alloc (.cells #[.int .i64 h.id, .bool h.an, .int .i64 h.op, .bool h.aa, .bool h.tc, .bool h.rd, .bool h.ra, .bool h.z, .bool h.ad, .bool h.cd, .int .i64 h.code, .slice xq qs.length cq, .slice x1 r1.length c1, .slice x2 r2.length c2, .slice x3 r3.length c3] 41)) := (Below.refl _ w).alloc (Nat.le_refl _) _
  have K0 := Bl.new 41 w #[.int .i64 h.id, .bool h.an, .int .i64 h.op, .bool h.aa, .bool h.tc, .bool h.rd, .bool h.ra, .bool h.z, .bool h.ad, .bool h.cd, .int .i64 h.code, .slice xq qs.length cq, .slice x1 r1.length c1, .slice x2 r2.length c2, .slice x3 r3.length c3]
  refine (mwrite_empty _).mono ?_
  rintro e w1 ⟨y1, e1, rfl, b1⟩
  have B1 := hid (grown_on B0 b1)
  have K1 := K0.below b1
  have m0 : w1.cell? ⟨w.heap.size, 0, none⟩ = some (.int .i64 h.id) := K1.cell (i := 0) rfl
  have m1 : w1.cell? ⟨w.heap.size, 1, none⟩ = some (.bool h.an) := K1.cell (i := 1) rfl
  have m2 : w1.cell? ⟨w.heap.size, 2, none⟩ = some (.int .i64 h.op) := K1.cell (i := 2) rfl
  have m3 : w1.cell? ⟨w.heap.size, 3, none⟩ = some (.bool h.aa) := K1.cell (i := 3) rfl
  have m4 : w1.cell? ⟨w.heap.size, 4, none⟩ = some (.bool h.tc) := K1.cell (i := 4) rfl
  have m5 : w1.cell? ⟨w.heap.size, 5, none⟩ = some (.bool h.rd) := K1.cell (i := 5) rfl
  have m6 : w1.cell? ⟨w.heap.size, 6, none⟩ = some (.bool h.ra) := K1.cell (i := 6) rfl
  have m7 : w1.cell? ⟨w.heap.size, 7, none⟩ = some (.bool h.z) := K1.cell (i := 7) rfl
  have m8 : w1.cell? ⟨w.heap.size, 8, none⟩ = some (.bool h.ad) := K1.cell (i := 8) rfl
  have m9 : w1.cell? ⟨w.heap.size, 9, none⟩ = some (.bool h.cd) := K1.cell (i := 9) rfl
  have m10 : w1.cell? ⟨w.heap.size, 10, none⟩ = some (.int .i64 h.code) := K1.cell (i := 10) rfl
  have m11 : w1.cell? ⟨w.heap.size, 11, none⟩ = some (.slice xq qs.length cq) := K1.cell (i := 11) rfl
  have m12 : w1.cell? ⟨w.heap.size, 12, none⟩ = some (.slice x1 r1.length c1) := K1.cell (i := 12) rfl
  have m13 : w1.cell? ⟨w.heap.size, 13, none⟩ = some (.slice x2 r2.length c2) := K1.cell (i := 13) rfl
  have m14 : w1.cell? ⟨w.heap.size, 14, none⟩ = some (.slice x3 r3.length c3) := K1.cell (i := 14) rfl
  have KM := hid K1
  clear B0 K0 b1 K1
  go_wp2_with fail
  have BK := hid (msg_back hE hDD.out)
  have hFl0 : (endS h qs r1 r2 r3).1.length ≤ 65535 := (msgE_zero hE).2.2.2.2
  refine (mwrite_ok h qs r1 r2 r3 _ (hq.below B1.out) (hr1.below B1.out) (hr2.below B1.out) (hr3.below B1.out) hE).mono ?_
  rintro e w2 ⟨x5, c5, rfl, hrow, d2⟩
  have B2 := hid (grown_on B1.out d2)
  have KM2 := hid (KM.out.below d2)
  obtain ⟨F, hF⟩ : ∃ F, (endS h qs r1 r2 r3).1 = F := ⟨_, rfl⟩
  rw [hF] at BK hrow hFl0 ⊢
  obtain ⟨xx, cc, e2, hby⟩ := rowb_bys hrow (by omega) BK.out.2.2
  simp only [Value.slice.injEq, true_and] at e2
  obtain ⟨rfl, rfl⟩ := e2
  have BYS := hid hby
  clear d2 hrow hby hF hE B1 KM m0 m1 m2 m3 m4 m5 m6 m7 m8 m9 m10 m11 m12 m13 m14
  go_wp2_with fail
  refine (mread_good F _ BYS.out rfl BK.out.1).mono ?_
  rintro e w4 ⟨vq, wq, v1, w1', v2, w2', v3, w3', rfl, t0, t1, t2, t3, d4⟩
  rw [BK.out.2.1]
  have DW : Below w4.heap.size w4 (w4.alloc (.cells #[.int .i64 h.id, .bool h.an, .int .i64 h.op, .bool h.aa, .bool h.tc, .bool h.rd, .bool h.ra, .bool h.z, .bool h.ad, .bool h.cd, .int .i64 h.code, .slice vq qs.length wq, .slice v1 r1.length w1', .slice v2 r2.length w2', .slice v3 r3.length w3'] 41)) := (Below.refl _ _).alloc (Nat.le_refl _) _
  have KW := Bl.new 41 w4 #[.int .i64 h.id, .bool h.an, .int .i64 h.op, .bool h.aa, .bool h.tc, .bool h.rd, .bool h.ra, .bool h.z, .bool h.ad, .bool h.cd, .int .i64 h.code, .slice vq qs.length wq, .slice v1 r1.length w1', .slice v2 r2.length w2', .slice v3 r3.length w3']
  have KY4 := (KM2.out.below d4).below DW
  have B4 := hid (grown_on (grown_on B2.out d4) DW)
  have A0 := hid (t0.below DW)
  have A1 := hid (t1.below DW)
  have A2 := hid (t2.below DW)
  have A3 := hid (t3.below DW)
  clear d4 t0 t1 t2 t3 KM2 B2 DW BK BYS
  go_upto_region 7 with fail
  generalize w4.alloc (.cells #[.int .i64 h.id, .bool h.an, .int .i64 h.op, .bool h.aa, .bool h.tc, .bool h.rd, .bool h.ra, .bool h.z, .bool h.ad, .bool h.cd, .int .i64 h.code, .slice vq qs.length wq, .slice v1 r1.length w1', .slice v2 r2.length w2', .slice v3 r3.length w3'] 41) = W5 at *
  have xa0 : W5.cell? ⟨w4.heap.size, 0, none⟩ = some (.int .i64 h.id) := KW.cell (i := 0) rfl
  have xa1 : W5.cell? ⟨w4.heap.size, 1, none⟩ = some (.bool h.an) := KW.cell (i := 1) rfl
  have xa2 : W5.cell? ⟨w4.heap.size, 2, none⟩ = some (.int .i64 h.op) := KW.cell (i := 2) rfl
  have xa3 : W5.cell? ⟨w4.heap.size, 3, none⟩ = some (.bool h.aa) := KW.cell (i := 3) rfl
  have xa4 : W5.cell? ⟨w4.heap.size, 4, none⟩ = some (.bool h.tc) := KW.cell (i := 4) rfl
  have xa5 : W5.cell? ⟨w4.heap.size, 5, none⟩ = some (.bool h.rd) := KW.cell (i := 5) rfl
  have xa6 : W5.cell? ⟨w4.heap.size, 6, none⟩ = some (.bool h.ra) := KW.cell (i := 6) rfl
  have xa7 : W5.cell? ⟨w4.heap.size, 7, none⟩ = some (.bool h.z) := KW.cell (i := 7) rfl
  have xa8 : W5.cell? ⟨w4.heap.size, 8, none⟩ = some (.bool h.ad) := KW.cell (i := 8) rfl
  have xa9 : W5.cell? ⟨w4.heap.size, 9, none⟩ = some (.bool h.cd) := KW.cell (i := 9) rfl
  have xa10 : W5.cell? ⟨w4.heap.size, 10, none⟩ = some (.int .i64 h.code) := KW.cell (i := 10) rfl
  have xa11 : W5.cell? ⟨w4.heap.size, 11, none⟩ = some (.slice vq qs.length wq) := KW.cell (i := 11) rfl
  have xa12 : W5.cell? ⟨w4.heap.size, 12, none⟩ = some (.slice v1 r1.length w1') := KW.cell (i := 12) rfl
  have xa13 : W5.cell? ⟨w4.heap.size, 13, none⟩ = some (.slice v2 r2.length w2') := KW.cell (i := 13) rfl
  have xa14 : W5.cell? ⟨w4.heap.size, 14, none⟩ = some (.slice v3 r3.length w3') := KW.cell (i := 14) rfl
  have xb0 : W5.cell? ⟨w.heap.size, 0, none⟩ = some (.int .i64 h.id) := KY4.cell (i := 0) rfl
  have xb1 : W5.cell? ⟨w.heap.size, 1, none⟩ = some (.bool h.an) := KY4.cell (i := 1) rfl
  have xb2 : W5.cell? ⟨w.heap.size, 2, none⟩ = some (.int .i64 h.op) := KY4.cell (i := 2) rfl
  have xb3 : W5.cell? ⟨w.heap.size, 3, none⟩ = some (.bool h.aa) := KY4.cell (i := 3) rfl
  have xb4 : W5.cell? ⟨w.heap.size, 4, none⟩ = some (.bool h.tc) := KY4.cell (i := 4) rfl
  have xb5 : W5.cell? ⟨w.heap.size, 5, none⟩ = some (.bool h.rd) := KY4.cell (i := 5) rfl
  have xb6 : W5.cell? ⟨w.heap.size, 6, none⟩ = some (.bool h.ra) := KY4.cell (i := 6) rfl
  have xb7 : W5.cell? ⟨w.heap.size, 7, none⟩ = some (.bool h.z) := KY4.cell (i := 7) rfl
  have xb8 : W5.cell? ⟨w.heap.size, 8, none⟩ = some (.bool h.ad) := KY4.cell (i := 8) rfl
  have xb9 : W5.cell? ⟨w.heap.size, 9, none⟩ = some (.bool h.cd) := KY4.cell (i := 9) rfl
  have xb10 : W5.cell? ⟨w.heap.size, 10, none⟩ = some (.int .i64 h.code) := KY4.cell (i := 10) rfl
  have xb11 : W5.cell? ⟨w.heap.size, 11, none⟩ = some (.slice xq qs.length cq) := KY4.cell (i := 11) rfl
  have xb12 : W5.cell? ⟨w.heap.size, 12, none⟩ = some (.slice x1 r1.length c1) := KY4.cell (i := 12) rfl
  have xb13 : W5.cell? ⟨w.heap.size, 13, none⟩ = some (.slice x2 r2.length c2) := KY4.cell (i := 13) rfl
  have xb14 : W5.cell? ⟨w.heap.size, 14, none⟩ = some (.slice x3 r3.length c3) := KY4.cell (i := 14) rfl
  clear KW KY4
  go_wp2_with fail
  refine (smsg_at h qs r1 r2 r3 _ A0.out A1.out A2.out A3.out (hq.below B4.out) (hr1.below B4.out) (hr2.below B4.out) (hr3.below B4.out)).mono ?_
  rintro e w6 ⟨rfl, d6⟩
  have B6 := hid (grown_on B4.out d6)
  clear d6 B4 A0 A1 A2 A3 xa0 xa1 xa2 xa3 xa4 xa5 xa6 xa7 xa8 xa9 xa10 xa11 xa12 xa13 xa14 xb0 xb1 xb2 xb3 xb4 xb5 xb6 xb7 xb8 xb9 xb10 xb11 xb12 xb13 xb14
  go_wp2_with fail
  refine (mread_good ms _ (hb.below B6.out) rfl R.out).mono ?_
  rintro e u2 ⟨zq, eq, z1, f1, z2, f2, z3, f3, rfl, gq, g1, g2, g3, d2⟩
  have D2 := grown_on B6.out d2
  rw [HHD.out]
  have KY := Bl.new 41 u2 #[.int .i64 hh.id, .bool hh.an, .int .i64 hh.op, .bool hh.aa, .bool hh.tc, .bool hh.rd, .bool hh.ra, .bool hh.z, .bool hh.ad, .bool hh.cd, .int .i64 hh.code, .slice zq ps.length eq, .slice z1 s1.length f1, .slice z2 s2.length f2, .slice z3 s3.length f3]
  have DY : Below u2.heap.size u2 (u2.alloc (.cells #[.int .i64 hh.id, .bool hh.an, .int .i64 hh.op, .bool hh.aa, .bool hh.tc, .bool hh.rd, .bool hh.ra, .bool hh.z, .bool hh.ad, .bool hh.cd, .int .i64 hh.code, .slice zq ps.length eq, .slice z1 s1.length f1, .slice z2 s2.length f2, .slice z3 s3.length f3] 41)) := (Below.refl _ _).alloc (Nat.le_refl _) _
  have BY := hid (grown_on D2 DY)
  have GQ := hid (gq.below DY)
  have G1 := hid (g1.below DY)
  have G2 := hid (g2.below DY)
  have G3 := hid (g3.below DY)
  have KYY := hid KY
  clear d2 D2 DY gq g1 g2 g3 KY
  go_wp2_with fail
  refine (mwrite_no hh ps s1 s2 s3 _ GQ.out G1.out G2.out G3.out (by rw [E2.out]; decide)).mono ?_
  rw [E2.out]
  rintro e u3 ⟨rfl, d3⟩
  have B3 := hid (grown_on BY.out d3)
  have GL := hid (hg.below B3.out)
  clear d3 GQ G1 G2 G3 KYY BY
  go_wp2_with fail
  refine (error_at 7 7 _ _ GL.out rfl rfl).mono ?_
  rintro e u4 ⟨rfl, d4⟩
  have B4 := hid (grown_on B3.out d4)
  clear d4
  go_wp2_with fail
  go_ret
  exact ⟨rfl, B4.out⟩

set_option maxHeartbeats 4000000 in
set_option maxRecDepth 100000 in
theorem mback_no_err {x xq x1 x2 x3 : Option Addr} {c l cq c1 c2 c3 bq : Nat} (ms : List Int) (h : Hd) (qs : List Qn) (r1 r2 r3 : List Rn) (w : World) (hb : Bys w x c ms) (hl : ms.length = l) (hq : Qs w bq xq cq qs) (hr1 : Rs w bq x1 c1 r1) (hr2 : Rs w bq x2 c2 r2) (hr3 : Rs w bq x3 c3 r3) (hE : ¬ msgE h qs r1 r2 r3 = 0) (k : Int) (hr : msgR ms = (k, [], [], [], [])) (k0 : ¬ k = 0) :
    Calls Tryd.prog 5 #[.slice x l c, .agg #[.int .i64 h.id, .bool h.an, .int .i64 h.op, .bool h.aa, .bool h.tc, .bool h.rd, .bool h.ra, .bool h.z, .bool h.ad, .bool h.cd, .int .i64 h.code, .slice xq qs.length cq, .slice x1 r1.length c1, .slice x2 r2.length c2, .slice x3 r3.length c3]] w fun e w' => e = .returned (.bool true) ∧ Below w.heap.size w w' := by
  subst hl
  have E := hid hr
  have K := hid k0
  clear hr k0
  go_enter Tryd.func5, Tryd.ntmps5
  go_wp2_with fail
  have B0 : Below w.heap.size w (w.alloc (.cells #[.int .i64 h.id, .bool h.an, .int .i64 h.op, .bool h.aa, .bool h.tc, .bool h.rd, .bool h.ra, .bool h.z, .bool h.ad, .bool h.cd, .int .i64 h.code, .slice xq qs.length cq, .slice x1 r1.length c1, .slice x2 r2.length c2, .slice x3 r3.length c3] 41)) := (Below.refl _ w).alloc (Nat.le_refl _) _
  have K0 := Bl.new 41 w #[.int .i64 h.id, .bool h.an, .int .i64 h.op, .bool h.aa, .bool h.tc, .bool h.rd, .bool h.ra, .bool h.z, .bool h.ad, .bool h.cd, .int .i64 h.code, .slice xq qs.length cq, .slice x1 r1.length c1, .slice x2 r2.length c2, .slice x3 r3.length c3]
  refine (mwrite_empty _).mono ?_
  rintro e w1 ⟨y1, e1, rfl, b1⟩
  have B1 := hid (grown_on B0 b1)
  have K1 := K0.below b1
  have m0 : w1.cell? ⟨w.heap.size, 0, none⟩ = some (.int .i64 h.id) := K1.cell (i := 0) rfl
  have m1 : w1.cell? ⟨w.heap.size, 1, none⟩ = some (.bool h.an) := K1.cell (i := 1) rfl
  have m2 : w1.cell? ⟨w.heap.size, 2, none⟩ = some (.int .i64 h.op) := K1.cell (i := 2) rfl
  have m3 : w1.cell? ⟨w.heap.size, 3, none⟩ = some (.bool h.aa) := K1.cell (i := 3) rfl
  have m4 : w1.cell? ⟨w.heap.size, 4, none⟩ = some (.bool h.tc) := K1.cell (i := 4) rfl
  have m5 : w1.cell? ⟨w.heap.size, 5, none⟩ = some (.bool h.rd) := K1.cell (i := 5) rfl
  have m6 : w1.cell? ⟨w.heap.size, 6, none⟩ = some (.bool h.ra) := K1.cell (i := 6) rfl
  have m7 : w1.cell? ⟨w.heap.size, 7, none⟩ = some (.bool h.z) := K1.cell (i := 7) rfl
  have m8 : w1.cell? ⟨w.heap.size, 8, none⟩ = some (.bool h.ad) := K1.cell (i := 8) rfl
  have m9 : w1.cell? ⟨w.heap.size, 9, none⟩ = some (.bool h.cd) := K1.cell (i := 9) rfl
  have m10 : w1.cell? ⟨w.heap.size, 10, none⟩ = some (.int .i64 h.code) := K1.cell (i := 10) rfl
  have m11 : w1.cell? ⟨w.heap.size, 11, none⟩ = some (.slice xq qs.length cq) := K1.cell (i := 11) rfl
  have m12 : w1.cell? ⟨w.heap.size, 12, none⟩ = some (.slice x1 r1.length c1) := K1.cell (i := 12) rfl
  have m13 : w1.cell? ⟨w.heap.size, 13, none⟩ = some (.slice x2 r2.length c2) := K1.cell (i := 13) rfl
  have m14 : w1.cell? ⟨w.heap.size, 14, none⟩ = some (.slice x3 r3.length c3) := K1.cell (i := 14) rfl
  have KM := hid K1
  clear B0 K0 b1 K1
  go_wp2_with fail
  refine (mwrite_no h qs r1 r2 r3 _ (hq.below B1.out) (hr1.below B1.out) (hr2.below B1.out) (hr3.below B1.out) hE).mono ?_
  rintro e w2 ⟨rfl, d2⟩
  have B6 := hid (grown_on B1.out d2)
  clear d2 B1 KM m0 m1 m2 m3 m4 m5 m6 m7 m8 m9 m10 m11 m12 m13 m14
  generalize msgE h qs r1 r2 r3 = ke at *
  go_wp2_with fail
  refine (mread_err k ms _ (hb.below B6.out) rfl E.out K.out).mono ?_
  rintro e u2 ⟨rfl, d2⟩
  have D2 := hid (grown_on B6.out d2)
  clear d2
  go_wp2_with fail
  go_ret
  exact ⟨rfl, D2.out.alloc D2.out.size _⟩

set_option maxHeartbeats 4000000 in
set_option maxRecDepth 100000 in
theorem mback_no_good {x xq x1 x2 x3 : Option Addr} {c l cq c1 c2 c3 bq : Nat} (ms : List Int) (h : Hd) (qs : List Qn) (r1 r2 r3 : List Rn) (w : World) (hb : Bys w x c ms) (hl : ms.length = l) (hq : Qs w bq xq cq qs) (hr1 : Rs w bq x1 c1 r1) (hr2 : Rs w bq x2 c2 r2) (hr3 : Rs w bq x3 c3 r3) (hE : ¬ msgE h qs r1 r2 r3 = 0) (hh : Hd) (ps : List Qn) (s1 s2 s3 : List Rn) (hr : msgR ms = (0, ps, s1, s2, s3)) (hhd : hdR ms = hh) (hrd : ∀ r ∈ s1 ++ s2 ++ s3, ∀ b ∈ r.D, 0 ≤ b ∧ b ≤ 255) (hE2 : msgE hh ps s1 s2 s3 = 0) :
    Calls Tryd.prog 5 #[.slice x l c, .agg #[.int .i64 h.id, .bool h.an, .int .i64 h.op, .bool h.aa, .bool h.tc, .bool h.rd, .bool h.ra, .bool h.z, .bool h.ad, .bool h.cd, .int .i64 h.code, .slice xq qs.length cq, .slice x1 r1.length c1, .slice x2 r2.length c2, .slice x3 r3.length c3]] w fun e w' => e = .returned (.bool true) ∧ Below w.heap.size w w' := by
  subst hl
  have R := hid hr
  have HHD := hid hhd
  have RD := hid hrd
  have E2 := hid hE2
  clear hr hhd hrd hE2
  go_enter Tryd.func5, Tryd.ntmps5
  go_wp2_with fail
  have B0 : Below w.heap.size w (w.alloc (.cells #[.int .i64 h.id, .bool h.an, .int .i64 h.op, .bool h.aa, .bool h.tc, .bool h.rd, .bool h.ra, .bool h.z, .bool h.ad, .bool h.cd, .int .i64 h.code, .slice xq qs.length cq, .slice x1 r1.length c1, .slice x2 r2.length c2, .slice x3 r3.length c3] 41)) := (Below.refl _ w).alloc (Nat.le_refl _) _
  have K0 := Bl.new 41 w #[.int .i64 h.id, .bool h.an, .int .i64 h.op, .bool h.aa, .bool h.tc, .bool h.rd, .bool h.ra, .bool h.z, .bool h.ad, .bool h.cd, .int .i64 h.code, .slice xq qs.length cq, .slice x1 r1.length c1, .slice x2 r2.length c2, .slice x3 r3.length c3]
  refine (mwrite_empty _).mono ?_
  rintro e w1 ⟨y1, e1, rfl, b1⟩
  have B1 := hid (grown_on B0 b1)
  have K1 := K0.below b1
  have m0 : w1.cell? ⟨w.heap.size, 0, none⟩ = some (.int .i64 h.id) := K1.cell (i := 0) rfl
  have m1 : w1.cell? ⟨w.heap.size, 1, none⟩ = some (.bool h.an) := K1.cell (i := 1) rfl
  have m2 : w1.cell? ⟨w.heap.size, 2, none⟩ = some (.int .i64 h.op) := K1.cell (i := 2) rfl
  have m3 : w1.cell? ⟨w.heap.size, 3, none⟩ = some (.bool h.aa) := K1.cell (i := 3) rfl
  have m4 : w1.cell? ⟨w.heap.size, 4, none⟩ = some (.bool h.tc) := K1.cell (i := 4) rfl
  have m5 : w1.cell? ⟨w.heap.size, 5, none⟩ = some (.bool h.rd) := K1.cell (i := 5) rfl
  have m6 : w1.cell? ⟨w.heap.size, 6, none⟩ = some (.bool h.ra) := K1.cell (i := 6) rfl
  have m7 : w1.cell? ⟨w.heap.size, 7, none⟩ = some (.bool h.z) := K1.cell (i := 7) rfl
  have m8 : w1.cell? ⟨w.heap.size, 8, none⟩ = some (.bool h.ad) := K1.cell (i := 8) rfl
  have m9 : w1.cell? ⟨w.heap.size, 9, none⟩ = some (.bool h.cd) := K1.cell (i := 9) rfl
  have m10 : w1.cell? ⟨w.heap.size, 10, none⟩ = some (.int .i64 h.code) := K1.cell (i := 10) rfl
  have m11 : w1.cell? ⟨w.heap.size, 11, none⟩ = some (.slice xq qs.length cq) := K1.cell (i := 11) rfl
  have m12 : w1.cell? ⟨w.heap.size, 12, none⟩ = some (.slice x1 r1.length c1) := K1.cell (i := 12) rfl
  have m13 : w1.cell? ⟨w.heap.size, 13, none⟩ = some (.slice x2 r2.length c2) := K1.cell (i := 13) rfl
  have m14 : w1.cell? ⟨w.heap.size, 14, none⟩ = some (.slice x3 r3.length c3) := K1.cell (i := 14) rfl
  have KM := hid K1
  clear B0 K0 b1 K1
  go_wp2_with fail
  refine (mwrite_no h qs r1 r2 r3 _ (hq.below B1.out) (hr1.below B1.out) (hr2.below B1.out) (hr3.below B1.out) hE).mono ?_
  rintro e w2 ⟨rfl, d2⟩
  have B6 := hid (grown_on B1.out d2)
  clear d2 B1 KM m0 m1 m2 m3 m4 m5 m6 m7 m8 m9 m10 m11 m12 m13 m14
  generalize msgE h qs r1 r2 r3 = ke at *
  go_wp2_with fail
  refine (mread_good ms _ (hb.below B6.out) rfl R.out).mono ?_
  rintro e u2 ⟨zq, eq, z1, f1, z2, f2, z3, f3, rfl, gq, g1, g2, g3, d2⟩
  have D2 := grown_on B6.out d2
  rw [HHD.out]
  have KY := Bl.new 41 u2 #[.int .i64 hh.id, .bool hh.an, .int .i64 hh.op, .bool hh.aa, .bool hh.tc, .bool hh.rd, .bool hh.ra, .bool hh.z, .bool hh.ad, .bool hh.cd, .int .i64 hh.code, .slice zq ps.length eq, .slice z1 s1.length f1, .slice z2 s2.length f2, .slice z3 s3.length f3]
  have DY : Below u2.heap.size u2 (u2.alloc (.cells #[.int .i64 hh.id, .bool hh.an, .int .i64 hh.op, .bool hh.aa, .bool hh.tc, .bool hh.rd, .bool hh.ra, .bool hh.z, .bool hh.ad, .bool hh.cd, .int .i64 hh.code, .slice zq ps.length eq, .slice z1 s1.length f1, .slice z2 s2.length f2, .slice z3 s3.length f3] 41)) := (Below.refl _ _).alloc (Nat.le_refl _) _
  have BY := hid (grown_on D2 DY)
  have GQ := hid (gq.below DY)
  have G1 := hid (g1.below DY)
  have G2 := hid (g2.below DY)
  have G3 := hid (g3.below DY)
  have KYY := hid KY
  clear d2 D2 DY gq g1 g2 g3 KY
  go_wp2_with fail
  refine (mwrite_ok hh ps s1 s2 s3 _ GQ.out G1.out G2.out G3.out E2.out).mono ?_
  rintro e u3 ⟨x5, c5, rfl, hrow, d3⟩
  have B3 := hid (grown_on BY.out d3)
  have GQ3 := hid (GQ.out.below d3)
  have G13 := hid (G1.out.below d3)
  have G23 := hid (G2.out.below d3)
  have G33 := hid (G3.out.below d3)
  have KY3 := hid (KYY.out.below d3)
  have hFl : (endS hh ps s1 s2 s3).1.length ≤ 65535 := (msgE_zero E2.out).2.2.2.2
  have BK2 := hid (msg_back E2.out RD.out)
  obtain ⟨F2, hF⟩ : ∃ F, (endS hh ps s1 s2 s3).1 = F := ⟨_, rfl⟩
  rw [hF] at BK2 hrow hFl ⊢
  obtain ⟨xx, cc, e2, hby⟩ := rowb_bys hrow (by omega) BK2.out.2.2
  simp only [Value.slice.injEq, true_and] at e2
  obtain ⟨rfl, rfl⟩ := e2
  have BYS2 := hid hby
  clear d3 GQ G1 G2 G3 KYY BY hrow hby hF
  go_wp2_with fail
  refine (mread_good F2 _ BYS2.out rfl BK2.out.1).mono ?_
  rintro e u4 ⟨vq, wq, v1, w1', v2, w2', v3, w3', rfl, t0, t1, t2, t3, d4⟩
  rw [BK2.out.2.1]
  have DW : Below u4.heap.size u4 (u4.alloc (.cells #[.int .i64 hh.id, .bool hh.an, .int .i64 hh.op, .bool hh.aa, .bool hh.tc, .bool hh.rd, .bool hh.ra, .bool hh.z, .bool hh.ad, .bool hh.cd, .int .i64 hh.code, .slice vq ps.length wq, .slice v1 s1.length w1', .slice v2 s2.length w2', .slice v3 s3.length w3'] 41)) := (Below.refl _ _).alloc (Nat.le_refl _) _
  have KW := Bl.new 41 u4 #[.int .i64 hh.id, .bool hh.an, .int .i64 hh.op, .bool hh.aa, .bool hh.tc, .bool hh.rd, .bool hh.ra, .bool hh.z, .bool hh.ad, .bool hh.cd, .int .i64 hh.code, .slice vq ps.length wq, .slice v1 s1.length w1', .slice v2 s2.length w2', .slice v3 s3.length w3']
  have KY4 := (KY3.out.below d4).below DW
  have B4 := hid (grown_on (grown_on B3.out d4) DW)
  have A0 := hid (t0.below DW)
  have A1 := hid (t1.below DW)
  have A2 := hid (t2.below DW)
  have A3 := hid (t3.below DW)
  have C0 := hid ((GQ3.out.below d4).below DW)
  have C1 := hid ((G13.out.below d4).below DW)
  have C2 := hid ((G23.out.below d4).below DW)
  have C3 := hid ((G33.out.below d4).below DW)
  clear d4 t0 t1 t2 t3 GQ3 G13 G23 G33 KY3 B3 DW BK2 BYS2
  go_upto_region 18 with fail
  generalize u4.alloc (.cells #[.int .i64 hh.id, .bool hh.an, .int .i64 hh.op, .bool hh.aa, .bool hh.tc, .bool hh.rd, .bool hh.ra, .bool hh.z, .bool hh.ad, .bool hh.cd, .int .i64 hh.code, .slice vq ps.length wq, .slice v1 s1.length w1', .slice v2 s2.length w2', .slice v3 s3.length w3'] 41) = U5 at *
  have xa0 : U5.cell? ⟨u4.heap.size, 0, none⟩ = some (.int .i64 hh.id) := KW.cell (i := 0) rfl
  have xa1 : U5.cell? ⟨u4.heap.size, 1, none⟩ = some (.bool hh.an) := KW.cell (i := 1) rfl
  have xa2 : U5.cell? ⟨u4.heap.size, 2, none⟩ = some (.int .i64 hh.op) := KW.cell (i := 2) rfl
  have xa3 : U5.cell? ⟨u4.heap.size, 3, none⟩ = some (.bool hh.aa) := KW.cell (i := 3) rfl
  have xa4 : U5.cell? ⟨u4.heap.size, 4, none⟩ = some (.bool hh.tc) := KW.cell (i := 4) rfl
  have xa5 : U5.cell? ⟨u4.heap.size, 5, none⟩ = some (.bool hh.rd) := KW.cell (i := 5) rfl
  have xa6 : U5.cell? ⟨u4.heap.size, 6, none⟩ = some (.bool hh.ra) := KW.cell (i := 6) rfl
  have xa7 : U5.cell? ⟨u4.heap.size, 7, none⟩ = some (.bool hh.z) := KW.cell (i := 7) rfl
  have xa8 : U5.cell? ⟨u4.heap.size, 8, none⟩ = some (.bool hh.ad) := KW.cell (i := 8) rfl
  have xa9 : U5.cell? ⟨u4.heap.size, 9, none⟩ = some (.bool hh.cd) := KW.cell (i := 9) rfl
  have xa10 : U5.cell? ⟨u4.heap.size, 10, none⟩ = some (.int .i64 hh.code) := KW.cell (i := 10) rfl
  have xa11 : U5.cell? ⟨u4.heap.size, 11, none⟩ = some (.slice vq ps.length wq) := KW.cell (i := 11) rfl
  have xa12 : U5.cell? ⟨u4.heap.size, 12, none⟩ = some (.slice v1 s1.length w1') := KW.cell (i := 12) rfl
  have xa13 : U5.cell? ⟨u4.heap.size, 13, none⟩ = some (.slice v2 s2.length w2') := KW.cell (i := 13) rfl
  have xa14 : U5.cell? ⟨u4.heap.size, 14, none⟩ = some (.slice v3 s3.length w3') := KW.cell (i := 14) rfl
  have xb0 : U5.cell? ⟨u2.heap.size, 0, none⟩ = some (.int .i64 hh.id) := KY4.cell (i := 0) rfl
  have xb1 : U5.cell? ⟨u2.heap.size, 1, none⟩ = some (.bool hh.an) := KY4.cell (i := 1) rfl
  have xb2 : U5.cell? ⟨u2.heap.size, 2, none⟩ = some (.int .i64 hh.op) := KY4.cell (i := 2) rfl
  have xb3 : U5.cell? ⟨u2.heap.size, 3, none⟩ = some (.bool hh.aa) := KY4.cell (i := 3) rfl
  have xb4 : U5.cell? ⟨u2.heap.size, 4, none⟩ = some (.bool hh.tc) := KY4.cell (i := 4) rfl
  have xb5 : U5.cell? ⟨u2.heap.size, 5, none⟩ = some (.bool hh.rd) := KY4.cell (i := 5) rfl
  have xb6 : U5.cell? ⟨u2.heap.size, 6, none⟩ = some (.bool hh.ra) := KY4.cell (i := 6) rfl
  have xb7 : U5.cell? ⟨u2.heap.size, 7, none⟩ = some (.bool hh.z) := KY4.cell (i := 7) rfl
  have xb8 : U5.cell? ⟨u2.heap.size, 8, none⟩ = some (.bool hh.ad) := KY4.cell (i := 8) rfl
  have xb9 : U5.cell? ⟨u2.heap.size, 9, none⟩ = some (.bool hh.cd) := KY4.cell (i := 9) rfl
  have xb10 : U5.cell? ⟨u2.heap.size, 10, none⟩ = some (.int .i64 hh.code) := KY4.cell (i := 10) rfl
  have xb11 : U5.cell? ⟨u2.heap.size, 11, none⟩ = some (.slice zq ps.length eq) := KY4.cell (i := 11) rfl
  have xb12 : U5.cell? ⟨u2.heap.size, 12, none⟩ = some (.slice z1 s1.length f1) := KY4.cell (i := 12) rfl
  have xb13 : U5.cell? ⟨u2.heap.size, 13, none⟩ = some (.slice z2 s2.length f2) := KY4.cell (i := 13) rfl
  have xb14 : U5.cell? ⟨u2.heap.size, 14, none⟩ = some (.slice z3 s3.length f3) := KY4.cell (i := 14) rfl
  clear KW KY4
  go_wp2_with fail
  refine (smsg_at hh ps s1 s2 s3 _ A0.out A1.out A2.out A3.out C0.out C1.out C2.out C3.out).mono ?_
  rintro e u6 ⟨rfl, d6⟩
  have B7 := hid (grown_on B4.out d6)
  clear d6 xa0 xa1 xa2 xa3 xa4 xa5 xa6 xa7 xa8 xa9 xa10 xa11 xa12 xa13 xa14 xb0 xb1 xb2 xb3 xb4 xb5 xb6 xb7 xb8 xb9 xb10 xb11 xb12 xb13 xb14
  go_wp2_with fail
  go_ret
  exact ⟨rfl, B7.out⟩

set_option maxHeartbeats 4000000 in
set_option maxRecDepth 100000 in
theorem mback_no_full {x xq x1 x2 x3 : Option Addr} {c l cq c1 c2 c3 bq : Nat} (ms : List Int) (h : Hd) (qs : List Qn) (r1 r2 r3 : List Rn) (w : World) (hb : Bys w x c ms) (hl : ms.length = l) (hq : Qs w bq xq cq qs) (hr1 : Rs w bq x1 c1 r1) (hr2 : Rs w bq x2 c2 r2) (hr3 : Rs w bq x3 c3 r3) (hE : ¬ msgE h qs r1 r2 r3 = 0) (hh : Hd) (ps : List Qn) (s1 s2 s3 : List Rn) (hr : msgR ms = (0, ps, s1, s2, s3)) (hhd : hdR ms = hh) (hE2 : msgE hh ps s1 s2 s3 = 7) (hg : Glob w) :
    Calls Tryd.prog 5 #[.slice x l c, .agg #[.int .i64 h.id, .bool h.an, .int .i64 h.op, .bool h.aa, .bool h.tc, .bool h.rd, .bool h.ra, .bool h.z, .bool h.ad, .bool h.cd, .int .i64 h.code, .slice xq qs.length cq, .slice x1 r1.length c1, .slice x2 r2.length c2, .slice x3 r3.length c3]] w fun e w' => e = .returned (.bool true) ∧ Below w.heap.size w w' := by
  subst hl
  have R := hid hr
  have HHD := hid hhd
  have E2 := hid hE2
  clear hr hhd hE2
  go_enter Tryd.func5, Tryd.ntmps5
  go_wp2_with fail
  have B0 : Below w.heap.size w (w.alloc (.cells #[.int .i64 h.id, .bool h.an, .int .i64 h.op, .bool h.aa, .bool h.tc, .bool h.rd, .bool h.ra, .bool h.z, .bool h.ad, .bool h.cd, .int .i64 h.code, .slice xq qs.length cq, .slice x1 r1.length c1, .slice x2 r2.length c2, .slice x3 r3.length c3] 41)) := (Below.refl _ w).alloc (Nat.le_refl _) _
  have K0 := Bl.new 41 w #[.int .i64 h.id, .bool h.an, .int .i64 h.op, .bool h.aa, .bool h.tc, .bool h.rd, .bool h.ra, .bool h.z, .bool h.ad, .bool h.cd, .int .i64 h.code, .slice xq qs.length cq, .slice x1 r1.length c1, .slice x2 r2.length c2, .slice x3 r3.length c3]
  refine (mwrite_empty _).mono ?_
  rintro e w1 ⟨y1, e1, rfl, b1⟩
  have B1 := hid (grown_on B0 b1)
  have K1 := K0.below b1
  have m0 : w1.cell? ⟨w.heap.size, 0, none⟩ = some (.int .i64 h.id) := K1.cell (i := 0) rfl
  have m1 : w1.cell? ⟨w.heap.size, 1, none⟩ = some (.bool h.an) := K1.cell (i := 1) rfl
  have m2 : w1.cell? ⟨w.heap.size, 2, none⟩ = some (.int .i64 h.op) := K1.cell (i := 2) rfl
  have m3 : w1.cell? ⟨w.heap.size, 3, none⟩ = some (.bool h.aa) := K1.cell (i := 3) rfl
  have m4 : w1.cell? ⟨w.heap.size, 4, none⟩ = some (.bool h.tc) := K1.cell (i := 4) rfl
  have m5 : w1.cell? ⟨w.heap.size, 5, none⟩ = some (.bool h.rd) := K1.cell (i := 5) rfl
  have m6 : w1.cell? ⟨w.heap.size, 6, none⟩ = some (.bool h.ra) := K1.cell (i := 6) rfl
  have m7 : w1.cell? ⟨w.heap.size, 7, none⟩ = some (.bool h.z) := K1.cell (i := 7) rfl
  have m8 : w1.cell? ⟨w.heap.size, 8, none⟩ = some (.bool h.ad) := K1.cell (i := 8) rfl
  have m9 : w1.cell? ⟨w.heap.size, 9, none⟩ = some (.bool h.cd) := K1.cell (i := 9) rfl
  have m10 : w1.cell? ⟨w.heap.size, 10, none⟩ = some (.int .i64 h.code) := K1.cell (i := 10) rfl
  have m11 : w1.cell? ⟨w.heap.size, 11, none⟩ = some (.slice xq qs.length cq) := K1.cell (i := 11) rfl
  have m12 : w1.cell? ⟨w.heap.size, 12, none⟩ = some (.slice x1 r1.length c1) := K1.cell (i := 12) rfl
  have m13 : w1.cell? ⟨w.heap.size, 13, none⟩ = some (.slice x2 r2.length c2) := K1.cell (i := 13) rfl
  have m14 : w1.cell? ⟨w.heap.size, 14, none⟩ = some (.slice x3 r3.length c3) := K1.cell (i := 14) rfl
  have KM := hid K1
  clear B0 K0 b1 K1
  go_wp2_with fail
  refine (mwrite_no h qs r1 r2 r3 _ (hq.below B1.out) (hr1.below B1.out) (hr2.below B1.out) (hr3.below B1.out) hE).mono ?_
  rintro e w2 ⟨rfl, d2⟩
  have B6 := hid (grown_on B1.out d2)
  clear d2 B1 KM m0 m1 m2 m3 m4 m5 m6 m7 m8 m9 m10 m11 m12 m13 m14
  generalize msgE h qs r1 r2 r3 = ke at *
  go_wp2_with fail
  refine (mread_good ms _ (hb.below B6.out) rfl R.out).mono ?_
  rintro e u2 ⟨zq, eq, z1, f1, z2, f2, z3, f3, rfl, gq, g1, g2, g3, d2⟩
  have D2 := grown_on B6.out d2
  rw [HHD.out]
  have KY := Bl.new 41 u2 #[.int .i64 hh.id, .bool hh.an, .int .i64 hh.op, .bool hh.aa, .bool hh.tc, .bool hh.rd, .bool hh.ra, .bool hh.z, .bool hh.ad, .bool hh.cd, .int .i64 hh.code, .slice zq ps.length eq, .slice z1 s1.length f1, .slice z2 s2.length f2, .slice z3 s3.length f3]
  have DY : Below u2.heap.size u2 (u2.alloc (.cells #[.int .i64 hh.id, .bool hh.an, .int .i64 hh.op, .bool hh.aa, .bool hh.tc, .bool hh.rd, .bool hh.ra, .bool hh.z, .bool hh.ad, .bool hh.cd, .int .i64 hh.code, .slice zq ps.length eq, .slice z1 s1.length f1, .slice z2 s2.length f2, .slice z3 s3.length f3] 41)) := (Below.refl _ _).alloc (Nat.le_refl _) _
  have BY := hid (grown_on D2 DY)
  have GQ := hid (gq.below DY)
  have G1 := hid (g1.below DY)
  have G2 := hid (g2.below DY)
  have G3 := hid (g3.below DY)
  have KYY := hid KY
  clear d2 D2 DY gq g1 g2 g3 KY
  go_wp2_with fail
  refine (mwrite_no hh ps s1 s2 s3 _ GQ.out G1.out G2.out G3.out (by rw [E2.out]; decide)).mono ?_
  rw [E2.out]
  rintro e u3 ⟨rfl, d3⟩
  have B3 := hid (grown_on BY.out d3)
  have GL := hid (hg.below B3.out)
  clear d3 GQ G1 G2 G3 KYY BY
  go_wp2_with fail
  refine (error_at 7 7 _ _ GL.out rfl rfl).mono ?_
  rintro e u4 ⟨rfl, d4⟩
  have B4 := hid (grown_on B3.out d4)
  clear d4
  go_wp2_with fail
  go_ret
  exact ⟨rfl, B4.out⟩

theorem mback_walk {x xq x1 x2 x3 : Option Addr} {c l cq c1 c2 c3 bq : Nat} (ms : List Int) (h : Hd) (qs : List Qn) (r1 r2 r3 : List Rn) (w : World) (hb : Bys w x c ms) (hl : ms.length = l) (hq : Qs w bq xq cq qs) (hr1 : Rs w bq x1 c1 r1) (hr2 : Rs w bq x2 c2 r2) (hr3 : Rs w bq x3 c3 r3) (hg : Glob w) :
    Calls Tryd.prog 5 #[.slice x l c, .agg #[.int .i64 h.id, .bool h.an, .int .i64 h.op, .bool h.aa, .bool h.tc, .bool h.rd, .bool h.ra, .bool h.z, .bool h.ad, .bool h.cd, .int .i64 h.code, .slice xq qs.length cq, .slice x1 r1.length c1, .slice x2 r2.length c2, .slice x3 r3.length c3]] w fun e w' => e = .returned (.bool true) ∧ Below w.heap.size w w' := by
  obtain ⟨⟨k, ps, s1, s2, s3⟩, hr⟩ : ∃ s, msgR ms = s := ⟨_, rfl⟩
  by_cases k0 : k = 0
  case neg =>
    have E : msgR ms = (k, [], [], [], []) := by
      rcases mread_norm ms with q | q
      · rw [hr] at q; exact absurd q k0
      · rw [hr] at q ⊢; exact q
    by_cases hE : msgE h qs r1 r2 r3 = 0
    · exact mback_ok_err ms h qs r1 r2 r3 w hb hl hq hr1 hr2 hr3 hE k E k0
    · exact mback_no_err ms h qs r1 r2 r3 w hb hl hq hr1 hr2 hr3 hE k E k0
  subst k0
  obtain ⟨hs, hd⟩ := read_sent hb.2.2.1 hr
  by_cases hE : msgE h qs r1 r2 r3 = 0
  · rcases hs with hs | hs
    · exact mback_ok_good ms h qs r1 r2 r3 w hb hl hq hr1 hr2 hr3 hE _ ps s1 s2 s3 hr rfl hd hs
    · exact mback_ok_full ms h qs r1 r2 r3 w hb hl hq hr1 hr2 hr3 hE _ ps s1 s2 s3 hr rfl hs hg
  · rcases hs with hs | hs
    · exact mback_no_good ms h qs r1 r2 r3 w hb hl hq hr1 hr2 hr3 hE _ ps s1 s2 s3 hr rfl hd hs
    · exact mback_no_full ms h qs r1 r2 r3 w hb hl hq hr1 hr2 hr3 hE _ ps s1 s2 s3 hr rfl hs hg

end Go.Proofs.YtjpahieeaojieaaDoor
