/-
  The walk of EdnsSent. Written by gensent.py.
-/
import Derived.Test.YtpmbbaacpnooeaaJA
namespace Go.Proofs.Ytpmbbaacpnooeaa
open Go.RowKit Go.Deep

def DropTo (h : Hd) (qs : List Qn) (r1 r2 rs : List Rn) (w : World) (e : Ending) (w' : World) : Prop := ∃ yq dq y1 d1 y2 d2 y3 d3, e = .returned (.agg #[.int .i64 h.id, .bool h.an, .int .i64 h.op, .bool h.aa, .bool h.tc, .bool h.rd, .bool h.ra, .bool h.z, .bool h.ad, .bool h.cd, .int .i64 h.code, .slice yq qs.length dq, .slice y1 r1.length d1, .slice y2 r2.length d2, .slice y3 rs.length d3]) ∧ Qs w' 0 yq dq qs ∧ Rs w' 0 y1 d1 r1 ∧ Rs w' 0 y2 d2 r2 ∧ Rs w' 0 y3 d3 rs ∧ Below w.heap.size w w'

set_option maxHeartbeats 4000000 in
set_option maxRecDepth 100000 in
theorem sent_bad {xq x1 x2 x3 xo : Option Addr} {xcq xc1 xc2 xc3 xoc : Nat} (h : Hd) (qs : List Qn) (r1 r2 r3 : List Rn) (o : Ot) (w : World) (hq : Qs w 0 xq xcq qs) (hr1 : Rs w 0 x1 xc1 r1) (hr2 : Rs w 0 x2 xc2 r2) (hr3 : Rs w 0 x3 xc3 r3) (_l1 : r1.length * 72 ≤ 140737488355328) (_l2 : r2.length * 72 ≤ 140737488355328) (_l3 : (r3.length + 2) * 72 ≤ 140737488355328) (hso : Ops w 0 xo xoc o.os) (k : Int) (hk : otE o = k) (h0 : ¬ k = 0) :
    Calls Try.prog 3 #[.agg #[.int .i64 h.id, .bool h.an, .int .i64 h.op, .bool h.aa, .bool h.tc, .bool h.rd, .bool h.ra, .bool h.z, .bool h.ad, .bool h.cd, .int .i64 h.code, .slice xq qs.length xcq, .slice x1 r1.length xc1, .slice x2 r2.length xc2, .slice x3 r3.length xc3], .agg #[.int .i64 o.size, .int .i64 o.code, .int .i64 o.ver, .bool o.dO, .int .i64 o.z, .slice xo o.os.length xoc]] w fun e w' => e = .returned (.bool true) ∧ Below w.heap.size w w' := by
  have HK := hid hk
  have H0 := hid h0
  clear hk h0
  have HSZ := hid (Nat.le_refl w.heap.size)
  obtain ⟨k1, k2, k4⟩ := Bl.two 27 30 w #[.int .i64 h.id, .bool h.an, .int .i64 h.op, .bool h.aa, .bool h.tc, .bool h.rd, .bool h.ra, .bool h.z, .bool h.ad, .bool h.cd, .int .i64 h.code, .slice xq qs.length xcq, .slice x1 r1.length xc1, .slice x2 r2.length xc2, .slice x3 r3.length xc3] #[.int .i64 o.size, .int .i64 o.code, .int .i64 o.ver, .bool o.dO, .int .i64 o.z, .slice xo o.os.length xoc]
  have MM : Hid (MsgB _ w.heap.size h qs r1 r2 r3) := hid ⟨xq, xcq, x1, xc1, x2, xc2, x3, xc3, k1, hq.below k4, hr1.below k4, hr2.below k4, hr3.below k4⟩
  have OO : Hid (OptB _ (w.heap.size + 1) o) := hid ⟨xo, xoc, k2, hso.below k4⟩
  have WW : Hid (Below w.heap.size w _) := hid k4
  clear k1 k2 k4 hq hr1 hr2 hr3 hso
  go_enter Try.func3, Try.ntmps3
  go_upto_region 1 with fail
  generalize (w.alloc (.cells #[.int .i64 h.id, .bool h.an, .int .i64 h.op, .bool h.aa, .bool h.tc, .bool h.rd, .bool h.ra, .bool h.z, .bool h.ad, .bool h.cd, .int .i64 h.code, .slice xq qs.length xcq, .slice x1 r1.length xc1, .slice x2 r2.length xc2, .slice x3 r3.length xc3] 27)).alloc (.cells #[.int .i64 o.size, .int .i64 o.code, .int .i64 o.ver, .bool o.dO, .int .i64 o.z, .slice xo o.os.length xoc] 30) = w0 at *
  go_wp2_with fail
  refine (known_any w0).mono ?_
  rintro e w1 ⟨rfl, b1⟩
  replace MM := hid ((MM.out).below b1)
  replace OO := hid ((OO.out).below b1)
  replace WW := hid (grown_on WW.out b1)
  clear b1
  obtain ⟨yq, ycq, y1, yc1, y2, yc2, y3, yc3, ykb, yh0, yh1, yh2, yh3⟩ := MM.out
  obtain ⟨uo, uoc, uokb, uoho⟩ := OO.out
  have RM := hid (Bl.range [.int .i64 h.id, .bool h.an, .int .i64 h.op, .bool h.aa, .bool h.tc, .bool h.rd, .bool h.ra, .bool h.z, .bool h.ad, .bool h.cd, .int .i64 h.code, .slice yq qs.length ycq, .slice y1 r1.length yc1, .slice y2 r2.length yc2, .slice y3 r3.length yc3] ykb)
  have RO := hid (Bl.range [.int .i64 o.size, .int .i64 o.code, .int .i64 o.ver, .bool o.dO, .int .i64 o.z, .slice uo o.os.length uoc] uokb)
  clear ykb uokb
  go_upto_region 4 with fail
  go_wp2_with (first
    | (refine wpList_load_mid rfl 27 _ rfl w.heap.size 0 rfl [.int .i64 h.id, .bool h.an, .int .i64 h.op, .bool h.aa, .bool h.tc, .bool h.rd, .bool h.ra, .bool h.z, .bool h.ad, .bool h.cd, .int .i64 h.code, .slice yq qs.length ycq, .slice y1 r1.length yc1, .slice y2 r2.length yc2, .slice y3 r3.length yc3] _ RM.out Try.underlying27 rfl size_message ?_)
    | (refine wpList_load_mid rfl 30 _ rfl (w.heap.size + 1) 0 rfl [.int .i64 o.size, .int .i64 o.code, .int .i64 o.ver, .bool o.dO, .int .i64 o.z, .slice uo o.os.length uoc] _ RO.out Try.underlying30 rfl size_opt ?_)
    | fail)

  refine (set_bad k h o w1 uoho HK.out H0.out).mono ?_
  rintro e w2 ⟨rfl, b2⟩
  replace WW := hid (grown_on WW.out b2)
  clear b2 RM RO
  go_wp2_with fail
  go_ret
  exact ⟨rfl, (WW.out.alloc WW.out.size _)⟩

/-- What must be known of the rows. -/
def SentF (r3 r4 rs : List Rn) (o : Ot) : Prop := silR r3 = r4 ∧ silR rs = r4 ∧ telR rs = [otR o] ∧ silR r3 ++ [otR o] = rs ∧ r4.length ≤ r3.length ∧ rs.length = r4.length + 1
theorem sentF (r3 : List Rn) (o : Ot) : ∃ r4 rs, SentF r3 r4 rs o := by
  refine ⟨silR r3, silR r3 ++ [otR o], rfl, sil_put _ _, tel_put _ _, rfl, sil_len _, by simp⟩

set_option maxHeartbeats 4000000 in
set_option maxRecDepth 100000 in
theorem sent_full {xq x1 x2 x3 xo : Option Addr} {xcq xc1 xc2 xc3 xoc : Nat} (h : Hd) (qs : List Qn) (r1 r2 r3 : List Rn) (o : Ot) (w : World) (hq : Qs w 0 xq xcq qs) (hr1 : Rs w 0 x1 xc1 r1) (hr2 : Rs w 0 x2 xc2 r2) (hr3 : Rs w 0 x3 xc3 r3) (l1 : r1.length * 72 ≤ 140737488355328) (l2 : r2.length * 72 ≤ 140737488355328) (l3 : (r3.length + 2) * 72 ≤ 140737488355328) (hso : Ops w 0 xo xoc o.os) (ho : otE o = 0) (hE : ∀ rs, silR r3 ++ [otR o] = rs → ¬ msgE h qs r1 r2 rs = 0) :
    Calls Try.prog 3 #[.agg #[.int .i64 h.id, .bool h.an, .int .i64 h.op, .bool h.aa, .bool h.tc, .bool h.rd, .bool h.ra, .bool h.z, .bool h.ad, .bool h.cd, .int .i64 h.code, .slice xq qs.length xcq, .slice x1 r1.length xc1, .slice x2 r2.length xc2, .slice x3 r3.length xc3], .agg #[.int .i64 o.size, .int .i64 o.code, .int .i64 o.ver, .bool o.dO, .int .i64 o.z, .slice xo o.os.length xoc]] w fun e w' => e = .returned (.bool true) ∧ Below w.heap.size w w' := by
  obtain ⟨r4, rs, s0, s1, t1, e1, n1, n2⟩ := sentF r3 o
  have S0 := hid s0
  have S1 := hid s1
  have T1 := hid t1
  have HRS := hid e1
  have N1 := hid n1
  have N2 := hid n2
  have L1 := hid l1
  have L2 := hid l2
  have L3 := hid l3
  have HO := hid ho
  clear s0 s1 t1 e1 n1 n2 l1 l2 l3 ho
  have HE := hid (hE rs HRS.out)
  clear hE
  have HSZ := hid (Nat.le_refl w.heap.size)
  obtain ⟨k1, k2, k4⟩ := Bl.two 27 30 w #[.int .i64 h.id, .bool h.an, .int .i64 h.op, .bool h.aa, .bool h.tc, .bool h.rd, .bool h.ra, .bool h.z, .bool h.ad, .bool h.cd, .int .i64 h.code, .slice xq qs.length xcq, .slice x1 r1.length xc1, .slice x2 r2.length xc2, .slice x3 r3.length xc3] #[.int .i64 o.size, .int .i64 o.code, .int .i64 o.ver, .bool o.dO, .int .i64 o.z, .slice xo o.os.length xoc]
  have MM : Hid (MsgB _ w.heap.size h qs r1 r2 r3) := hid ⟨xq, xcq, x1, xc1, x2, xc2, x3, xc3, k1, hq.below k4, hr1.below k4, hr2.below k4, hr3.below k4⟩
  have OO : Hid (OptB _ (w.heap.size + 1) o) := hid ⟨xo, xoc, k2, hso.below k4⟩
  have WW : Hid (Below w.heap.size w _) := hid k4
  clear k1 k2 k4 hq hr1 hr2 hr3 hso
  go_enter Try.func3, Try.ntmps3
  go_upto_region 1 with fail
  generalize (w.alloc (.cells #[.int .i64 h.id, .bool h.an, .int .i64 h.op, .bool h.aa, .bool h.tc, .bool h.rd, .bool h.ra, .bool h.z, .bool h.ad, .bool h.cd, .int .i64 h.code, .slice xq qs.length xcq, .slice x1 r1.length xc1, .slice x2 r2.length xc2, .slice x3 r3.length xc3] 27)).alloc (.cells #[.int .i64 o.size, .int .i64 o.code, .int .i64 o.ver, .bool o.dO, .int .i64 o.z, .slice xo o.os.length xoc] 30) = w0 at *
  go_wp2_with fail
  refine (known_any w0).mono ?_
  rintro e w1 ⟨rfl, b1⟩
  replace MM := hid ((MM.out).below b1)
  replace OO := hid ((OO.out).below b1)
  replace WW := hid (grown_on WW.out b1)
  clear b1
  obtain ⟨yq, ycq, y1, yc1, y2, yc2, y3, yc3, ykb, yh0, yh1, yh2, yh3⟩ := MM.out
  obtain ⟨uo, uoc, uokb, uoho⟩ := OO.out
  have RM := hid (Bl.range [.int .i64 h.id, .bool h.an, .int .i64 h.op, .bool h.aa, .bool h.tc, .bool h.rd, .bool h.ra, .bool h.z, .bool h.ad, .bool h.cd, .int .i64 h.code, .slice yq qs.length ycq, .slice y1 r1.length yc1, .slice y2 r2.length yc2, .slice y3 r3.length yc3] ykb)
  have RO := hid (Bl.range [.int .i64 o.size, .int .i64 o.code, .int .i64 o.ver, .bool o.dO, .int .i64 o.z, .slice uo o.os.length uoc] uokb)
  clear ykb uokb
  go_upto_region 4 with fail
  go_wp2_with (first
    | (refine wpList_load_mid rfl 27 _ rfl w.heap.size 0 rfl [.int .i64 h.id, .bool h.an, .int .i64 h.op, .bool h.aa, .bool h.tc, .bool h.rd, .bool h.ra, .bool h.z, .bool h.ad, .bool h.cd, .int .i64 h.code, .slice yq qs.length ycq, .slice y1 r1.length yc1, .slice y2 r2.length yc2, .slice y3 r3.length yc3] _ RM.out Try.underlying27 rfl size_message ?_)
    | (refine wpList_load_mid rfl 30 _ rfl (w.heap.size + 1) 0 rfl [.int .i64 o.size, .int .i64 o.code, .int .i64 o.ver, .bool o.dO, .int .i64 o.z, .slice uo o.os.length uoc] _ RO.out Try.underlying30 rfl size_opt ?_)
    | fail)
  refine (set_put h qs r1 r2 r3 rs o w1 yh0 yh1 yh2 yh3 L1.out L2.out (by have := L3.out; omega) uoho HO.out HRS.out).mono ?_
  rintro e w2 ⟨tq, tcq, t1, tc1, t2, tc2, t3, tc3, rfl, q0, q1, q2, q3, b2⟩
  have XX := hid (MsgB.new (w := w2) h q0 q1 q2 q3)
  have ba := (Below.refl w2.heap.size w2).alloc (Nat.le_refl _) (.cells #[.int .i64 h.id, .bool h.an, .int .i64 h.op, .bool h.aa, .bool h.tc, .bool h.rd, .bool h.ra, .bool h.z, .bool h.ad, .bool h.cd, .int .i64 h.code, .slice tq qs.length tcq, .slice t1 r1.length tc1, .slice t2 r2.length tc2, .slice t3 rs.length tc3] 27)
  replace MM := hid (((MM.out).below b2).below ba)
  replace OO := hid (((OO.out).below b2).below ba)
  replace WW := hid (grown_on (grown_on WW.out b2) ba)
  clear b2 ba q0 q1 q2 q3 yh0 yh1 yh2 yh3 uoho RM RO
  go_upto_region 5 with fail
  generalize w2.alloc (.cells #[.int .i64 h.id, .bool h.an, .int .i64 h.op, .bool h.aa, .bool h.tc, .bool h.rd, .bool h.ra, .bool h.z, .bool h.ad, .bool h.cd, .int .i64 h.code, .slice tq qs.length tcq, .slice t1 r1.length tc1, .slice t2 r2.length tc2, .slice t3 rs.length tc3] 27) = w3 at *
  generalize w2.heap.size = bx at *
  obtain ⟨yq, ycq, y1, yc1, y2, yc2, y3, yc3, ykb, yh0, yh1, yh2, yh3⟩ := XX.out
  have RX := hid (Bl.range [.int .i64 h.id, .bool h.an, .int .i64 h.op, .bool h.aa, .bool h.tc, .bool h.rd, .bool h.ra, .bool h.z, .bool h.ad, .bool h.cd, .int .i64 h.code, .slice yq qs.length ycq, .slice y1 r1.length yc1, .slice y2 r2.length yc2, .slice y3 rs.length yc3] ykb)
  clear ykb
  go_upto_region 7 with fail
  go_wp2_with (first
    | (refine wpList_load_mid rfl 27 _ rfl bx 0 rfl [.int .i64 h.id, .bool h.an, .int .i64 h.op, .bool h.aa, .bool h.tc, .bool h.rd, .bool h.ra, .bool h.z, .bool h.ad, .bool h.cd, .int .i64 h.code, .slice yq qs.length ycq, .slice y1 r1.length yc1, .slice y2 r2.length yc2, .slice y3 rs.length yc3] _ RX.out Try.underlying27 rfl size_message ?_)
    | fail)

  refine (mwrite_no h qs r1 r2 rs w3 yh0 yh1 yh2 yh3 HE.out).mono ?_
  rintro e w4 ⟨rfl, b4⟩
  replace WW := hid (grown_on WW.out b4)
  clear b4 yh0 yh1 yh2 yh3 RX
  go_wp2_with fail
  go_ret
  exact ⟨rfl, WW.out⟩

set_option maxHeartbeats 8000000 in
set_option maxRecDepth 100000 in
theorem sent_good {xq x1 x2 x3 xo : Option Addr} {xcq xc1 xc2 xc3 xoc : Nat} (h : Hd) (qs : List Qn) (r1 r2 r3 : List Rn) (o : Ot) (w : World) (hq : Qs w 0 xq xcq qs) (hr1 : Rs w 0 x1 xc1 r1) (hr2 : Rs w 0 x2 xc2 r2) (hr3 : Rs w 0 x3 xc3 r3) (l1 : r1.length * 72 ≤ 140737488355328) (l2 : r2.length * 72 ≤ 140737488355328) (l3 : (r3.length + 2) * 72 ≤ 140737488355328) (hso : Ops w 0 xo xoc o.os) (ho : otE o = 0) (hE : ∀ rs, silR r3 ++ [otR o] = rs → msgE h qs r1 r2 rs = 0) :
    Calls Try.prog 3 #[.agg #[.int .i64 h.id, .bool h.an, .int .i64 h.op, .bool h.aa, .bool h.tc, .bool h.rd, .bool h.ra, .bool h.z, .bool h.ad, .bool h.cd, .int .i64 h.code, .slice xq qs.length xcq, .slice x1 r1.length xc1, .slice x2 r2.length xc2, .slice x3 r3.length xc3], .agg #[.int .i64 o.size, .int .i64 o.code, .int .i64 o.ver, .bool o.dO, .int .i64 o.z, .slice xo o.os.length xoc]] w fun e w' => e = .returned (.bool true) ∧ Below w.heap.size w w' := by
  obtain ⟨r4, rs, s0, s1, t1, e1, n1, n2⟩ := sentF r3 o
  have S0 := hid s0
  have S1 := hid s1
  have T1 := hid t1
  have HRS := hid e1
  have N1 := hid n1
  have N2 := hid n2
  have L1 := hid l1
  have L2 := hid l2
  have L3 := hid l3
  have HO := hid ho
  clear s0 s1 t1 e1 n1 n2 l1 l2 l3 ho
  have HE := hid (hE rs HRS.out)
  clear hE
  have HSZ := hid (Nat.le_refl w.heap.size)
  obtain ⟨k1, k2, k4⟩ := Bl.two 27 30 w #[.int .i64 h.id, .bool h.an, .int .i64 h.op, .bool h.aa, .bool h.tc, .bool h.rd, .bool h.ra, .bool h.z, .bool h.ad, .bool h.cd, .int .i64 h.code, .slice xq qs.length xcq, .slice x1 r1.length xc1, .slice x2 r2.length xc2, .slice x3 r3.length xc3] #[.int .i64 o.size, .int .i64 o.code, .int .i64 o.ver, .bool o.dO, .int .i64 o.z, .slice xo o.os.length xoc]
  have MM : Hid (MsgB _ w.heap.size h qs r1 r2 r3) := hid ⟨xq, xcq, x1, xc1, x2, xc2, x3, xc3, k1, hq.below k4, hr1.below k4, hr2.below k4, hr3.below k4⟩
  have OO : Hid (OptB _ (w.heap.size + 1) o) := hid ⟨xo, xoc, k2, hso.below k4⟩
  have WW : Hid (Below w.heap.size w _) := hid k4
  clear k1 k2 k4 hq hr1 hr2 hr3 hso
  go_enter Try.func3, Try.ntmps3
  go_upto_region 1 with fail
  generalize (w.alloc (.cells #[.int .i64 h.id, .bool h.an, .int .i64 h.op, .bool h.aa, .bool h.tc, .bool h.rd, .bool h.ra, .bool h.z, .bool h.ad, .bool h.cd, .int .i64 h.code, .slice xq qs.length xcq, .slice x1 r1.length xc1, .slice x2 r2.length xc2, .slice x3 r3.length xc3] 27)).alloc (.cells #[.int .i64 o.size, .int .i64 o.code, .int .i64 o.ver, .bool o.dO, .int .i64 o.z, .slice xo o.os.length xoc] 30) = w0 at *
  go_wp2_with fail
  refine (known_any w0).mono ?_
  rintro e w1 ⟨rfl, b1⟩
  replace MM := hid ((MM.out).below b1)
  replace OO := hid ((OO.out).below b1)
  replace WW := hid (grown_on WW.out b1)
  clear b1
  obtain ⟨yq, ycq, y1, yc1, y2, yc2, y3, yc3, ykb, yh0, yh1, yh2, yh3⟩ := MM.out
  obtain ⟨uo, uoc, uokb, uoho⟩ := OO.out
  have RM := hid (Bl.range [.int .i64 h.id, .bool h.an, .int .i64 h.op, .bool h.aa, .bool h.tc, .bool h.rd, .bool h.ra, .bool h.z, .bool h.ad, .bool h.cd, .int .i64 h.code, .slice yq qs.length ycq, .slice y1 r1.length yc1, .slice y2 r2.length yc2, .slice y3 r3.length yc3] ykb)
  have RO := hid (Bl.range [.int .i64 o.size, .int .i64 o.code, .int .i64 o.ver, .bool o.dO, .int .i64 o.z, .slice uo o.os.length uoc] uokb)
  clear ykb uokb
  go_upto_region 4 with fail
  go_wp2_with (first
    | (refine wpList_load_mid rfl 27 _ rfl w.heap.size 0 rfl [.int .i64 h.id, .bool h.an, .int .i64 h.op, .bool h.aa, .bool h.tc, .bool h.rd, .bool h.ra, .bool h.z, .bool h.ad, .bool h.cd, .int .i64 h.code, .slice yq qs.length ycq, .slice y1 r1.length yc1, .slice y2 r2.length yc2, .slice y3 r3.length yc3] _ RM.out Try.underlying27 rfl size_message ?_)
    | (refine wpList_load_mid rfl 30 _ rfl (w.heap.size + 1) 0 rfl [.int .i64 o.size, .int .i64 o.code, .int .i64 o.ver, .bool o.dO, .int .i64 o.z, .slice uo o.os.length uoc] _ RO.out Try.underlying30 rfl size_opt ?_)
    | fail)
  refine (set_put h qs r1 r2 r3 rs o w1 yh0 yh1 yh2 yh3 L1.out L2.out (by have := L3.out; omega) uoho HO.out HRS.out).mono ?_
  rintro e w2 ⟨tq, tcq, t1, tc1, t2, tc2, t3, tc3, rfl, q0, q1, q2, q3, b2⟩
  have XX := hid (MsgB.new (w := w2) h q0 q1 q2 q3)
  have ba := (Below.refl w2.heap.size w2).alloc (Nat.le_refl _) (.cells #[.int .i64 h.id, .bool h.an, .int .i64 h.op, .bool h.aa, .bool h.tc, .bool h.rd, .bool h.ra, .bool h.z, .bool h.ad, .bool h.cd, .int .i64 h.code, .slice tq qs.length tcq, .slice t1 r1.length tc1, .slice t2 r2.length tc2, .slice t3 rs.length tc3] 27)
  replace MM := hid (((MM.out).below b2).below ba)
  replace OO := hid (((OO.out).below b2).below ba)
  replace WW := hid (grown_on (grown_on WW.out b2) ba)
  clear b2 ba q0 q1 q2 q3 yh0 yh1 yh2 yh3 uoho RM RO
  go_upto_region 5 with fail
  generalize w2.alloc (.cells #[.int .i64 h.id, .bool h.an, .int .i64 h.op, .bool h.aa, .bool h.tc, .bool h.rd, .bool h.ra, .bool h.z, .bool h.ad, .bool h.cd, .int .i64 h.code, .slice tq qs.length tcq, .slice t1 r1.length tc1, .slice t2 r2.length tc2, .slice t3 rs.length tc3] 27) = w3 at *
  generalize w2.heap.size = bx at *
  obtain ⟨yq, ycq, y1, yc1, y2, yc2, y3, yc3, ykb, yh0, yh1, yh2, yh3⟩ := XX.out
  have RX := hid (Bl.range [.int .i64 h.id, .bool h.an, .int .i64 h.op, .bool h.aa, .bool h.tc, .bool h.rd, .bool h.ra, .bool h.z, .bool h.ad, .bool h.cd, .int .i64 h.code, .slice yq qs.length ycq, .slice y1 r1.length yc1, .slice y2 r2.length yc2, .slice y3 rs.length yc3] ykb)
  clear ykb
  go_upto_region 7 with fail
  go_wp2_with (first
    | (refine wpList_load_mid rfl 27 _ rfl bx 0 rfl [.int .i64 h.id, .bool h.an, .int .i64 h.op, .bool h.aa, .bool h.tc, .bool h.rd, .bool h.ra, .bool h.z, .bool h.ad, .bool h.cd, .int .i64 h.code, .slice yq qs.length ycq, .slice y1 r1.length yc1, .slice y2 r2.length yc2, .slice y3 rs.length yc3] _ RX.out Try.underlying27 rfl size_message ?_)
    | fail)

  have BK := hid (msg_back HE.out (rs_data yh1 yh2 yh3))
  have hFl0 : (endS h qs r1 r2 rs).1.length ≤ 65535 := (msgE_zero HE.out).2.2.2.2
  refine (mwrite_ok h qs r1 r2 rs w3 yh0 yh1 yh2 yh3 HE.out).mono ?_
  rintro e w4 ⟨x5, c5, rfl, hrow, b4⟩
  obtain ⟨F, hF⟩ : ∃ F, (endS h qs r1 r2 rs).1 = F := ⟨_, rfl⟩
  rw [hF] at BK hrow hFl0 ⊢
  obtain ⟨xx, cc, e2, hby⟩ := rowb_bys hrow (by omega) BK.out.2.2
  simp only [Value.slice.injEq, true_and] at e2
  obtain ⟨rfl, rfl⟩ := e2
  have BYS := hid hby
  replace MM := hid ((MM.out).below b4)
  replace OO := hid ((OO.out).below b4)
  replace WW := hid (grown_on WW.out b4)
  clear b4 hrow hby hF yh0 yh1 yh2 yh3 RX XX
  go_upto_region 10 with fail
  go_wp2_with fail
  refine (mread_good F _ BYS.out rfl BK.out.1).mono ?_
  rintro e w5 ⟨vq, vcq, v1, vc1, v2, vc2, v3, vc3, rfl, t0, t1, t2, t3, b5⟩
  rw [BK.out.2.1]
  have YY := hid (MsgB.new (w := w5) h (t0.base (Nat.zero_le _)) (t1.base (Nat.zero_le _)) (t2.base (Nat.zero_le _)) (t3.base (Nat.zero_le _)))
  have ba := (Below.refl w5.heap.size w5).alloc (Nat.le_refl _) (.cells #[.int .i64 h.id, .bool h.an, .int .i64 h.op, .bool h.aa, .bool h.tc, .bool h.rd, .bool h.ra, .bool h.z, .bool h.ad, .bool h.cd, .int .i64 h.code, .slice vq qs.length vcq, .slice v1 r1.length vc1, .slice v2 r2.length vc2, .slice v3 rs.length vc3] 27)
  replace MM := hid (((MM.out).below b5).below ba)
  replace OO := hid (((OO.out).below b5).below ba)
  replace WW := hid (grown_on (grown_on WW.out b5) ba)
  clear b5 ba t0 t1 t2 t3 BYS BK
  go_upto_region 11 with fail
  generalize w5.alloc (.cells #[.int .i64 h.id, .bool h.an, .int .i64 h.op, .bool h.aa, .bool h.tc, .bool h.rd, .bool h.ra, .bool h.z, .bool h.ad, .bool h.cd, .int .i64 h.code, .slice vq qs.length vcq, .slice v1 r1.length vc1, .slice v2 r2.length vc2, .slice v3 rs.length vc3] 27) = w6 at *
  generalize w5.heap.size = bY at *
  obtain ⟨yq, ycq, y1, yc1, y2, yc2, y3, yc3, ykb, yh0, yh1, yh2, yh3⟩ := YY.out
  have RY := hid (Bl.range [.int .i64 h.id, .bool h.an, .int .i64 h.op, .bool h.aa, .bool h.tc, .bool h.rd, .bool h.ra, .bool h.z, .bool h.ad, .bool h.cd, .int .i64 h.code, .slice yq qs.length ycq, .slice y1 r1.length yc1, .slice y2 r2.length yc2, .slice y3 rs.length yc3] ykb)
  clear ykb
  go_wp2_with (first
    | (refine wpList_load_mid rfl 27 _ rfl bY 0 rfl [.int .i64 h.id, .bool h.an, .int .i64 h.op, .bool h.aa, .bool h.tc, .bool h.rd, .bool h.ra, .bool h.z, .bool h.ad, .bool h.cd, .int .i64 h.code, .slice yq qs.length ycq, .slice y1 r1.length yc1, .slice y2 r2.length yc2, .slice y3 rs.length yc3] _ RY.out Try.underlying27 rfl size_message ?_)
    | fail)
  refine (find_put h rs o w6 yh3 rfl T1.out HO.out (by have := L3.out; have := N1.out; have := N2.out; omega)).mono ?_
  rintro e w7 ⟨fo, foc, rfl, q0, b7⟩
  have FF := hid (OptB.new (w := w7) o q0)
  have ba := (Below.refl w7.heap.size w7).alloc (Nat.le_refl _) (.cells #[.int .i64 o.size, .int .i64 o.code, .int .i64 o.ver, .bool o.dO, .int .i64 o.z, .slice fo o.os.length foc] 30)
  replace MM := hid (((MM.out).below b7).below ba)
  replace OO := hid (((OO.out).below b7).below ba)
  replace YY := hid (((YY.out).below b7).below ba)
  replace WW := hid (grown_on (grown_on WW.out b7) ba)
  clear b7 ba q0 yh0 yh1 yh2 yh3 RY
  go_upto_region 12 with fail
  generalize w7.alloc (.cells #[.int .i64 o.size, .int .i64 o.code, .int .i64 o.ver, .bool o.dO, .int .i64 o.z, .slice fo o.os.length foc] 30) = w8 at *
  generalize w7.heap.size = bf at *
  obtain ⟨vo, voc, vokb, voho⟩ := FF.out
  obtain ⟨uo, uoc, uokb, uoho⟩ := OO.out
  have RF := hid (Bl.range [.int .i64 o.size, .int .i64 o.code, .int .i64 o.ver, .bool o.dO, .int .i64 o.z, .slice vo o.os.length voc] vokb)
  have RO := hid (Bl.range [.int .i64 o.size, .int .i64 o.code, .int .i64 o.ver, .bool o.dO, .int .i64 o.z, .slice uo o.os.length uoc] uokb)
  clear vokb uokb
  go_wp2_with (first
    | (refine wpList_load_mid rfl 30 _ rfl bf 0 rfl [.int .i64 o.size, .int .i64 o.code, .int .i64 o.ver, .bool o.dO, .int .i64 o.z, .slice vo o.os.length voc] _ RF.out Try.underlying30 rfl size_opt ?_)
    | (refine wpList_load_mid rfl 30 _ rfl (w.heap.size + 1) 0 rfl [.int .i64 o.size, .int .i64 o.code, .int .i64 o.ver, .bool o.dO, .int .i64 o.z, .slice uo o.os.length uoc] _ RO.out Try.underlying30 rfl size_opt ?_)
    | fail)
  refine (opts_at o w8 voho uoho).mono ?_
  rintro e w9 ⟨rfl, b9⟩
  replace MM := hid ((MM.out).below b9)
  replace YY := hid ((YY.out).below b9)
  replace WW := hid (grown_on WW.out b9)
  clear b9 voho uoho RF RO FF OO
  obtain ⟨yq, ycq, y1, yc1, y2, yc2, y3, yc3, ykb, yh0, yh1, yh2, yh3⟩ := YY.out
  obtain ⟨zq, zcq, z1, zc1, z2, zc2, z3, zc3, zkb, zh0, zh1, zh2, zh3⟩ := MM.out
  have hl1 := fun s' : Olds w9 => load_message (L := [.int .i64 h.id, .bool h.an, .int .i64 h.op, .bool h.aa, .bool h.tc, .bool h.rd, .bool h.ra, .bool h.z, .bool h.ad, .bool h.cd, .int .i64 h.code, .slice yq qs.length ycq, .slice y1 r1.length yc1, .slice y2 r2.length yc2, .slice y3 rs.length yc3]) ykb rfl s'
  have hl2 := fun s' : Olds w9 => load_message (L := [.int .i64 h.id, .bool h.an, .int .i64 h.op, .bool h.aa, .bool h.tc, .bool h.rd, .bool h.ra, .bool h.z, .bool h.ad, .bool h.cd, .int .i64 h.code, .slice zq qs.length zcq, .slice z1 r1.length zc1, .slice z2 r2.length zc2, .slice z3 r3.length zc3]) zkb rfl s'
  have CX : Hid (∀ u, Below w9.heap.size w9 u → Calls Try.prog 12 #[.agg #[.int .i64 h.id, .bool h.an, .int .i64 h.op, .bool h.aa, .bool h.tc, .bool h.rd, .bool h.ra, .bool h.z, .bool h.ad, .bool h.cd, .int .i64 h.code, .slice yq qs.length ycq, .slice y1 r1.length yc1, .slice y2 r2.length yc2, .slice y3 rs.length yc3]] u (DropTo h qs r1 r2 r4 u)) := hid (fun u hu => drop_at h qs r1 r2 rs r4 u (yh0.below hu) (yh1.below hu) (yh2.below hu) (yh3.below hu) L1.out L2.out (by have := L3.out; have := N1.out; have := N2.out; omega) S1.out)
  have CM : Hid (∀ u, Below w9.heap.size w9 u → Calls Try.prog 12 #[.agg #[.int .i64 h.id, .bool h.an, .int .i64 h.op, .bool h.aa, .bool h.tc, .bool h.rd, .bool h.ra, .bool h.z, .bool h.ad, .bool h.cd, .int .i64 h.code, .slice zq qs.length zcq, .slice z1 r1.length zc1, .slice z2 r2.length zc2, .slice z3 r3.length zc3]] u (DropTo h qs r1 r2 r4 u)) := hid (fun u hu => drop_at h qs r1 r2 r3 r4 u (zh0.below hu) (zh1.below hu) (zh2.below hu) (zh3.below hu) L1.out L2.out (by have := L3.out; omega) S0.out)
  clear yh0 yh1 yh2 yh3 zh0 zh1 zh2 zh3 ykb zkb
  go_upto_region 13 with fail
  refine wp_region_fork [0, 2] (.one 1 (.one 3 (.one 4 (.one 5 .nil)))) (fun u => ∃ s : Olds w9, u = s.val) (by kernel_rfl) (by kernel_rfl) (by kernel_rfl) ⟨⟨w9.drew, (Below.refl _ _).drew⟩, rfl⟩ ?_
  change wpQuiet _ _ _ _ [_, _] _
  refine wpQuiet_load 27 _ rfl _ _ rfl (fun u hu => by obtain ⟨s', rfl⟩ := hu; exact hl1 s') ?_
  refine wpQuiet_load 27 _ rfl _ _ rfl (fun u hu => by obtain ⟨s', rfl⟩ := hu; exact hl2 s') ?_
  refine wpQuiet_nil ?_
  clear hl1 hl2
  have HB := (Below.refl w9.heap.size w9).drew
  change stepL _ _ _ _ _ _ _ _ _
  refine stepL_at (by rfl) fun K Q' hK => ?_
  go_simp
  refine (CX.out _ HB).mono ?_
  rintro e w10 ⟨aq, acq, a1, ac1, a2, ac2, a3, ac3, rfl, A0, A1, A2, A3, bu⟩
  replace HB := HB.trans (bu.mono HB.size)
  refine hK _ _ (fun _ => ⟨⟨_, HB⟩, rfl⟩) ?_
  clear hK bu
  change stepL _ _ _ _ _ _ _ _ _
  refine stepL_at (by rfl) fun K Q' hK => ?_
  go_simp
  refine (CM.out _ HB).mono ?_
  rintro e w11 ⟨cq, ccq, c1, cc1, c2, cc2, c3, cc3, rfl, C0, C1, C2, C3, bu⟩
  replace A0 := A0.below bu
  replace A1 := A1.below bu
  replace A2 := A2.below bu
  replace A3 := A3.below bu
  replace HB := HB.trans (bu.mono HB.size)
  refine hK _ _ (fun _ => ⟨⟨_, HB⟩, rfl⟩) ?_
  clear hK bu
  change stepL _ _ _ _ _ _ _ _ _
  refine stepL_at (by rfl) fun K Q' hK => ?_
  go_simp
  refine (smsg_at h qs r1 r2 r4 _ A0 A1 A2 A3 C0 C1 C2 C3).mono ?_
  rintro e w12 ⟨rfl, bu⟩
  replace HB := HB.trans (bu.mono HB.size)
  refine hK _ _ (fun _ => ⟨⟨_, HB⟩, rfl⟩) ?_
  clear hK bu A0 A1 A2 A3 C0 C1 C2 C3
  change stepL _ _ _ _ _ _ _ _ _
  refine stepL_at (by rfl) fun K Q' hK => ?_
  go_simp
  refine hK _ _ (fun _ => ⟨⟨_, HB⟩, rfl⟩) ?_
  clear hK
  refine treeL_nil ?_
  clear CX CM
  replace WW := hid (grown_on WW.out HB)
  clear HB
  go_wp2_with fail
  go_ret
  exact ⟨rfl, WW.out⟩

theorem sent_walk {xq x1 x2 x3 xo : Option Addr} {xcq xc1 xc2 xc3 xoc : Nat} (h : Hd) (qs : List Qn) (r1 r2 r3 : List Rn) (o : Ot) (w : World) (hq : Qs w 0 xq xcq qs) (hr1 : Rs w 0 x1 xc1 r1) (hr2 : Rs w 0 x2 xc2 r2) (hr3 : Rs w 0 x3 xc3 r3) (l1 : r1.length * 72 ≤ 140737488355328) (l2 : r2.length * 72 ≤ 140737488355328) (l3 : (r3.length + 2) * 72 ≤ 140737488355328) (hso : Ops w 0 xo xoc o.os) :
    Calls Try.prog 3 #[.agg #[.int .i64 h.id, .bool h.an, .int .i64 h.op, .bool h.aa, .bool h.tc, .bool h.rd, .bool h.ra, .bool h.z, .bool h.ad, .bool h.cd, .int .i64 h.code, .slice xq qs.length xcq, .slice x1 r1.length xc1, .slice x2 r2.length xc2, .slice x3 r3.length xc3], .agg #[.int .i64 o.size, .int .i64 o.code, .int .i64 o.ver, .bool o.dO, .int .i64 o.z, .slice xo o.os.length xoc]] w fun e w' => e = .returned (.bool true) ∧ Below w.heap.size w w' := by
  by_cases ho : otE o = 0
  · by_cases hE : msgE h qs r1 r2 (silR r3 ++ [otR o]) = 0
    · exact sent_good h qs r1 r2 r3 o w hq hr1 hr2 hr3 l1 l2 l3 hso ho (fun rs e => by subst e; exact hE)
    · exact sent_full h qs r1 r2 r3 o w hq hr1 hr2 hr3 l1 l2 l3 hso ho (fun rs e => by subst e; exact hE)
  · exact sent_bad h qs r1 r2 r3 o w hq hr1 hr2 hr3 l1 l2 l3 hso _ rfl ho

end Go.Proofs.Ytpmbbaacpnooeaa
