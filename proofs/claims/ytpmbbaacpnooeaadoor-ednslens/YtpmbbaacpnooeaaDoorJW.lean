/-
  The walk of EdnsLens, where Set says no for p. Written by genlens2.py. The walk of EdnsLens, in its three cases.
-/
import Derived.Test.YtpmbbaacpnooeaaDoorJR
import Derived.Test.YtpmbbaacpnooeaaDoorLawLensG
namespace Go.Proofs.YtpmbbaacpnooeaaDoor
open Go.RowKit Go.Deep

set_option maxHeartbeats 20000000 in
set_option maxRecDepth 100000 in
theorem lens_pbad {xq x1 x2 x3 xo xp : Option Addr} {xcq xc1 xc2 xc3 xoc xpc : Nat} (h : Hd) (qs : List Qn) (r1 r2 r3 : List Rn) (o p : Ot) (w : World) (hq : Qs w 0 xq xcq qs) (hr1 : Rs w 0 x1 xc1 r1) (hr2 : Rs w 0 x2 xc2 r2) (hr3 : Rs w 0 x3 xc3 r3) (l1 : r1.length * 72 ≤ 140737488355328) (l2 : r2.length * 72 ≤ 140737488355328) (l3 : (r3.length + 2) * 72 ≤ 140737488355328) (hso : Ops w 0 xo xoc o.os) (hsp : Ops w 0 xp xpc p.os) (hg : Glob w) (ho : otE o = 0) (hpp : ∃ k, otE p = k ∧ ¬ k = 0) :
    Calls Tryd.prog 5 #[.agg #[.int .i64 h.id, .bool h.an, .int .i64 h.op, .bool h.aa, .bool h.tc, .bool h.rd, .bool h.ra, .bool h.z, .bool h.ad, .bool h.cd, .int .i64 h.code, .slice xq qs.length xcq, .slice x1 r1.length xc1, .slice x2 r2.length xc2, .slice x3 r3.length xc3], .agg #[.int .i64 o.size, .int .i64 o.code, .int .i64 o.ver, .bool o.dO, .int .i64 o.z, .slice xo o.os.length xoc], .agg #[.int .i64 p.size, .int .i64 p.code, .int .i64 p.ver, .bool p.dO, .int .i64 p.z, .slice xp p.os.length xpc]] w fun e w' => e = .returned (.bool true) ∧ Below w.heap.size w w' := by
  obtain ⟨r4, rs, rp, s0, s2, s1, t1, t2, e1, e2, e3, e4, n1, n2, n3⟩ := lensF r3 o p
  have S0 := hid s0
  have S1 := hid s1
  have S2 := hid s2
  have T1 := hid t1
  have T2 := hid t2
  have HRS := hid e1
  have HRP := hid e2
  have HXS := hid e3
  have HXP := hid e4
  have N1 := hid n1
  have N2 := hid n2
  have N3 := hid n3
  have L1 := hid l1
  have L2 := hid l2
  have L3 := hid l3
  have HO := hid ho
  have HP := hid hpp
  clear s0 s1 s2 t1 t2 e1 e2 e3 e4 n1 n2 n3 l1 l2 l3 ho hpp
  obtain ⟨k1, k2, k3, k4⟩ := Bl.three 28 46 46 w #[.int .i64 h.id, .bool h.an, .int .i64 h.op, .bool h.aa, .bool h.tc, .bool h.rd, .bool h.ra, .bool h.z, .bool h.ad, .bool h.cd, .int .i64 h.code, .slice xq qs.length xcq, .slice x1 r1.length xc1, .slice x2 r2.length xc2, .slice x3 r3.length xc3] #[.int .i64 o.size, .int .i64 o.code, .int .i64 o.ver, .bool o.dO, .int .i64 o.z, .slice xo o.os.length xoc] #[.int .i64 p.size, .int .i64 p.code, .int .i64 p.ver, .bool p.dO, .int .i64 p.z, .slice xp p.os.length xpc]
  have MM : Hid (MsgB _ w.heap.size h qs r1 r2 r3) := hid ⟨xq, xcq, x1, xc1, x2, xc2, x3, xc3, k1, hq.below k4, hr1.below k4, hr2.below k4, hr3.below k4⟩
  have OO : Hid (OptB _ (w.heap.size + 1) o) := hid ⟨xo, xoc, k2, hso.below k4⟩
  have PP : Hid (OptB _ (w.heap.size + 1 + 1) p) := hid ⟨xp, xpc, k3, hsp.below k4⟩
  have GG : Hid (Glob _) := hid (hg.below k4)
  have WW : Hid (Below w.heap.size w _) := hid k4
  clear k1 k2 k3 k4 hq hr1 hr2 hr3 hso hsp hg
  go_enter Tryd.func5, Tryd.ntmps5
  go_upto_region 1 with fail
  generalize ((w.alloc (.cells #[.int .i64 h.id, .bool h.an, .int .i64 h.op, .bool h.aa, .bool h.tc, .bool h.rd, .bool h.ra, .bool h.z, .bool h.ad, .bool h.cd, .int .i64 h.code, .slice xq qs.length xcq, .slice x1 r1.length xc1, .slice x2 r2.length xc2, .slice x3 r3.length xc3] 28)).alloc (.cells #[.int .i64 o.size, .int .i64 o.code, .int .i64 o.ver, .bool o.dO, .int .i64 o.z, .slice xo o.os.length xoc] 46)).alloc (.cells #[.int .i64 p.size, .int .i64 p.code, .int .i64 p.ver, .bool p.dO, .int .i64 p.z, .slice xp p.os.length xpc] 46) = w0 at *
  go_wp2_with fail
  refine (known_any w0).mono ?_
  rintro e w1 ⟨rfl, b1⟩
  replace MM := hid ((MM.out).below b1)
  replace OO := hid ((OO.out).below b1)
  replace PP := hid ((PP.out).below b1)
  replace GG := hid ((GG.out).below b1)
  replace WW := hid (grown_on WW.out b1)
  clear b1
  go_upto_region 4 with fail
  obtain ⟨yq, ycq, y1, yc1, y2, yc2, y3, yc3, ykb, yh0, yh1, yh2, yh3⟩ := MM.out
  have Ry := hid (Bl.range [.int .i64 h.id, .bool h.an, .int .i64 h.op, .bool h.aa, .bool h.tc, .bool h.rd, .bool h.ra, .bool h.z, .bool h.ad, .bool h.cd, .int .i64 h.code, .slice yq qs.length ycq, .slice y1 r1.length yc1, .slice y2 r2.length yc2, .slice y3 r3.length yc3] ykb)
  clear ykb
  obtain ⟨uo, uoc, uokb, uoho⟩ := OO.out
  have Ruo := hid (Bl.range [.int .i64 o.size, .int .i64 o.code, .int .i64 o.ver, .bool o.dO, .int .i64 o.z, .slice uo o.os.length uoc] uokb)
  clear uokb
  go_wp2_with (first | (refine wpList_load_mid rfl 28 _ rfl w.heap.size 0 rfl [.int .i64 h.id, .bool h.an, .int .i64 h.op, .bool h.aa, .bool h.tc, .bool h.rd, .bool h.ra, .bool h.z, .bool h.ad, .bool h.cd, .int .i64 h.code, .slice yq qs.length ycq, .slice y1 r1.length yc1, .slice y2 r2.length yc2, .slice y3 r3.length yc3] _ Ry.out Tryd.underlying28 rfl size_message ?_) | (refine wpList_load_mid rfl 46 _ rfl (w.heap.size + 1) 0 rfl [.int .i64 o.size, .int .i64 o.code, .int .i64 o.ver, .bool o.dO, .int .i64 o.z, .slice uo o.os.length uoc] _ Ruo.out Tryd.underlying46 rfl size_opt ?_) | fail)
  refine (set_put h qs r1 r2 r3 rs o w1 yh0 yh1 yh2 yh3 L1.out L2.out (by have := L3.out; have := N1.out; have := N2.out; omega) uoho HO.out HRS.out).mono ?_
  rintro e w2 ⟨tq, tcq, t1, tc1, t2, tc2, t3, tc3, rfl, q0, q1, q2, q3, bu⟩
  have XX := hid (MsgB.new (w := w2) h q0 q1 q2 q3)
  have ba := (Below.refl w2.heap.size w2).alloc (Nat.le_refl _) (.cells #[.int .i64 h.id, .bool h.an, .int .i64 h.op, .bool h.aa, .bool h.tc, .bool h.rd, .bool h.ra, .bool h.z, .bool h.ad, .bool h.cd, .int .i64 h.code, .slice tq qs.length tcq, .slice t1 r1.length tc1, .slice t2 r2.length tc2, .slice t3 rs.length tc3] 28)
  replace MM := hid (((MM.out).below bu).below ba)
  replace OO := hid (((OO.out).below bu).below ba)
  replace PP := hid (((PP.out).below bu).below ba)
  replace GG := hid (((GG.out).below bu).below ba)
  replace WW := hid (grown_on (grown_on WW.out bu) ba)
  clear bu ba q0 q1 q2 q3 yh0 yh1 yh2 yh3 uoho Ry Ruo
  go_upto_region 5 with fail
  generalize w2.alloc (.cells #[.int .i64 h.id, .bool h.an, .int .i64 h.op, .bool h.aa, .bool h.tc, .bool h.rd, .bool h.ra, .bool h.z, .bool h.ad, .bool h.cd, .int .i64 h.code, .slice tq qs.length tcq, .slice t1 r1.length tc1, .slice t2 r2.length tc2, .slice t3 rs.length tc3] 28) = w3 at *
  generalize w2.heap.size = bx at *
  obtain ⟨yq, ycq, y1, yc1, y2, yc2, y3, yc3, ykb, yh0, yh1, yh2, yh3⟩ := XX.out
  have Ry := hid (Bl.range [.int .i64 h.id, .bool h.an, .int .i64 h.op, .bool h.aa, .bool h.tc, .bool h.rd, .bool h.ra, .bool h.z, .bool h.ad, .bool h.cd, .int .i64 h.code, .slice yq qs.length ycq, .slice y1 r1.length yc1, .slice y2 r2.length yc2, .slice y3 rs.length yc3] ykb)
  clear ykb
  go_upto_region 7 with fail
  go_wp2_with (first | (refine wpList_load_mid rfl 28 _ rfl bx 0 rfl [.int .i64 h.id, .bool h.an, .int .i64 h.op, .bool h.aa, .bool h.tc, .bool h.rd, .bool h.ra, .bool h.z, .bool h.ad, .bool h.cd, .int .i64 h.code, .slice yq qs.length ycq, .slice y1 r1.length yc1, .slice y2 r2.length yc2, .slice y3 rs.length yc3] _ Ry.out Tryd.underlying28 rfl size_message ?_) | fail)
  refine (find_put h rs o w3 yh3 rfl T1.out HO.out (by have := L3.out; have := N1.out; have := N2.out; omega)).mono ?_
  rintro e w4 ⟨fo, foc, rfl, q0, b4⟩
  have FF := hid (OptB.new (w := w4) o q0)
  have ba := (Below.refl w4.heap.size w4).alloc (Nat.le_refl _) (.cells #[.int .i64 o.size, .int .i64 o.code, .int .i64 o.ver, .bool o.dO, .int .i64 o.z, .slice fo o.os.length foc] 46)
  replace MM := hid (((MM.out).below b4).below ba)
  replace OO := hid (((OO.out).below b4).below ba)
  replace PP := hid (((PP.out).below b4).below ba)
  replace GG := hid (((GG.out).below b4).below ba)
  replace XX := hid (((XX.out).below b4).below ba)
  replace WW := hid (grown_on (grown_on WW.out b4) ba)
  clear b4 ba q0 yh0 yh1 yh2 yh3 Ry
  go_upto_region 8 with fail
  generalize w4.alloc (.cells #[.int .i64 o.size, .int .i64 o.code, .int .i64 o.ver, .bool o.dO, .int .i64 o.z, .slice fo o.os.length foc] 46) = w5 at *
  generalize w4.heap.size = bf at *
  obtain ⟨vo, voc, vokb, voho⟩ := FF.out
  have Rvo := hid (Bl.range [.int .i64 o.size, .int .i64 o.code, .int .i64 o.ver, .bool o.dO, .int .i64 o.z, .slice vo o.os.length voc] vokb)
  clear vokb
  obtain ⟨uo, uoc, uokb, uoho⟩ := OO.out
  have Ruo := hid (Bl.range [.int .i64 o.size, .int .i64 o.code, .int .i64 o.ver, .bool o.dO, .int .i64 o.z, .slice uo o.os.length uoc] uokb)
  clear uokb
  go_wp2_with (first | (refine wpList_load_mid rfl 46 _ rfl bf 0 rfl [.int .i64 o.size, .int .i64 o.code, .int .i64 o.ver, .bool o.dO, .int .i64 o.z, .slice vo o.os.length voc] _ Rvo.out Tryd.underlying46 rfl size_opt ?_) | (refine wpList_load_mid rfl 46 _ rfl (w.heap.size + 1) 0 rfl [.int .i64 o.size, .int .i64 o.code, .int .i64 o.ver, .bool o.dO, .int .i64 o.z, .slice uo o.os.length uoc] _ Ruo.out Tryd.underlying46 rfl size_opt ?_) | fail)
  refine (opts_at o w5 voho uoho).mono ?_
  rintro e w6 ⟨rfl, b6⟩
  replace MM := hid ((MM.out).below b6)
  replace OO := hid ((OO.out).below b6)
  replace PP := hid ((PP.out).below b6)
  replace GG := hid ((GG.out).below b6)
  replace XX := hid ((XX.out).below b6)
  replace FF := hid ((FF.out).below b6)
  replace WW := hid (grown_on WW.out b6)
  clear b6 voho uoho Rvo Ruo
  go_upto_region 9 with fail
  obtain ⟨yq, ycq, y1, yc1, y2, yc2, y3, yc3, ykb, yh0, yh1, yh2, yh3⟩ := XX.out
  have Ry := hid (Bl.range [.int .i64 h.id, .bool h.an, .int .i64 h.op, .bool h.aa, .bool h.tc, .bool h.rd, .bool h.ra, .bool h.z, .bool h.ad, .bool h.cd, .int .i64 h.code, .slice yq qs.length ycq, .slice y1 r1.length yc1, .slice y2 r2.length yc2, .slice y3 rs.length yc3] ykb)
  clear ykb
  go_wp2_with (first | (refine wpList_load_mid rfl 28 _ rfl bx 0 rfl [.int .i64 h.id, .bool h.an, .int .i64 h.op, .bool h.aa, .bool h.tc, .bool h.rd, .bool h.ra, .bool h.z, .bool h.ad, .bool h.cd, .int .i64 h.code, .slice yq qs.length ycq, .slice y1 r1.length yc1, .slice y2 r2.length yc2, .slice y3 rs.length yc3] _ Ry.out Tryd.underlying28 rfl size_message ?_) | fail)
  refine (drop_at h qs r1 r2 rs r4 w6 yh0 yh1 yh2 yh3 L1.out L2.out (by have := L3.out; have := N1.out; have := N2.out; omega) S1.out).mono ?_
  rintro e w7 ⟨dq, dcq, d1, dc1, d2, dc2, d3, dc3, rfl, q0, q1, q2, q3, b7⟩
  replace MM := hid ((MM.out).below b7)
  replace OO := hid ((OO.out).below b7)
  replace PP := hid ((PP.out).below b7)
  replace GG := hid ((GG.out).below b7)
  replace XX := hid ((XX.out).below b7)
  replace FF := hid ((FF.out).below b7)
  replace WW := hid (grown_on WW.out b7)
  clear b7 yh0 yh1 yh2 yh3 Ry
  go_wp2_with fail
  refine (find_silent h r4 w7 q3 rfl T2.out (by have := L3.out; have := N1.out; have := N2.out; omega)).mono ?_
  rintro e w8 ⟨rfl, b8⟩
  have ba := (Below.refl w8.heap.size w8).alloc (Nat.le_refl _) (.cells #[.int .i64 0, .int .i64 0, .int .i64 0, .bool false, .int .i64 0, .slice none 0 0] 46)
  have NN := hid (Bl.new 46 w8 #[.int .i64 0, .int .i64 0, .int .i64 0, .bool false, .int .i64 0, .slice none 0 0])
  replace MM := hid (((MM.out).below b8).below ba)
  replace OO := hid (((OO.out).below b8).below ba)
  replace PP := hid (((PP.out).below b8).below ba)
  replace GG := hid (((GG.out).below b8).below ba)
  replace XX := hid (((XX.out).below b8).below ba)
  replace FF := hid (((FF.out).below b8).below ba)
  replace WW := hid (grown_on (grown_on WW.out b8) ba)
  clear b8 ba q0 q1 q2 q3
  go_upto_region 10 with fail
  generalize w8.alloc (.cells #[.int .i64 0, .int .i64 0, .int .i64 0, .bool false, .int .i64 0, .slice none 0 0] 46) = w9 at *
  generalize w8.heap.size = bn at *
  obtain ⟨yq, ycq, y1, yc1, y2, yc2, y3, yc3, ykb, yh0, yh1, yh2, yh3⟩ := XX.out
  obtain ⟨zq, zcq, z1, zc1, z2, zc2, z3, zc3, zkb, zh0, zh1, zh2, zh3⟩ := MM.out
  have hl1 := fun s' : Olds w9 => load_message (L := [.int .i64 h.id, .bool h.an, .int .i64 h.op, .bool h.aa, .bool h.tc, .bool h.rd, .bool h.ra, .bool h.z, .bool h.ad, .bool h.cd, .int .i64 h.code, .slice yq qs.length ycq, .slice y1 r1.length yc1, .slice y2 r2.length yc2, .slice y3 rs.length yc3]) ykb rfl s'
  have hl2 := fun s' : Olds w9 => load_message (L := [.int .i64 h.id, .bool h.an, .int .i64 h.op, .bool h.aa, .bool h.tc, .bool h.rd, .bool h.ra, .bool h.z, .bool h.ad, .bool h.cd, .int .i64 h.code, .slice zq qs.length zcq, .slice z1 r1.length zc1, .slice z2 r2.length zc2, .slice z3 r3.length zc3]) zkb rfl s'
  have CX : Hid (∀ u, Below w9.heap.size w9 u → Calls Tryd.prog 17 #[.agg #[.int .i64 h.id, .bool h.an, .int .i64 h.op, .bool h.aa, .bool h.tc, .bool h.rd, .bool h.ra, .bool h.z, .bool h.ad, .bool h.cd, .int .i64 h.code, .slice yq qs.length ycq, .slice y1 r1.length yc1, .slice y2 r2.length yc2, .slice y3 rs.length yc3]] u (DropAt h qs r1 r2 r4 u)) := hid (fun u hu => drop_at h qs r1 r2 rs r4 u (yh0.below hu) (yh1.below hu) (yh2.below hu) (yh3.below hu) L1.out L2.out (by have := L3.out; have := N1.out; have := N2.out; omega) S1.out)
  have CM : Hid (∀ u, Below w9.heap.size w9 u → Calls Tryd.prog 17 #[.agg #[.int .i64 h.id, .bool h.an, .int .i64 h.op, .bool h.aa, .bool h.tc, .bool h.rd, .bool h.ra, .bool h.z, .bool h.ad, .bool h.cd, .int .i64 h.code, .slice zq qs.length zcq, .slice z1 r1.length zc1, .slice z2 r2.length zc2, .slice z3 r3.length zc3]] u (DropAt h qs r1 r2 r4 u)) := hid (fun u hu => drop_at h qs r1 r2 r3 r4 u (zh0.below hu) (zh1.below hu) (zh2.below hu) (zh3.below hu) L1.out L2.out (by have := L3.out; have := N1.out; have := N2.out; omega) S0.out)
  clear yh0 yh1 yh2 yh3 zh0 zh1 zh2 zh3 ykb zkb
  refine wp_region_fork [0, 2] (.one 1 (.one 3 (.one 4 (.one 5 .nil)))) (fun u => ∃ s : Olds w9, u = s.val) (by kernel_rfl) (by kernel_rfl) (by kernel_rfl) ⟨⟨w9.drew, (Below.refl _ _).drew⟩, rfl⟩ ?_
  change wpQuiet _ _ _ _ [_, _] _
  refine wpQuiet_load 28 _ rfl _ _ rfl (fun u hu => by obtain ⟨s', rfl⟩ := hu; exact hl1 s') ?_
  refine wpQuiet_load 28 _ rfl _ _ rfl (fun u hu => by obtain ⟨s', rfl⟩ := hu; exact hl2 s') ?_
  refine wpQuiet_nil ?_
  clear hl1 hl2
  have HB := (Below.refl w9.heap.size w9).drew
  change stepL _ _ _ _ _ _ _ _ _
  refine stepL_at (by rfl) fun K Q' hK => ?_
  go_simp
  refine (CX.out _ HB).mono ?_
  rintro e w10 ⟨aq, acq, a1, ac1, a2, ac2, a3, ac3, rfl, A0, A1, A2, A3, bu⟩
  replace HB := HB.trans (bu.mono HB.size)
  refine hK _ _ (fun _ => ⟨⟨_, HB⟩, rfl⟩) ?_
  clear hK bu
  change stepL _ _ _ _ _ _ _ _ _
  refine stepL_at (by rfl) fun K Q' hK => ?_
  go_simp
  refine (CM.out _ HB).mono ?_
  rintro e w11 ⟨cq, ccq, c1, cc1, c2, cc2, c3, cc3, rfl, C0, C1, C2, C3, bu⟩
  replace A0 := A0.below bu
  replace A1 := A1.below bu
  replace A2 := A2.below bu
  replace A3 := A3.below bu
  replace HB := HB.trans (bu.mono HB.size)
  refine hK _ _ (fun _ => ⟨⟨_, HB⟩, rfl⟩) ?_
  clear hK bu
  change stepL _ _ _ _ _ _ _ _ _
  refine stepL_at (by rfl) fun K Q' hK => ?_
  go_simp
  refine (smsg_at h qs r1 r2 r4 _ A0 A1 A2 A3 C0 C1 C2 C3).mono ?_
  rintro e w12 ⟨rfl, bu⟩
  replace HB := HB.trans (bu.mono HB.size)
  refine hK _ _ (fun _ => ⟨⟨_, HB⟩, rfl⟩) ?_
  clear hK bu A0 A1 A2 A3 C0 C1 C2 C3
  change stepL _ _ _ _ _ _ _ _ _
  refine stepL_at (by rfl) fun K Q' hK => ?_
  go_simp
  refine hK _ _ (fun _ => ⟨⟨_, HB⟩, rfl⟩) ?_
  clear hK
  refine treeL_nil ?_
  clear CX CM
  replace MM := hid ((MM.out).below HB)
  replace OO := hid ((OO.out).below HB)
  replace PP := hid ((PP.out).below HB)
  replace GG := hid ((GG.out).below HB)
  replace XX := hid ((XX.out).below HB)
  replace FF := hid ((FF.out).below HB)
  replace NN := hid ((NN.out).below HB)
  replace WW := hid (grown_on WW.out HB)
  clear HB
  go_upto_region 11 with fail
  obtain ⟨zq, zcq, z1, zc1, z2, zc2, z3, zc3, zkb, zh0, zh1, zh2, zh3⟩ := MM.out
  have hl2 := fun s' : Olds w12 => load_message (L := [.int .i64 h.id, .bool h.an, .int .i64 h.op, .bool h.aa, .bool h.tc, .bool h.rd, .bool h.ra, .bool h.z, .bool h.ad, .bool h.cd, .int .i64 h.code, .slice zq qs.length zcq, .slice z1 r1.length zc1, .slice z2 r2.length zc2, .slice z3 r3.length zc3]) zkb rfl s'
  have CM : Hid (∀ u, Below w12.heap.size w12 u → Calls Tryd.prog 17 #[.agg #[.int .i64 h.id, .bool h.an, .int .i64 h.op, .bool h.aa, .bool h.tc, .bool h.rd, .bool h.ra, .bool h.z, .bool h.ad, .bool h.cd, .int .i64 h.code, .slice zq qs.length zcq, .slice z1 r1.length zc1, .slice z2 r2.length zc2, .slice z3 r3.length zc3]] u (DropAt h qs r1 r2 r4 u)) := hid (fun u hu => drop_at h qs r1 r2 r3 r4 u (zh0.below hu) (zh1.below hu) (zh2.below hu) (zh3.below hu) L1.out L2.out (by have := L3.out; have := N1.out; have := N2.out; omega) S0.out)
  clear zh0 zh1 zh2 zh3 zkb
  refine wp_region_fork [0, 3] (.one 1 (.one 2 (.one 4 (.one 5 (.one 6 .nil))))) (fun u => ∃ s : Olds w12, u = s.val) (by kernel_rfl) (by kernel_rfl) (by kernel_rfl) ⟨⟨w12.drew, (Below.refl _ _).drew⟩, rfl⟩ ?_
  change wpQuiet _ _ _ _ [_, _] _
  refine wpQuiet_load 28 _ rfl _ _ rfl (fun u hu => by obtain ⟨s', rfl⟩ := hu; exact hl2 s') ?_
  refine wpQuiet_load 28 _ rfl _ _ rfl (fun u hu => by obtain ⟨s', rfl⟩ := hu; exact hl2 s') ?_
  refine wpQuiet_nil ?_
  clear hl2
  have HB := (Below.refl w12.heap.size w12).drew
  change stepL _ _ _ _ _ _ _ _ _
  refine stepL_at (by rfl) fun K Q' hK => ?_
  go_simp
  refine (CM.out _ HB).mono ?_
  rintro e w13 ⟨dq, dcq, d1, dc1, d2, dc2, d3, dc3, rfl, D0, D1, D2, D3, bu⟩
  replace HB := HB.trans (bu.mono HB.size)
  refine hK _ _ (fun _ => ⟨⟨_, HB⟩, rfl⟩) ?_
  clear hK bu
  change stepL _ _ _ _ _ _ _ _ _
  refine stepL_at (by rfl) fun K Q' hK => ?_
  go_simp
  refine (drop_at h qs r1 r2 r4 r4 _ D0 D1 D2 D3 L1.out L2.out (by have := L3.out; have := N1.out; have := N2.out; omega) S2.out).mono ?_
  rintro e w14 ⟨aq, acq, a1, ac1, a2, ac2, a3, ac3, rfl, A0, A1, A2, A3, bu⟩
  replace HB := HB.trans (bu.mono HB.size)
  refine hK _ _ (fun _ => ⟨⟨_, HB⟩, rfl⟩) ?_
  clear hK bu
  clear D0 D1 D2 D3
  change stepL _ _ _ _ _ _ _ _ _
  refine stepL_at (by rfl) fun K Q' hK => ?_
  go_simp
  refine (CM.out _ HB).mono ?_
  rintro e w15 ⟨cq, ccq, c1, cc1, c2, cc2, c3, cc3, rfl, C0, C1, C2, C3, bu⟩
  replace A0 := A0.below bu
  replace A1 := A1.below bu
  replace A2 := A2.below bu
  replace A3 := A3.below bu
  replace HB := HB.trans (bu.mono HB.size)
  refine hK _ _ (fun _ => ⟨⟨_, HB⟩, rfl⟩) ?_
  clear hK bu
  change stepL _ _ _ _ _ _ _ _ _
  refine stepL_at (by rfl) fun K Q' hK => ?_
  go_simp
  refine (smsg_at h qs r1 r2 r4 _ A0 A1 A2 A3 C0 C1 C2 C3).mono ?_
  rintro e w16 ⟨rfl, bu⟩
  replace HB := HB.trans (bu.mono HB.size)
  refine hK _ _ (fun _ => ⟨⟨_, HB⟩, rfl⟩) ?_
  clear hK bu A0 A1 A2 A3 C0 C1 C2 C3
  change stepL _ _ _ _ _ _ _ _ _
  refine stepL_at (by rfl) fun K Q' hK => ?_
  go_simp
  refine hK _ _ (fun _ => ⟨⟨_, HB⟩, rfl⟩) ?_
  clear hK
  refine treeL_nil ?_
  clear CM
  replace MM := hid ((MM.out).below HB)
  replace OO := hid ((OO.out).below HB)
  replace PP := hid ((PP.out).below HB)
  replace GG := hid ((GG.out).below HB)
  replace XX := hid ((XX.out).below HB)
  replace FF := hid ((FF.out).below HB)
  replace NN := hid ((NN.out).below HB)
  replace WW := hid (grown_on WW.out HB)
  clear HB
  have nn0 : w16.cell? ⟨bn, 0, none⟩ = some (.int .i64 0) := NN.out.cell (i := 0) rfl
  go_upto_region 14 with fail
  clear nn0 NN
  obtain ⟨k, hk, h0⟩ := HP.out
  obtain ⟨yq, ycq, y1, yc1, y2, yc2, y3, yc3, ykb, yh0, yh1, yh2, yh3⟩ := XX.out
  have Ry := hid (Bl.range [.int .i64 h.id, .bool h.an, .int .i64 h.op, .bool h.aa, .bool h.tc, .bool h.rd, .bool h.ra, .bool h.z, .bool h.ad, .bool h.cd, .int .i64 h.code, .slice yq qs.length ycq, .slice y1 r1.length yc1, .slice y2 r2.length yc2, .slice y3 rs.length yc3] ykb)
  clear ykb
  obtain ⟨uo, uoc, uokb, uoho⟩ := PP.out
  have Ruo := hid (Bl.range [.int .i64 p.size, .int .i64 p.code, .int .i64 p.ver, .bool p.dO, .int .i64 p.z, .slice uo p.os.length uoc] uokb)
  clear uokb
  go_wp2_with (first | (refine wpList_load_mid rfl 28 _ rfl bx 0 rfl [.int .i64 h.id, .bool h.an, .int .i64 h.op, .bool h.aa, .bool h.tc, .bool h.rd, .bool h.ra, .bool h.z, .bool h.ad, .bool h.cd, .int .i64 h.code, .slice yq qs.length ycq, .slice y1 r1.length yc1, .slice y2 r2.length yc2, .slice y3 rs.length yc3] _ Ry.out Tryd.underlying28 rfl size_message ?_) | (refine wpList_load_mid rfl 46 _ rfl (w.heap.size + 1 + 1) 0 rfl [.int .i64 p.size, .int .i64 p.code, .int .i64 p.ver, .bool p.dO, .int .i64 p.z, .slice uo p.os.length uoc] _ Ruo.out Tryd.underlying46 rfl size_opt ?_) | fail)
  refine (set_bad k h p w16 uoho hk h0).mono ?_
  rintro e w17 ⟨rfl, bu⟩
  have YY : Hid (MsgB (w17.alloc (.cells #[.int .i64 0, .bool false, .int .i64 0, .bool false, .bool false, .bool false, .bool false, .bool false, .bool false, .bool false, .int .i64 0, .slice none 0 0, .slice none 0 0, .slice none 0 0, .slice none 0 0] 28)) w17.heap.size ⟨0, false, 0, false, false, false, false, false, false, false, 0⟩ [] [] [] []) := hid (MsgB.new (w := w17) ⟨0, false, 0, false, false, false, false, false, false, false, 0⟩ (Qs.nil w17 0 none 0) (Rs.nil w17 0 none 0) (Rs.nil w17 0 none 0) (Rs.nil w17 0 none 0))
  have ba := (Below.refl w17.heap.size w17).alloc (Nat.le_refl _) (.cells #[.int .i64 0, .bool false, .int .i64 0, .bool false, .bool false, .bool false, .bool false, .bool false, .bool false, .bool false, .int .i64 0, .slice none 0 0, .slice none 0 0, .slice none 0 0, .slice none 0 0] 28)
  replace MM := hid (((MM.out).below bu).below ba)
  replace OO := hid (((OO.out).below bu).below ba)
  replace PP := hid (((PP.out).below bu).below ba)
  replace GG := hid (((GG.out).below bu).below ba)
  replace XX := hid (((XX.out).below bu).below ba)
  replace FF := hid (((FF.out).below bu).below ba)
  replace WW := hid (grown_on (grown_on WW.out bu) ba)
  clear bu ba  yh0 yh1 yh2 yh3 uoho Ry Ruo
  go_upto_region 15 with fail
  generalize w17.alloc (.cells #[.int .i64 0, .bool false, .int .i64 0, .bool false, .bool false, .bool false, .bool false, .bool false, .bool false, .bool false, .int .i64 0, .slice none 0 0, .slice none 0 0, .slice none 0 0, .slice none 0 0] 28) = w18 at *
  generalize w17.heap.size = bY at *
  obtain ⟨yq, ycq, y1, yc1, y2, yc2, y3, yc3, ykb, yh0, yh1, yh2, yh3⟩ := MM.out
  have Ry := hid (Bl.range [.int .i64 h.id, .bool h.an, .int .i64 h.op, .bool h.aa, .bool h.tc, .bool h.rd, .bool h.ra, .bool h.z, .bool h.ad, .bool h.cd, .int .i64 h.code, .slice yq qs.length ycq, .slice y1 r1.length yc1, .slice y2 r2.length yc2, .slice y3 r3.length yc3] ykb)
  clear ykb
  obtain ⟨uo, uoc, uokb, uoho⟩ := PP.out
  have Ruo := hid (Bl.range [.int .i64 p.size, .int .i64 p.code, .int .i64 p.ver, .bool p.dO, .int .i64 p.z, .slice uo p.os.length uoc] uokb)
  clear uokb
  go_wp2_with (first | (refine wpList_load_mid rfl 28 _ rfl w.heap.size 0 rfl [.int .i64 h.id, .bool h.an, .int .i64 h.op, .bool h.aa, .bool h.tc, .bool h.rd, .bool h.ra, .bool h.z, .bool h.ad, .bool h.cd, .int .i64 h.code, .slice yq qs.length ycq, .slice y1 r1.length yc1, .slice y2 r2.length yc2, .slice y3 r3.length yc3] _ Ry.out Tryd.underlying28 rfl size_message ?_) | (refine wpList_load_mid rfl 46 _ rfl (w.heap.size + 1 + 1) 0 rfl [.int .i64 p.size, .int .i64 p.code, .int .i64 p.ver, .bool p.dO, .int .i64 p.z, .slice uo p.os.length uoc] _ Ruo.out Tryd.underlying46 rfl size_opt ?_) | fail)
  refine (set_bad k h p w18 uoho hk h0).mono ?_
  rintro e w19 ⟨rfl, bu⟩
  have ZZ : Hid (MsgB (w19.alloc (.cells #[.int .i64 0, .bool false, .int .i64 0, .bool false, .bool false, .bool false, .bool false, .bool false, .bool false, .bool false, .int .i64 0, .slice none 0 0, .slice none 0 0, .slice none 0 0, .slice none 0 0] 28)) w19.heap.size ⟨0, false, 0, false, false, false, false, false, false, false, 0⟩ [] [] [] []) := hid (MsgB.new (w := w19) ⟨0, false, 0, false, false, false, false, false, false, false, 0⟩ (Qs.nil w19 0 none 0) (Rs.nil w19 0 none 0) (Rs.nil w19 0 none 0) (Rs.nil w19 0 none 0))
  have ba := (Below.refl w19.heap.size w19).alloc (Nat.le_refl _) (.cells #[.int .i64 0, .bool false, .int .i64 0, .bool false, .bool false, .bool false, .bool false, .bool false, .bool false, .bool false, .int .i64 0, .slice none 0 0, .slice none 0 0, .slice none 0 0, .slice none 0 0] 28)
  replace MM := hid (((MM.out).below bu).below ba)
  replace OO := hid (((OO.out).below bu).below ba)
  replace PP := hid (((PP.out).below bu).below ba)
  replace GG := hid (((GG.out).below bu).below ba)
  replace XX := hid (((XX.out).below bu).below ba)
  replace FF := hid (((FF.out).below bu).below ba)
  replace YY := hid (((YY.out).below bu).below ba)
  replace WW := hid (grown_on (grown_on WW.out bu) ba)
  clear bu ba  yh0 yh1 yh2 yh3 uoho Ry Ruo
  go_upto_region 16 with fail
  generalize w19.alloc (.cells #[.int .i64 0, .bool false, .int .i64 0, .bool false, .bool false, .bool false, .bool false, .bool false, .bool false, .bool false, .int .i64 0, .slice none 0 0, .slice none 0 0, .slice none 0 0, .slice none 0 0] 28) = w20 at *
  generalize w19.heap.size = bZ at *
  go_wp2_with fail
  refine (stold_any k _ (errV_some h0) w20 GG.out).mono ?_
  rintro e w21 ⟨rfl, bu⟩
  replace MM := hid ((MM.out).below bu)
  replace OO := hid ((OO.out).below bu)
  replace PP := hid ((PP.out).below bu)
  replace GG := hid ((GG.out).below bu)
  replace XX := hid ((XX.out).below bu)
  replace FF := hid ((FF.out).below bu)
  replace YY := hid ((YY.out).below bu)
  replace ZZ := hid ((ZZ.out).below bu)
  replace WW := hid (grown_on WW.out bu)
  clear bu
  go_upto_region 17 with fail
  obtain ⟨yq, ycq, y1, yc1, y2, yc2, y3, yc3, ykb, yh0, yh1, yh2, yh3⟩ := YY.out
  have Ry := hid (Bl.range [.int .i64 0, .bool false, .int .i64 0, .bool false, .bool false, .bool false, .bool false, .bool false, .bool false, .bool false, .int .i64 0, .slice yq 0 ycq, .slice y1 0 yc1, .slice y2 0 yc2, .slice y3 0 yc3] ykb)
  clear ykb
  obtain ⟨zq, zcq, z1, zc1, z2, zc2, z3, zc3, zkb, zh0, zh1, zh2, zh3⟩ := ZZ.out
  have Rz := hid (Bl.range [.int .i64 0, .bool false, .int .i64 0, .bool false, .bool false, .bool false, .bool false, .bool false, .bool false, .bool false, .int .i64 0, .slice zq 0 zcq, .slice z1 0 zc1, .slice z2 0 zc2, .slice z3 0 zc3] zkb)
  clear zkb
  go_wp2_with (first | (refine wpList_load_mid rfl 28 _ rfl bY 0 rfl [.int .i64 0, .bool false, .int .i64 0, .bool false, .bool false, .bool false, .bool false, .bool false, .bool false, .bool false, .int .i64 0, .slice yq 0 ycq, .slice y1 0 yc1, .slice y2 0 yc2, .slice y3 0 yc3] _ Ry.out Tryd.underlying28 rfl size_message ?_) | (refine wpList_load_mid rfl 28 _ rfl bZ 0 rfl [.int .i64 0, .bool false, .int .i64 0, .bool false, .bool false, .bool false, .bool false, .bool false, .bool false, .bool false, .int .i64 0, .slice zq 0 zcq, .slice z1 0 zc1, .slice z2 0 zc2, .slice z3 0 zc3] _ Rz.out Tryd.underlying28 rfl size_message ?_) | fail)
  refine (smsg_at ⟨0, false, 0, false, false, false, false, false, false, false, 0⟩ [] [] [] [] w21 yh0 yh1 yh2 yh3 zh0 zh1 zh2 zh3).mono ?_
  rintro e w22 ⟨rfl, bu⟩
  replace MM := hid ((MM.out).below bu)
  replace OO := hid ((OO.out).below bu)
  replace PP := hid ((PP.out).below bu)
  replace GG := hid ((GG.out).below bu)
  replace XX := hid ((XX.out).below bu)
  replace FF := hid ((FF.out).below bu)
  replace YY := hid ((YY.out).below bu)
  replace ZZ := hid ((ZZ.out).below bu)
  replace WW := hid (grown_on WW.out bu)
  clear bu yh0 yh1 yh2 yh3 zh0 zh1 zh2 zh3 Ry Rz YY ZZ
  go_upto_region 18 with fail
  obtain ⟨yq, ycq, y1, yc1, y2, yc2, y3, yc3, ykb, yh0, yh1, yh2, yh3⟩ := XX.out
  have Ry := hid (Bl.range [.int .i64 h.id, .bool h.an, .int .i64 h.op, .bool h.aa, .bool h.tc, .bool h.rd, .bool h.ra, .bool h.z, .bool h.ad, .bool h.cd, .int .i64 h.code, .slice yq qs.length ycq, .slice y1 r1.length yc1, .slice y2 r2.length yc2, .slice y3 rs.length yc3] ykb)
  clear ykb
  obtain ⟨uo, uoc, uokb, uoho⟩ := FF.out
  have Ruo := hid (Bl.range [.int .i64 o.size, .int .i64 o.code, .int .i64 o.ver, .bool o.dO, .int .i64 o.z, .slice uo o.os.length uoc] uokb)
  clear uokb
  go_wp2_with (first | (refine wpList_load_mid rfl 28 _ rfl bx 0 rfl [.int .i64 h.id, .bool h.an, .int .i64 h.op, .bool h.aa, .bool h.tc, .bool h.rd, .bool h.ra, .bool h.z, .bool h.ad, .bool h.cd, .int .i64 h.code, .slice yq qs.length ycq, .slice y1 r1.length yc1, .slice y2 r2.length yc2, .slice y3 rs.length yc3] _ Ry.out Tryd.underlying28 rfl size_message ?_) | (refine wpList_load_mid rfl 46 _ rfl bf 0 rfl [.int .i64 o.size, .int .i64 o.code, .int .i64 o.ver, .bool o.dO, .int .i64 o.z, .slice uo o.os.length uoc] _ Ruo.out Tryd.underlying46 rfl size_opt ?_) | fail)
  refine (set_put h qs r1 r2 rs rs o w22 yh0 yh1 yh2 yh3 L1.out L2.out (by have := L3.out; have := N1.out; have := N2.out; omega) uoho HO.out HXS.out).mono ?_
  rintro e w23 ⟨tq, tcq, t1, tc1, t2, tc2, t3, tc3, rfl, q0, q1, q2, q3, bu⟩
  have VV := hid (MsgB.new (w := w23) h q0 q1 q2 q3)
  have ba := (Below.refl w23.heap.size w23).alloc (Nat.le_refl _) (.cells #[.int .i64 h.id, .bool h.an, .int .i64 h.op, .bool h.aa, .bool h.tc, .bool h.rd, .bool h.ra, .bool h.z, .bool h.ad, .bool h.cd, .int .i64 h.code, .slice tq qs.length tcq, .slice t1 r1.length tc1, .slice t2 r2.length tc2, .slice t3 rs.length tc3] 28)
  replace MM := hid (((MM.out).below bu).below ba)
  replace OO := hid (((OO.out).below bu).below ba)
  replace PP := hid (((PP.out).below bu).below ba)
  replace GG := hid (((GG.out).below bu).below ba)
  replace XX := hid (((XX.out).below bu).below ba)
  replace FF := hid (((FF.out).below bu).below ba)
  replace WW := hid (grown_on (grown_on WW.out bu) ba)
  clear bu ba q0 q1 q2 q3 yh0 yh1 yh2 yh3 uoho Ry Ruo
  go_upto_region 19 with fail
  generalize w23.alloc (.cells #[.int .i64 h.id, .bool h.an, .int .i64 h.op, .bool h.aa, .bool h.tc, .bool h.rd, .bool h.ra, .bool h.z, .bool h.ad, .bool h.cd, .int .i64 h.code, .slice tq qs.length tcq, .slice t1 r1.length tc1, .slice t2 r2.length tc2, .slice t3 rs.length tc3] 28) = w24 at *
  generalize w23.heap.size = bW at *
  obtain ⟨yq, ycq, y1, yc1, y2, yc2, y3, yc3, ykb, yh0, yh1, yh2, yh3⟩ := VV.out
  have Ry := hid (Bl.range [.int .i64 h.id, .bool h.an, .int .i64 h.op, .bool h.aa, .bool h.tc, .bool h.rd, .bool h.ra, .bool h.z, .bool h.ad, .bool h.cd, .int .i64 h.code, .slice yq qs.length ycq, .slice y1 r1.length yc1, .slice y2 r2.length yc2, .slice y3 rs.length yc3] ykb)
  clear ykb
  obtain ⟨zq, zcq, z1, zc1, z2, zc2, z3, zc3, zkb, zh0, zh1, zh2, zh3⟩ := XX.out
  have Rz := hid (Bl.range [.int .i64 h.id, .bool h.an, .int .i64 h.op, .bool h.aa, .bool h.tc, .bool h.rd, .bool h.ra, .bool h.z, .bool h.ad, .bool h.cd, .int .i64 h.code, .slice zq qs.length zcq, .slice z1 r1.length zc1, .slice z2 r2.length zc2, .slice z3 rs.length zc3] zkb)
  clear zkb
  go_wp2_with (first | (refine wpList_load_mid rfl 28 _ rfl bW 0 rfl [.int .i64 h.id, .bool h.an, .int .i64 h.op, .bool h.aa, .bool h.tc, .bool h.rd, .bool h.ra, .bool h.z, .bool h.ad, .bool h.cd, .int .i64 h.code, .slice yq qs.length ycq, .slice y1 r1.length yc1, .slice y2 r2.length yc2, .slice y3 rs.length yc3] _ Ry.out Tryd.underlying28 rfl size_message ?_) | (refine wpList_load_mid rfl 28 _ rfl bx 0 rfl [.int .i64 h.id, .bool h.an, .int .i64 h.op, .bool h.aa, .bool h.tc, .bool h.rd, .bool h.ra, .bool h.z, .bool h.ad, .bool h.cd, .int .i64 h.code, .slice zq qs.length zcq, .slice z1 r1.length zc1, .slice z2 r2.length zc2, .slice z3 rs.length zc3] _ Rz.out Tryd.underlying28 rfl size_message ?_) | fail)
  refine (smsg_at h qs r1 r2 rs w24 yh0 yh1 yh2 yh3 zh0 zh1 zh2 zh3).mono ?_
  rintro e w25 ⟨rfl, bu⟩
  replace WW := hid (grown_on WW.out bu)
  clear bu yh0 yh1 yh2 yh3 zh0 zh1 zh2 zh3 Ry Rz
  go_wp2_with fail
  go_ret
  exact ⟨rfl, WW.out⟩

end Go.Proofs.YtpmbbaacpnooeaaDoor

namespace Go.Proofs.YtpmbbaacpnooeaaDoor
open Go.RowKit Go.Deep

theorem lens_walk {xq x1 x2 x3 xo xp : Option Addr} {xcq xc1 xc2 xc3 xoc xpc : Nat} (h : Hd) (qs : List Qn) (r1 r2 r3 : List Rn) (o p : Ot) (w : World) (hq : Qs w 0 xq xcq qs) (hr1 : Rs w 0 x1 xc1 r1) (hr2 : Rs w 0 x2 xc2 r2) (hr3 : Rs w 0 x3 xc3 r3) (l1 : r1.length * 72 ≤ 140737488355328) (l2 : r2.length * 72 ≤ 140737488355328) (l3 : (r3.length + 2) * 72 ≤ 140737488355328) (hso : Ops w 0 xo xoc o.os) (hsp : Ops w 0 xp xpc p.os) (hg : Glob w) :
    Calls Tryd.prog 5 #[.agg #[.int .i64 h.id, .bool h.an, .int .i64 h.op, .bool h.aa, .bool h.tc, .bool h.rd, .bool h.ra, .bool h.z, .bool h.ad, .bool h.cd, .int .i64 h.code, .slice xq qs.length xcq, .slice x1 r1.length xc1, .slice x2 r2.length xc2, .slice x3 r3.length xc3], .agg #[.int .i64 o.size, .int .i64 o.code, .int .i64 o.ver, .bool o.dO, .int .i64 o.z, .slice xo o.os.length xoc], .agg #[.int .i64 p.size, .int .i64 p.code, .int .i64 p.ver, .bool p.dO, .int .i64 p.z, .slice xp p.os.length xpc]] w fun e w' => e = .returned (.bool true) ∧ Below w.heap.size w w' := by
  by_cases ho : otE o = 0
  · by_cases hp : otE p = 0
    · exact lens_good h qs r1 r2 r3 o p w hq hr1 hr2 hr3 l1 l2 l3 hso hsp hg ho hp
    · exact lens_pbad h qs r1 r2 r3 o p w hq hr1 hr2 hr3 l1 l2 l3 hso hsp hg ho ⟨_, rfl, hp⟩
  · exact lens_obad h qs r1 r2 r3 o p w hq hr1 hr2 hr3 l1 l2 l3 hso hsp hg _ rfl ho

end Go.Proofs.YtpmbbaacpnooeaaDoor
