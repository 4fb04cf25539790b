/-
  The walk of EdnsTells. Written by genetlaw.py.
-/
import Derived.Test.YtbbgabdiikdjpaaDoorJG
import Derived.Test.YtbbgabdiikdjpaaDoorJR
namespace Go.Proofs.YtbbgabdiikdjpaaDoor
open Go.RowKit Go.Deep

/-- What is found, whether, and what is wrong. -/
def resN (rs : List Rn) : Ot × Bool × Int :=
  match findN rs with
  | (k, none) => (⟨0, 0, 0, false, 0, []⟩, false, k)
  | (_, some o) => (o, true, 0)

theorem refOf_at {xq x1 x2 x3 : Option Addr} {lq l1 l2 l cq c1 c2 c3 bq : Nat} (h : Hd) (rs : List Rn) (w : World) (hr : Rs w bq x3 c3 rs) (hl : rs.length = l) (hD : ∀ r ∈ rs, r.D.length ≤ 100000000) (f : Ot) (b : Bool) (k : Int) (hf : resN rs = (f, b, k)) :
    Calls Tryd.prog 13 #[.agg #[.int .i64 h.id, .bool h.an, .int .i64 h.op, .bool h.aa, .bool h.tc, .bool h.rd, .bool h.ra, .bool h.z, .bool h.ad, .bool h.cd, .int .i64 h.code, .slice xq lq cq, .slice x1 l1 c1, .slice x2 l2 c2, .slice x3 l c3]] w fun e w' => ∃ x c, e = .returned (.tuple #[.agg #[.int .i64 f.size, .int .i64 f.code, .int .i64 f.ver, .bool f.dO, .int .i64 f.z, .slice x f.os.length c], .bool b, .int .i64 k]) ∧ Ops w' 0 x c f.os ∧ Below w.heap.size w w' := by
  refine (refOf_any h rs w hr hl hD).mono ?_
  rintro e w' (⟨k', hk, rfl, hb⟩ | ⟨o, x, c, hk, rfl, ho, hb⟩)
  · have e1 : resN rs = (⟨0, 0, 0, false, 0, []⟩, false, k') := by unfold resN; rw [hk]
    rw [e1] at hf
    obtain ⟨rfl, rfl, rfl⟩ : (⟨0, 0, 0, false, 0, []⟩ : Ot) = f ∧ false = b ∧ k' = k := by simpa using hf
    exact ⟨none, 0, rfl, Ops.nil _ _ _ _, hb⟩
  · have e1 : resN rs = (o, true, 0) := by unfold resN; rw [hk]
    rw [e1] at hf
    obtain ⟨rfl, rfl, rfl⟩ : o = f ∧ true = b ∧ (0 : Int) = k := by simpa using hf
    exact ⟨x, c, rfl, ho, hb⟩

theorem Ops.base0 {w : World} {B : Nat} {x : Option Addr} {c : Nat} {os : List On} (h : Ops w B x c os) : Ops w 0 x c os := by
  obtain ⟨h1, h2, h3⟩ := h
  refine ⟨h1, h2, ?_⟩
  rcases h3 with q | ⟨b, off, e, hl, _, q⟩
  · exact Or.inl q
  · refine Or.inr ⟨b, off, e, hl, Nat.zero_le _, fun i hi => ?_⟩
    obtain ⟨z, t, k1, k2, k3, k4, _⟩ := q i hi
    exact ⟨z, t, k1, k2, k3, k4, fun _ _ => Nat.zero_le _⟩

theorem efind_at {xq x1 x2 x3 : Option Addr} {lq l1 l2 cq c1 c2 c3 b3 : Nat} (h : Hd) (r3 : List Rn) (w : World) (hr3 : Rs w b3 x3 c3 r3) (l3 : r3.length * 72 ≤ 140737488355328) (hD : ∀ r ∈ r3, r.D.length ≤ 100000000) (f : Ot) (b : Bool) (k : Int) (v : Value) (hf : resN r3 = (f, b, k)) (hv : errV k = v) :
    Calls Tryd.prog 14 #[.agg #[.int .i64 h.id, .bool h.an, .int .i64 h.op, .bool h.aa, .bool h.tc, .bool h.rd, .bool h.ra, .bool h.z, .bool h.ad, .bool h.cd, .int .i64 h.code, .slice xq lq cq, .slice x1 l1 c1, .slice x2 l2 c2, .slice x3 r3.length c3]] w fun e w' => ∃ x c, e = .returned (.tuple #[.agg #[.int .i64 f.size, .int .i64 f.code, .int .i64 f.ver, .bool f.dO, .int .i64 f.z, .slice x f.os.length c], .bool b, v]) ∧ Ops w' 0 x c f.os ∧ Below w.heap.size w w' := by
  subst hv
  refine (find_any h r3 w hr3 l3 (fun r hr => hD r (List.mem_filter.1 hr).1)).mono ?_
  rintro e w' (⟨k', hk, rfl, hb⟩ | ⟨o, x, c, hk, rfl, ho, hb⟩)
  · have e1 : resN r3 = (⟨0, 0, 0, false, 0, []⟩, false, k') := by unfold resN; rw [hk]
    rw [e1] at hf
    obtain ⟨rfl, rfl, rfl⟩ : (⟨0, 0, 0, false, 0, []⟩ : Ot) = f ∧ false = b ∧ k' = k := by simpa using hf
    exact ⟨none, 0, rfl, Ops.nil _ _ _ _, hb⟩
  · have e1 : resN r3 = (o, true, 0) := by unfold resN; rw [hk]
    rw [e1] at hf
    obtain ⟨rfl, rfl, rfl⟩ : o = f ∧ true = b ∧ (0 : Int) = k := by simpa using hf
    exact ⟨x, c, by rw [errV_none], ho.base0, hb⟩

def EDrop (h : Hd) (qs : List Qn) (r1 r2 rs : List Rn) (w : World) (e : Ending) (w' : World) : Prop := ∃ yq dq y1 d1 y2 d2 y3 d3, e = .returned (.agg #[.int .i64 h.id, .bool h.an, .int .i64 h.op, .bool h.aa, .bool h.tc, .bool h.rd, .bool h.ra, .bool h.z, .bool h.ad, .bool h.cd, .int .i64 h.code, .slice yq qs.length dq, .slice y1 r1.length d1, .slice y2 r2.length d2, .slice y3 rs.length d3]) ∧ Qs w' 0 yq dq qs ∧ Rs w' 0 y1 d1 r1 ∧ Rs w' 0 y2 d2 r2 ∧ Rs w' 0 y3 d3 rs ∧ Below w.heap.size w w'

theorem silent_at {xq x1 x2 x3 : Option Addr} {cq c1 c2 c3 b3 : Nat} (h : Hd) (qs : List Qn) (r1 r2 r3 rs : List Rn) (w : World) (hr3 : Rs w b3 x3 c3 r3) (l3 : r3.length * 72 ≤ 140737488355328) (hrs : silR r3 = rs) :
    Calls Tryd.prog 17 #[.agg #[.int .i64 h.id, .bool h.an, .int .i64 h.op, .bool h.aa, .bool h.tc, .bool h.rd, .bool h.ra, .bool h.z, .bool h.ad, .bool h.cd, .int .i64 h.code, .slice xq qs.length cq, .slice x1 r1.length c1, .slice x2 r2.length c2, .slice x3 r3.length c3]] w fun e w' => ∃ y d, e = .returned (.agg #[.int .i64 h.id, .bool h.an, .int .i64 h.op, .bool h.aa, .bool h.tc, .bool h.rd, .bool h.ra, .bool h.z, .bool h.ad, .bool h.cd, .int .i64 h.code, .slice xq qs.length cq, .slice x1 r1.length c1, .slice x2 r2.length c2, .slice y rs.length d]) ∧ Rs w' 0 y d rs ∧ Below w.heap.size w w' := by
  subst hrs
  exact silent_any h qs r1 r2 r3 w hr3 l3

theorem telling_at {xq x1 x2 x3 x : Option Addr} {cq c1 c2 c3 c b3 bo : Nat} (wp : World) (h : Hd) (qs : List Qn) (r1 r2 r3 rs : List Rn) (o : Ot) (w : World) (hwp : Below wp.heap.size wp w) (hr3 : Rs wp b3 x3 c3 r3) (hs : Ops w bo x c o.os) (ho : otE o = 0) (l3 : (r3.length + 1) * 72 ≤ 140737488355328) (hrs : silR r3 ++ [otR o] = rs) :
    Calls Tryd.prog 19 #[.agg #[.int .i64 h.id, .bool h.an, .int .i64 h.op, .bool h.aa, .bool h.tc, .bool h.rd, .bool h.ra, .bool h.z, .bool h.ad, .bool h.cd, .int .i64 h.code, .slice xq qs.length cq, .slice x1 r1.length c1, .slice x2 r2.length c2, .slice x3 r3.length c3], .agg #[.int .i64 o.size, .int .i64 o.code, .int .i64 o.ver, .bool o.dO, .int .i64 o.z, .slice x o.os.length c]] w fun e w' => ∃ y d, e = .returned (.agg #[.int .i64 h.id, .bool h.an, .int .i64 h.op, .bool h.aa, .bool h.tc, .bool h.rd, .bool h.ra, .bool h.z, .bool h.ad, .bool h.cd, .int .i64 h.code, .slice xq qs.length cq, .slice x1 r1.length c1, .slice x2 r2.length c2, .slice y rs.length d]) ∧ RRowP w' 0 (fun k => k < wp.heap.size ∨ w.heap.size ≤ k) (.slice y rs.length d) rs ∧ (∀ g, (Value.slice y rs.length d).ownBlock = some g → w.heap.size ≤ g) ∧ Below w.heap.size w w' := by
  subst hrs
  exact telling_own wp h qs r1 r2 r3 o w hwp hr3 hs ho l3

set_option maxHeartbeats 20000000 in
set_option maxRecDepth 100000 in
theorem etells_good {xq x1 x2 x3 xo : Option Addr} {xcq xc1 xc2 xc3 xoc : Nat} (h : Hd) (qs : List Qn) (r1 r2 r3 : List Rn) (o : Ot) (w : World) (hq : Qs w 0 xq xcq qs) (hr1 : Rs w 0 x1 xc1 r1) (hr2 : Rs w 0 x2 xc2 r2) (hr3 : Rs w 0 x3 xc3 r3) (l1 : r1.length * 72 ≤ 140737488355328) (l2 : r2.length * 72 ≤ 140737488355328) (l3 : (r3.length + 1) * 72 ≤ 140737488355328) (hD : ∀ r ∈ r3, r.D.length ≤ 100000000) (hso : Ops w 0 xo xoc o.os) (hg : Glob w) (ho : otE o = 0) :
    Calls Tryd.prog 4 #[.agg #[.int .i64 h.id, .bool h.an, .int .i64 h.op, .bool h.aa, .bool h.tc, .bool h.rd, .bool h.ra, .bool h.z, .bool h.ad, .bool h.cd, .int .i64 h.code, .slice xq qs.length xcq, .slice x1 r1.length xc1, .slice x2 r2.length xc2, .slice x3 r3.length xc3], .agg #[.int .i64 o.size, .int .i64 o.code, .int .i64 o.ver, .bool o.dO, .int .i64 o.z, .slice xo o.os.length xoc]] w fun e w' => e = .returned (.bool true) ∧ Below w.heap.size w w' := by
  obtain ⟨f, fb, k, hf⟩ : ∃ f b k, resN r3 = (f, b, k) := ⟨_, _, _, rfl⟩
  obtain ⟨v, hv⟩ : ∃ v, errV k = v := ⟨_, rfl⟩
  obtain ⟨r4, hr4⟩ : ∃ r4, silR r3 = r4 := ⟨_, rfl⟩
  have N1 : Hid (r4.length ≤ r3.length) := hid (by rw [← hr4]; exact sil_len r3)
  have HF := hid hf
  have HV := hid hv
  have H4 := hid hr4
  have L1 := hid l1
  have L2 := hid l2
  have L3 := hid l3
  have DD := hid hD
  have HO := hid ho
  obtain ⟨rs, hrs⟩ : ∃ rs, silR r3 ++ [otR o] = rs := ⟨_, rfl⟩
  have HRS := hid hrs
  clear hrs
  clear hf hv hr4 l1 l2 l3 hD ho
  obtain ⟨k1, k2, k3⟩ := Bl.two 28 46 w #[.int .i64 h.id, .bool h.an, .int .i64 h.op, .bool h.aa, .bool h.tc, .bool h.rd, .bool h.ra, .bool h.z, .bool h.ad, .bool h.cd, .int .i64 h.code, .slice xq qs.length xcq, .slice x1 r1.length xc1, .slice x2 r2.length xc2, .slice x3 r3.length xc3] #[.int .i64 o.size, .int .i64 o.code, .int .i64 o.ver, .bool o.dO, .int .i64 o.z, .slice xo o.os.length xoc]
  have MM : Hid (MsgB _ w.heap.size h qs r1 r2 r3) := hid ⟨xq, xcq, x1, xc1, x2, xc2, x3, xc3, k1, hq.below k3, hr1.below k3, hr2.below k3, hr3.below k3⟩
  have OO : Hid (OptB _ (w.heap.size + 1) o) := hid ⟨xo, xoc, k2, hso.below k3⟩
  have GG : Hid (Glob _) := hid (hg.below k3)
  have WW : Hid (Below w.heap.size w _) := hid k3
  clear k1 k2 k3 hq hr1 hr2 hr3 hso hg
  go_enter Tryd.func4, Tryd.ntmps4
  go_upto_region 1 with fail
  generalize (w.alloc (.cells #[.int .i64 h.id, .bool h.an, .int .i64 h.op, .bool h.aa, .bool h.tc, .bool h.rd, .bool h.ra, .bool h.z, .bool h.ad, .bool h.cd, .int .i64 h.code, .slice xq qs.length xcq, .slice x1 r1.length xc1, .slice x2 r2.length xc2, .slice x3 r3.length xc3] 28)).alloc (.cells #[.int .i64 o.size, .int .i64 o.code, .int .i64 o.ver, .bool o.dO, .int .i64 o.z, .slice xo o.os.length xoc] 46) = w0 at *
  go_wp2_with fail
  refine (known_any w0).mono ?_
  rintro e w1 ⟨rfl, b1⟩
  replace MM := hid ((MM.out).below b1)
  replace OO := hid ((OO.out).below b1)
  replace GG := hid ((GG.out).below b1)
  replace WW := hid (grown_on WW.out b1)
  clear b1
  go_upto_region 2 with fail
  obtain ⟨yq, ycq, y1, yc1, y2, yc2, y3, yc3, ykb, yh0, yh1, yh2, yh3⟩ := MM.out
  have Ry := hid (Bl.range [.int .i64 h.id, .bool h.an, .int .i64 h.op, .bool h.aa, .bool h.tc, .bool h.rd, .bool h.ra, .bool h.z, .bool h.ad, .bool h.cd, .int .i64 h.code, .slice yq qs.length ycq, .slice y1 r1.length yc1, .slice y2 r2.length yc2, .slice y3 r3.length yc3] ykb)
  clear ykb
  go_wp2_with (first | (refine wpList_load_mid rfl 28 _ rfl w.heap.size 0 rfl [.int .i64 h.id, .bool h.an, .int .i64 h.op, .bool h.aa, .bool h.tc, .bool h.rd, .bool h.ra, .bool h.z, .bool h.ad, .bool h.cd, .int .i64 h.code, .slice yq qs.length ycq, .slice y1 r1.length yc1, .slice y2 r2.length yc2, .slice y3 r3.length yc3] _ Ry.out Tryd.underlying28 rfl size_message ?_) | fail)
  refine (refOf_at h r3 w1 yh3 rfl DD.out f fb k HF.out).mono ?_
  rintro e w2 ⟨fo, foc, rfl, q0, b2⟩
  have FF := hid (OptB.new (w := w2) f q0)
  have ba := (Below.refl w2.heap.size w2).alloc (Nat.le_refl _) (.cells #[.int .i64 f.size, .int .i64 f.code, .int .i64 f.ver, .bool f.dO, .int .i64 f.z, .slice fo f.os.length foc] 46)
  replace MM := hid ((MM.out).below b2)
  replace OO := hid ((OO.out).below b2)
  replace GG := hid ((GG.out).below b2)
  replace WW := hid (grown_on WW.out b2)
  replace MM := hid ((MM.out).below ba)
  replace OO := hid ((OO.out).below ba)
  replace GG := hid ((GG.out).below ba)
  replace WW := hid (grown_on WW.out ba)
  clear b2 ba q0 yh0 yh1 yh2 yh3 Ry
  go_upto_region 3 with fail
  generalize w2.alloc (.cells #[.int .i64 f.size, .int .i64 f.code, .int .i64 f.ver, .bool f.dO, .int .i64 f.z, .slice fo f.os.length foc] 46) = w3 at *
  generalize w2.heap.size = bf at *
  obtain ⟨yq, ycq, y1, yc1, y2, yc2, y3, yc3, ykb, yh0, yh1, yh2, yh3⟩ := MM.out
  have Ry := hid (Bl.range [.int .i64 h.id, .bool h.an, .int .i64 h.op, .bool h.aa, .bool h.tc, .bool h.rd, .bool h.ra, .bool h.z, .bool h.ad, .bool h.cd, .int .i64 h.code, .slice yq qs.length ycq, .slice y1 r1.length yc1, .slice y2 r2.length yc2, .slice y3 r3.length yc3] ykb)
  clear ykb
  go_wp2_with (first | (refine wpList_load_mid rfl 28 _ rfl w.heap.size 0 rfl [.int .i64 h.id, .bool h.an, .int .i64 h.op, .bool h.aa, .bool h.tc, .bool h.rd, .bool h.ra, .bool h.z, .bool h.ad, .bool h.cd, .int .i64 h.code, .slice yq qs.length ycq, .slice y1 r1.length yc1, .slice y2 r2.length yc2, .slice y3 r3.length yc3] _ Ry.out Tryd.underlying28 rfl size_message ?_) | fail)
  refine (efind_at h r3 w3 yh3 (by have := L3.out; omega) DD.out f fb k v HF.out HV.out).mono ?_
  rintro e w4 ⟨go, goc, rfl, q0, b4⟩
  have G2 := hid (OptB.new (w := w4) f q0)
  have ba := (Below.refl w4.heap.size w4).alloc (Nat.le_refl _) (.cells #[.int .i64 f.size, .int .i64 f.code, .int .i64 f.ver, .bool f.dO, .int .i64 f.z, .slice go f.os.length goc] 46)
  replace MM := hid ((MM.out).below b4)
  replace OO := hid ((OO.out).below b4)
  replace GG := hid ((GG.out).below b4)
  replace FF := hid ((FF.out).below b4)
  replace WW := hid (grown_on WW.out b4)
  replace MM := hid ((MM.out).below ba)
  replace OO := hid ((OO.out).below ba)
  replace GG := hid ((GG.out).below ba)
  replace FF := hid ((FF.out).below ba)
  replace WW := hid (grown_on WW.out ba)
  clear b4 ba q0 yh0 yh1 yh2 yh3 Ry
  go_upto_region 4 with fail
  generalize w4.alloc (.cells #[.int .i64 f.size, .int .i64 f.code, .int .i64 f.ver, .bool f.dO, .int .i64 f.z, .slice go f.os.length goc] 46) = w5 at *
  generalize w4.heap.size = bg at *
  go_wp2_with fail
  refine (error_at k k v w5 GG.out HV.out rfl).mono ?_
  rintro e w6 ⟨rfl, b6⟩
  replace MM := hid ((MM.out).below b6)
  replace OO := hid ((OO.out).below b6)
  replace GG := hid ((GG.out).below b6)
  replace FF := hid ((FF.out).below b6)
  replace G2 := hid ((G2.out).below b6)
  replace WW := hid (grown_on WW.out b6)
  clear b6
  go_upto_region 5 with fail
  obtain ⟨u, uc, ukb, uho⟩ := G2.out
  have Ru := hid (Bl.range [.int .i64 f.size, .int .i64 f.code, .int .i64 f.ver, .bool f.dO, .int .i64 f.z, .slice u f.os.length uc] ukb)
  clear ukb
  obtain ⟨t, tc, tkb, tho⟩ := FF.out
  have Rt := hid (Bl.range [.int .i64 f.size, .int .i64 f.code, .int .i64 f.ver, .bool f.dO, .int .i64 f.z, .slice t f.os.length tc] tkb)
  clear tkb
  go_wp2_with (first | (refine wpList_load_mid rfl 46 _ rfl bg 0 rfl [.int .i64 f.size, .int .i64 f.code, .int .i64 f.ver, .bool f.dO, .int .i64 f.z, .slice u f.os.length uc] _ Ru.out Tryd.underlying46 rfl size_opt ?_) | (refine wpList_load_mid rfl 46 _ rfl bf 0 rfl [.int .i64 f.size, .int .i64 f.code, .int .i64 f.ver, .bool f.dO, .int .i64 f.z, .slice t f.os.length tc] _ Rt.out Tryd.underlying46 rfl size_opt ?_) | fail)
  refine (opts_at f w6 uho tho).mono ?_
  rintro e w7 ⟨rfl, b7⟩
  replace MM := hid ((MM.out).below b7)
  replace OO := hid ((OO.out).below b7)
  replace GG := hid ((GG.out).below b7)
  replace FF := hid ((FF.out).below b7)
  replace G2 := hid ((G2.out).below b7)
  replace WW := hid (grown_on WW.out b7)
  clear b7 uho tho Ru Rt
  clear FF G2
  have hbb : (fb != fb) = false := by cases fb <;> rfl
  go_upto_region 8 with fail
  obtain ⟨yq, ycq, y1, yc1, y2, yc2, y3, yc3, ykb, yh0, yh1, yh2, yh3⟩ := MM.out
  have hl1 := fun s' : Olds w7 => load_message (L := [.int .i64 h.id, .bool h.an, .int .i64 h.op, .bool h.aa, .bool h.tc, .bool h.rd, .bool h.ra, .bool h.z, .bool h.ad, .bool h.cd, .int .i64 h.code, .slice yq qs.length ycq, .slice y1 r1.length yc1, .slice y2 r2.length yc2, .slice y3 r3.length yc3]) ykb rfl s'
  have CX : Hid (∀ u, Below w7.heap.size w7 u → Calls Tryd.prog 16 #[.agg #[.int .i64 h.id, .bool h.an, .int .i64 h.op, .bool h.aa, .bool h.tc, .bool h.rd, .bool h.ra, .bool h.z, .bool h.ad, .bool h.cd, .int .i64 h.code, .slice yq qs.length ycq, .slice y1 r1.length yc1, .slice y2 r2.length yc2, .slice y3 r3.length yc3]] u (EDrop h qs r1 r2 r4 u)) := hid (fun u hu => drop_at h qs r1 r2 r3 r4 u (yh0.below hu) (yh1.below hu) (yh2.below hu) (yh3.below hu) L1.out L2.out (by have := L3.out; omega) H4.out)
  have CM : Hid (∀ u, Below w7.heap.size w7 u → Calls Tryd.prog 17 #[.agg #[.int .i64 h.id, .bool h.an, .int .i64 h.op, .bool h.aa, .bool h.tc, .bool h.rd, .bool h.ra, .bool h.z, .bool h.ad, .bool h.cd, .int .i64 h.code, .slice yq qs.length ycq, .slice y1 r1.length yc1, .slice y2 r2.length yc2, .slice y3 r3.length yc3]] u fun e w' => ∃ s d, e = .returned (.agg #[.int .i64 h.id, .bool h.an, .int .i64 h.op, .bool h.aa, .bool h.tc, .bool h.rd, .bool h.ra, .bool h.z, .bool h.ad, .bool h.cd, .int .i64 h.code, .slice yq qs.length ycq, .slice y1 r1.length yc1, .slice y2 r2.length yc2, .slice s r4.length d]) ∧ Rs w' 0 s d r4 ∧ Below u.heap.size u w') := hid (fun u hu => silent_at h qs r1 r2 r3 r4 u (yh3.below hu) (by have := L3.out; omega) H4.out)
  have Y0 := hid yh0
  have Y1 := hid yh1
  have Y2 := hid yh2
  clear yh0 yh1 yh2 yh3 ykb
  refine wp_region_fork [0, 2] (.one 1 (.one 3 (.one 4 (.one 5 .nil)))) (fun u => ∃ s : Olds w7, u = s.val) (by kernel_rfl) (by kernel_rfl) (by kernel_rfl) ⟨⟨w7.drew, (Below.refl _ _).drew⟩, rfl⟩ ?_
  change wpQuiet _ _ _ _ [_, _] _
  refine wpQuiet_load 28 _ rfl _ _ rfl (fun u hu => by obtain ⟨s', rfl⟩ := hu; exact hl1 s') ?_
  refine wpQuiet_load 28 _ rfl _ _ rfl (fun u hu => by obtain ⟨s', rfl⟩ := hu; exact hl1 s') ?_
  refine wpQuiet_nil ?_
  clear hl1
  have HB := (Below.refl w7.heap.size w7).drew
  change stepL _ _ _ _ _ _ _ _ _
  refine stepL_at (by rfl) fun K Q' hK => ?_
  go_simp
  refine (CX.out _ HB).mono ?_
  rintro e w8 ⟨aq, acq, a1, ac1, a2, ac2, a3, ac3, rfl, A0, A1, A2, A3, bu⟩
  replace HB := HB.trans (bu.mono HB.size)
  refine hK _ _ (fun _ => ⟨⟨_, HB⟩, rfl⟩) ?_
  clear hK bu
  change stepL _ _ _ _ _ _ _ _ _
  refine stepL_at (by rfl) fun K Q' hK => ?_
  go_simp
  refine (CM.out _ HB).mono ?_
  rintro e w9 ⟨s3, sc3, rfl, C3, bu⟩
  replace A0 := A0.below bu
  replace A1 := A1.below bu
  replace A2 := A2.below bu
  replace A3 := A3.below bu
  replace HB := HB.trans (bu.mono HB.size)
  refine hK _ _ (fun _ => ⟨⟨_, HB⟩, rfl⟩) ?_
  clear hK bu
  change stepL _ _ _ _ _ _ _ _ _
  refine stepL_at (by rfl) fun K Q' hK => ?_
  go_simp
  refine (smsg_at h qs r1 r2 r4 _ A0 A1 A2 A3 (Y0.out.below HB) (Y1.out.below HB) (Y2.out.below HB) C3).mono ?_
  rintro e w10 ⟨rfl, bu⟩
  replace HB := HB.trans (bu.mono HB.size)
  refine hK _ _ (fun _ => ⟨⟨_, HB⟩, rfl⟩) ?_
  clear hK bu A0 A1 A2 A3 C3
  change stepL _ _ _ _ _ _ _ _ _
  refine stepL_at (by rfl) fun K Q' hK => ?_
  go_simp
  refine hK _ _ (fun _ => ⟨⟨_, HB⟩, rfl⟩) ?_
  clear hK
  refine treeL_nil ?_
  clear CX CM Y0 Y1 Y2
  replace MM := hid ((MM.out).below HB)
  replace OO := hid ((OO.out).below HB)
  replace GG := hid ((GG.out).below HB)
  replace WW := hid (grown_on WW.out HB)
  clear HB
  go_upto_region 9 with fail
  obtain ⟨u, uc, ukb, uho⟩ := OO.out
  have Ru := hid (Bl.range [.int .i64 o.size, .int .i64 o.code, .int .i64 o.ver, .bool o.dO, .int .i64 o.z, .slice u o.os.length uc] ukb)
  clear ukb
  go_wp2_with (first | (refine wpList_load_mid rfl 46 _ rfl (w.heap.size + 1) 0 rfl [.int .i64 o.size, .int .i64 o.code, .int .i64 o.ver, .bool o.dO, .int .i64 o.z, .slice u o.os.length uc] _ Ru.out Tryd.underlying46 rfl size_opt ?_) | fail)
  refine (optFault_any o w10 uho).mono ?_
  rintro e w11 ⟨rfl, b11⟩
  rw [HO.out]
  replace MM := hid ((MM.out).below b11)
  replace OO := hid ((OO.out).below b11)
  replace GG := hid ((GG.out).below b11)
  replace WW := hid (grown_on WW.out b11)
  clear b11 uho Ru
  obtain ⟨yq, ycq, y1, yc1, y2, yc2, y3, yc3, ykb, yh0, yh1, yh2, yh3⟩ := MM.out
  obtain ⟨u, uc, ukb, uho⟩ := OO.out
  have MK := hid ykb
  have OB := hid ukb
  have Y0 := hid yh0
  have Y1 := hid yh1
  have Y2 := hid yh2
  have Y3 := hid yh3
  have UH := hid uho
  clear ykb ukb yh0 yh1 yh2 yh3 uho MM OO
  have NN := hid (Bl.new 28 w11 #[.int .i64 0, .bool false, .int .i64 0, .bool false, .bool false, .bool false, .bool false, .bool false, .bool false, .bool false, .int .i64 0, .slice none 0 0, .slice none 0 0, .slice none 0 0, .slice none 0 0])
  have BB := hid ((Below.refl w11.heap.size w11).alloc (Nat.le_refl _) (.cells #[.int .i64 0, .bool false, .int .i64 0, .bool false, .bool false, .bool false, .bool false, .bool false, .bool false, .bool false, .int .i64 0, .slice none 0 0, .slice none 0 0, .slice none 0 0, .slice none 0 0] 28))
  have HS := hid (show (w11.alloc (.cells #[.int .i64 0, .bool false, .int .i64 0, .bool false, .bool false, .bool false, .bool false, .bool false, .bool false, .bool false, .int .i64 0, .slice none 0 0, .slice none 0 0, .slice none 0 0, .slice none 0 0] 28)).heap.size = w11.heap.size + 1 by simp)
  go_upto_region 11 with fail
  generalize w11.alloc (.cells #[.int .i64 0, .bool false, .int .i64 0, .bool false, .bool false, .bool false, .bool false, .bool false, .bool false, .bool false, .int .i64 0, .slice none 0 0, .slice none 0 0, .slice none 0 0, .slice none 0 0] 28) = w12 at *
  go_upto_region 12 with fail
  have Ry := hid (Bl.range [.int .i64 h.id, .bool h.an, .int .i64 h.op, .bool h.aa, .bool h.tc, .bool h.rd, .bool h.ra, .bool h.z, .bool h.ad, .bool h.cd, .int .i64 h.code, .slice yq qs.length ycq, .slice y1 r1.length yc1, .slice y2 r2.length yc2, .slice y3 r3.length yc3] (MK.out.below BB.out))
  have Ru := hid (Bl.range [.int .i64 o.size, .int .i64 o.code, .int .i64 o.ver, .bool o.dO, .int .i64 o.z, .slice u o.os.length uc] (OB.out.below BB.out))
  go_wp2_with (first | (refine wpList_load_mid rfl 28 _ rfl w.heap.size 0 rfl [.int .i64 h.id, .bool h.an, .int .i64 h.op, .bool h.aa, .bool h.tc, .bool h.rd, .bool h.ra, .bool h.z, .bool h.ad, .bool h.cd, .int .i64 h.code, .slice yq qs.length ycq, .slice y1 r1.length yc1, .slice y2 r2.length yc2, .slice y3 r3.length yc3] _ Ry.out Tryd.underlying28 rfl size_message ?_) | (refine wpList_load_mid rfl 46 _ rfl (w.heap.size + 1) 0 rfl [.int .i64 o.size, .int .i64 o.code, .int .i64 o.ver, .bool o.dO, .int .i64 o.z, .slice u o.os.length uc] _ Ru.out Tryd.underlying46 rfl size_opt ?_) | fail)
  refine (telling_at w11 h qs r1 r2 r3 rs o w12 BB.out Y3.out (UH.out.below BB.out) HO.out L3.out HRS.out).mono ?_
  rintro e w13 ⟨s3, sc3, rfl, q3, qo, b13⟩
  have N2 := hid (NN.out.below b13)
  have B13 := hid (grown_on BB.out b13)
  dsimp only
  first | go_step | go_upon | go_back
  refine wpList_store_row rfl 28 (.tmp 15) (.tmp 62) rfl w11.heap.size #[.int .i64 h.id, .bool h.an, .int .i64 h.op, .bool h.aa, .bool h.tc, .bool h.rd, .bool h.ra, .bool h.z, .bool h.ad, .bool h.cd, .int .i64 h.code, .slice yq qs.length ycq, .slice y1 r1.length yc1, .slice y2 r2.length yc2, .slice s3 rs.length sc3] rfl rfl 28 #[.int .i64 0, .bool false, .int .i64 0, .bool false, .bool false, .bool false, .bool false, .bool false, .bool false, .bool false, .int .i64 0, .slice none 0 0, .slice none 0 0, .slice none 0 0, .slice none 0 0] N2.out size_message rfl (by simp [Value.oneCell']) ?_
  go_upto_region 13 with fail
  have X4 := hid (N2.out.rowSet #[.int .i64 h.id, .bool h.an, .int .i64 h.op, .bool h.aa, .bool h.tc, .bool h.rd, .bool h.ra, .bool h.z, .bool h.ad, .bool h.cd, .int .i64 h.code, .slice yq qs.length ycq, .slice y1 r1.length yc1, .slice y2 r2.length yc2, .slice s3 rs.length sc3])
  have B4 := hid (below_setRow B13.out (Nat.le_refl _) #[.int .i64 h.id, .bool h.an, .int .i64 h.op, .bool h.aa, .bool h.tc, .bool h.rd, .bool h.ra, .bool h.z, .bool h.ad, .bool h.cd, .int .i64 h.code, .slice yq qs.length ycq, .slice y1 r1.length yc1, .slice y2 r2.length yc2, .slice s3 rs.length sc3])
  have Q3 := hid (rrow_rs (q3.kept (grown_row w13 w11.heap.size #[.int .i64 h.id, .bool h.an, .int .i64 h.op, .bool h.aa, .bool h.tc, .bool h.rd, .bool h.ra, .bool h.z, .bool h.ad, .bool h.cd, .int .i64 h.code, .slice yq qs.length ycq, .slice y1 r1.length yc1, .slice y2 r2.length yc2, .slice s3 rs.length sc3]) (by have := HS.out; omega) (fun q => by have := qo _ q; have := HS.out; omega)).toR (by rw [← HRS.out, List.length_append, List.length_singleton]; have := L3.out; have := sil_len r3; omega))
  clear Ry Ru b13 q3 qo B13 N2 NN BB
  generalize w13.setRow w11.heap.size #[.int .i64 h.id, .bool h.an, .int .i64 h.op, .bool h.aa, .bool h.tc, .bool h.rd, .bool h.ra, .bool h.z, .bool h.ad, .bool h.cd, .int .i64 h.code, .slice yq qs.length ycq, .slice y1 r1.length yc1, .slice y2 r2.length yc2, .slice s3 rs.length sc3] = w14 at *
  have BB := B4
  clear B4
  have Ry := hid (Bl.range [.int .i64 h.id, .bool h.an, .int .i64 h.op, .bool h.aa, .bool h.tc, .bool h.rd, .bool h.ra, .bool h.z, .bool h.ad, .bool h.cd, .int .i64 h.code, .slice yq qs.length ycq, .slice y1 r1.length yc1, .slice y2 r2.length yc2, .slice y3 r3.length yc3] (MK.out.below BB.out))
  have Ru := hid (Bl.range [.int .i64 o.size, .int .i64 o.code, .int .i64 o.ver, .bool o.dO, .int .i64 o.z, .slice u o.os.length uc] (OB.out.below BB.out))
  go_wp2_with (first | (refine wpList_load_mid rfl 28 _ rfl w.heap.size 0 rfl [.int .i64 h.id, .bool h.an, .int .i64 h.op, .bool h.aa, .bool h.tc, .bool h.rd, .bool h.ra, .bool h.z, .bool h.ad, .bool h.cd, .int .i64 h.code, .slice yq qs.length ycq, .slice y1 r1.length yc1, .slice y2 r2.length yc2, .slice y3 r3.length yc3] _ Ry.out Tryd.underlying28 rfl size_message ?_) | (refine wpList_load_mid rfl 46 _ rfl (w.heap.size + 1) 0 rfl [.int .i64 o.size, .int .i64 o.code, .int .i64 o.ver, .bool o.dO, .int .i64 o.z, .slice u o.os.length uc] _ Ru.out Tryd.underlying46 rfl size_opt ?_) | fail)
  refine (set_put h qs r1 r2 r3 rs o w14 (Y0.out.below BB.out) (Y1.out.below BB.out) (Y2.out.below BB.out) (Y3.out.below BB.out) L1.out L2.out L3.out (UH.out.below BB.out) HO.out HRS.out).mono ?_
  rintro e w15 ⟨tq, tcq, t1, tc1, t2, tc2, t3, tc3, rfl, q0, q1, q2, q3, bu⟩
  have ba := (Below.refl w15.heap.size w15).alloc (Nat.le_refl _) (.cells #[.int .i64 h.id, .bool h.an, .int .i64 h.op, .bool h.aa, .bool h.tc, .bool h.rd, .bool h.ra, .bool h.z, .bool h.ad, .bool h.cd, .int .i64 h.code, .slice tq qs.length tcq, .slice t1 r1.length tc1, .slice t2 r2.length tc2, .slice t3 rs.length tc3] 28)
  have TB := hid (Bl.new 28 w15 #[.int .i64 h.id, .bool h.an, .int .i64 h.op, .bool h.aa, .bool h.tc, .bool h.rd, .bool h.ra, .bool h.z, .bool h.ad, .bool h.cd, .int .i64 h.code, .slice tq qs.length tcq, .slice t1 r1.length tc1, .slice t2 r2.length tc2, .slice t3 rs.length tc3])
  have T0 := hid (q0.below ba)
  have T1 := hid (q1.below ba)
  have T2 := hid (q2.below ba)
  have T3 := hid (q3.below ba)
  replace X4 := hid ((X4.out.below bu).below ba)
  replace Q3 := hid ((Q3.out.below bu).below ba)
  replace BB := hid (grown_on (grown_on BB.out bu) ba)
  clear bu ba q0 q1 q2 q3 Ry Ru
  go_upto_region 14 with fail
  generalize w15.alloc (.cells #[.int .i64 h.id, .bool h.an, .int .i64 h.op, .bool h.aa, .bool h.tc, .bool h.rd, .bool h.ra, .bool h.z, .bool h.ad, .bool h.cd, .int .i64 h.code, .slice tq qs.length tcq, .slice t1 r1.length tc1, .slice t2 r2.length tc2, .slice t3 rs.length tc3] 28) = w16 at *
  generalize w15.heap.size = bt at *
  go_wp2_with fail
  refine (error_at 0 0 _ w16 (GG.out.below BB.out) rfl rfl).mono ?_
  rintro e w17 ⟨rfl, b⟩
  replace X4 := hid (X4.out.below b)
  replace Q3 := hid (Q3.out.below b)
  replace TB := hid (TB.out.below b)
  replace T0 := hid (T0.out.below b)
  replace T1 := hid (T1.out.below b)
  replace T2 := hid (T2.out.below b)
  replace T3 := hid (T3.out.below b)
  replace BB := hid (grown_on BB.out b)
  clear b
  go_upto_region 15 with fail
  have Rt := hid (Bl.range [.int .i64 h.id, .bool h.an, .int .i64 h.op, .bool h.aa, .bool h.tc, .bool h.rd, .bool h.ra, .bool h.z, .bool h.ad, .bool h.cd, .int .i64 h.code, .slice tq qs.length tcq, .slice t1 r1.length tc1, .slice t2 r2.length tc2, .slice t3 rs.length tc3] TB.out)
  have Rx := hid (Bl.range [.int .i64 h.id, .bool h.an, .int .i64 h.op, .bool h.aa, .bool h.tc, .bool h.rd, .bool h.ra, .bool h.z, .bool h.ad, .bool h.cd, .int .i64 h.code, .slice yq qs.length ycq, .slice y1 r1.length yc1, .slice y2 r2.length yc2, .slice s3 rs.length sc3] X4.out)
  go_wp2_with (first | (refine wpList_load_mid rfl 28 _ rfl bt 0 rfl [.int .i64 h.id, .bool h.an, .int .i64 h.op, .bool h.aa, .bool h.tc, .bool h.rd, .bool h.ra, .bool h.z, .bool h.ad, .bool h.cd, .int .i64 h.code, .slice tq qs.length tcq, .slice t1 r1.length tc1, .slice t2 r2.length tc2, .slice t3 rs.length tc3] _ Rt.out Tryd.underlying28 rfl size_message ?_) | (refine wpList_load_mid rfl 28 _ rfl w11.heap.size 0 rfl [.int .i64 h.id, .bool h.an, .int .i64 h.op, .bool h.aa, .bool h.tc, .bool h.rd, .bool h.ra, .bool h.z, .bool h.ad, .bool h.cd, .int .i64 h.code, .slice yq qs.length ycq, .slice y1 r1.length yc1, .slice y2 r2.length yc2, .slice s3 rs.length sc3] _ Rx.out Tryd.underlying28 rfl size_message ?_) | fail)
  refine (smsg_at h qs r1 r2 rs w17 T0.out T1.out T2.out T3.out (Y0.out.below BB.out) (Y1.out.below BB.out) (Y2.out.below BB.out) Q3.out).mono ?_
  rintro e w18 ⟨rfl, b⟩
  replace BB := hid (grown_on BB.out b)
  clear b Rt Rx
  go_wp2_with fail
  go_ret
  exact ⟨rfl, grown_on WW.out BB.out⟩

set_option maxHeartbeats 20000000 in
set_option maxRecDepth 100000 in
theorem etells_bad {xq x1 x2 x3 xo : Option Addr} {xcq xc1 xc2 xc3 xoc : Nat} (h : Hd) (qs : List Qn) (r1 r2 r3 : List Rn) (o : Ot) (w : World) (hq : Qs w 0 xq xcq qs) (hr1 : Rs w 0 x1 xc1 r1) (hr2 : Rs w 0 x2 xc2 r2) (hr3 : Rs w 0 x3 xc3 r3) (l1 : r1.length * 72 ≤ 140737488355328) (l2 : r2.length * 72 ≤ 140737488355328) (l3 : (r3.length + 1) * 72 ≤ 140737488355328) (hD : ∀ r ∈ r3, r.D.length ≤ 100000000) (hso : Ops w 0 xo xoc o.os) (hg : Glob w) (k0 : Int) (hk0 : otE o = k0) (h00 : ¬ k0 = 0) :
    Calls Tryd.prog 4 #[.agg #[.int .i64 h.id, .bool h.an, .int .i64 h.op, .bool h.aa, .bool h.tc, .bool h.rd, .bool h.ra, .bool h.z, .bool h.ad, .bool h.cd, .int .i64 h.code, .slice xq qs.length xcq, .slice x1 r1.length xc1, .slice x2 r2.length xc2, .slice x3 r3.length xc3], .agg #[.int .i64 o.size, .int .i64 o.code, .int .i64 o.ver, .bool o.dO, .int .i64 o.z, .slice xo o.os.length xoc]] w fun e w' => e = .returned (.bool true) ∧ Below w.heap.size w w' := by
  obtain ⟨f, fb, k, hf⟩ : ∃ f b k, resN r3 = (f, b, k) := ⟨_, _, _, rfl⟩
  obtain ⟨v, hv⟩ : ∃ v, errV k = v := ⟨_, rfl⟩
  obtain ⟨r4, hr4⟩ : ∃ r4, silR r3 = r4 := ⟨_, rfl⟩
  have N1 : Hid (r4.length ≤ r3.length) := hid (by rw [← hr4]; exact sil_len r3)
  have HF := hid hf
  have HV := hid hv
  have H4 := hid hr4
  have L1 := hid l1
  have L2 := hid l2
  have L3 := hid l3
  have DD := hid hD
  have HK0 := hid hk0
  have H00 := hid h00
  clear hf hv hr4 l1 l2 l3 hD hk0 h00
  obtain ⟨k1, k2, k3⟩ := Bl.two 28 46 w #[.int .i64 h.id, .bool h.an, .int .i64 h.op, .bool h.aa, .bool h.tc, .bool h.rd, .bool h.ra, .bool h.z, .bool h.ad, .bool h.cd, .int .i64 h.code, .slice xq qs.length xcq, .slice x1 r1.length xc1, .slice x2 r2.length xc2, .slice x3 r3.length xc3] #[.int .i64 o.size, .int .i64 o.code, .int .i64 o.ver, .bool o.dO, .int .i64 o.z, .slice xo o.os.length xoc]
  have MM : Hid (MsgB _ w.heap.size h qs r1 r2 r3) := hid ⟨xq, xcq, x1, xc1, x2, xc2, x3, xc3, k1, hq.below k3, hr1.below k3, hr2.below k3, hr3.below k3⟩
  have OO : Hid (OptB _ (w.heap.size + 1) o) := hid ⟨xo, xoc, k2, hso.below k3⟩
  have GG : Hid (Glob _) := hid (hg.below k3)
  have WW : Hid (Below w.heap.size w _) := hid k3
  clear k1 k2 k3 hq hr1 hr2 hr3 hso hg
  go_enter Tryd.func4, Tryd.ntmps4
  go_upto_region 1 with fail
  generalize (w.alloc (.cells #[.int .i64 h.id, .bool h.an, .int .i64 h.op, .bool h.aa, .bool h.tc, .bool h.rd, .bool h.ra, .bool h.z, .bool h.ad, .bool h.cd, .int .i64 h.code, .slice xq qs.length xcq, .slice x1 r1.length xc1, .slice x2 r2.length xc2, .slice x3 r3.length xc3] 28)).alloc (.cells #[.int .i64 o.size, .int .i64 o.code, .int .i64 o.ver, .bool o.dO, .int .i64 o.z, .slice xo o.os.length xoc] 46) = w0 at *
  go_wp2_with fail
  refine (known_any w0).mono ?_
  rintro e w1 ⟨rfl, b1⟩
  replace MM := hid ((MM.out).below b1)
  replace OO := hid ((OO.out).below b1)
  replace GG := hid ((GG.out).below b1)
  replace WW := hid (grown_on WW.out b1)
  clear b1
  go_upto_region 2 with fail
  obtain ⟨yq, ycq, y1, yc1, y2, yc2, y3, yc3, ykb, yh0, yh1, yh2, yh3⟩ := MM.out
  have Ry := hid (Bl.range [.int .i64 h.id, .bool h.an, .int .i64 h.op, .bool h.aa, .bool h.tc, .bool h.rd, .bool h.ra, .bool h.z, .bool h.ad, .bool h.cd, .int .i64 h.code, .slice yq qs.length ycq, .slice y1 r1.length yc1, .slice y2 r2.length yc2, .slice y3 r3.length yc3] ykb)
  clear ykb
  go_wp2_with (first | (refine wpList_load_mid rfl 28 _ rfl w.heap.size 0 rfl [.int .i64 h.id, .bool h.an, .int .i64 h.op, .bool h.aa, .bool h.tc, .bool h.rd, .bool h.ra, .bool h.z, .bool h.ad, .bool h.cd, .int .i64 h.code, .slice yq qs.length ycq, .slice y1 r1.length yc1, .slice y2 r2.length yc2, .slice y3 r3.length yc3] _ Ry.out Tryd.underlying28 rfl size_message ?_) | fail)
  refine (refOf_at h r3 w1 yh3 rfl DD.out f fb k HF.out).mono ?_
  rintro e w2 ⟨fo, foc, rfl, q0, b2⟩
  have FF := hid (OptB.new (w := w2) f q0)
  have ba := (Below.refl w2.heap.size w2).alloc (Nat.le_refl _) (.cells #[.int .i64 f.size, .int .i64 f.code, .int .i64 f.ver, .bool f.dO, .int .i64 f.z, .slice fo f.os.length foc] 46)
  replace MM := hid ((MM.out).below b2)
  replace OO := hid ((OO.out).below b2)
  replace GG := hid ((GG.out).below b2)
  replace WW := hid (grown_on WW.out b2)
  replace MM := hid ((MM.out).below ba)
  replace OO := hid ((OO.out).below ba)
  replace GG := hid ((GG.out).below ba)
  replace WW := hid (grown_on WW.out ba)
  clear b2 ba q0 yh0 yh1 yh2 yh3 Ry
  go_upto_region 3 with fail
  generalize w2.alloc (.cells #[.int .i64 f.size, .int .i64 f.code, .int .i64 f.ver, .bool f.dO, .int .i64 f.z, .slice fo f.os.length foc] 46) = w3 at *
  generalize w2.heap.size = bf at *
  obtain ⟨yq, ycq, y1, yc1, y2, yc2, y3, yc3, ykb, yh0, yh1, yh2, yh3⟩ := MM.out
  have Ry := hid (Bl.range [.int .i64 h.id, .bool h.an, .int .i64 h.op, .bool h.aa, .bool h.tc, .bool h.rd, .bool h.ra, .bool h.z, .bool h.ad, .bool h.cd, .int .i64 h.code, .slice yq qs.length ycq, .slice y1 r1.length yc1, .slice y2 r2.length yc2, .slice y3 r3.length yc3] ykb)
  clear ykb
  go_wp2_with (first | (refine wpList_load_mid rfl 28 _ rfl w.heap.size 0 rfl [.int .i64 h.id, .bool h.an, .int .i64 h.op, .bool h.aa, .bool h.tc, .bool h.rd, .bool h.ra, .bool h.z, .bool h.ad, .bool h.cd, .int .i64 h.code, .slice yq qs.length ycq, .slice y1 r1.length yc1, .slice y2 r2.length yc2, .slice y3 r3.length yc3] _ Ry.out Tryd.underlying28 rfl size_message ?_) | fail)
  refine (efind_at h r3 w3 yh3 (by have := L3.out; omega) DD.out f fb k v HF.out HV.out).mono ?_
  rintro e w4 ⟨go, goc, rfl, q0, b4⟩
  have G2 := hid (OptB.new (w := w4) f q0)
  have ba := (Below.refl w4.heap.size w4).alloc (Nat.le_refl _) (.cells #[.int .i64 f.size, .int .i64 f.code, .int .i64 f.ver, .bool f.dO, .int .i64 f.z, .slice go f.os.length goc] 46)
  replace MM := hid ((MM.out).below b4)
  replace OO := hid ((OO.out).below b4)
  replace GG := hid ((GG.out).below b4)
  replace FF := hid ((FF.out).below b4)
  replace WW := hid (grown_on WW.out b4)
  replace MM := hid ((MM.out).below ba)
  replace OO := hid ((OO.out).below ba)
  replace GG := hid ((GG.out).below ba)
  replace FF := hid ((FF.out).below ba)
  replace WW := hid (grown_on WW.out ba)
  clear b4 ba q0 yh0 yh1 yh2 yh3 Ry
  go_upto_region 4 with fail
  generalize w4.alloc (.cells #[.int .i64 f.size, .int .i64 f.code, .int .i64 f.ver, .bool f.dO, .int .i64 f.z, .slice go f.os.length goc] 46) = w5 at *
  generalize w4.heap.size = bg at *
  go_wp2_with fail
  refine (error_at k k v w5 GG.out HV.out rfl).mono ?_
  rintro e w6 ⟨rfl, b6⟩
  replace MM := hid ((MM.out).below b6)
  replace OO := hid ((OO.out).below b6)
  replace GG := hid ((GG.out).below b6)
  replace FF := hid ((FF.out).below b6)
  replace G2 := hid ((G2.out).below b6)
  replace WW := hid (grown_on WW.out b6)
  clear b6
  go_upto_region 5 with fail
  obtain ⟨u, uc, ukb, uho⟩ := G2.out
  have Ru := hid (Bl.range [.int .i64 f.size, .int .i64 f.code, .int .i64 f.ver, .bool f.dO, .int .i64 f.z, .slice u f.os.length uc] ukb)
  clear ukb
  obtain ⟨t, tc, tkb, tho⟩ := FF.out
  have Rt := hid (Bl.range [.int .i64 f.size, .int .i64 f.code, .int .i64 f.ver, .bool f.dO, .int .i64 f.z, .slice t f.os.length tc] tkb)
  clear tkb
  go_wp2_with (first | (refine wpList_load_mid rfl 46 _ rfl bg 0 rfl [.int .i64 f.size, .int .i64 f.code, .int .i64 f.ver, .bool f.dO, .int .i64 f.z, .slice u f.os.length uc] _ Ru.out Tryd.underlying46 rfl size_opt ?_) | (refine wpList_load_mid rfl 46 _ rfl bf 0 rfl [.int .i64 f.size, .int .i64 f.code, .int .i64 f.ver, .bool f.dO, .int .i64 f.z, .slice t f.os.length tc] _ Rt.out Tryd.underlying46 rfl size_opt ?_) | fail)
  refine (opts_at f w6 uho tho).mono ?_
  rintro e w7 ⟨rfl, b7⟩
  replace MM := hid ((MM.out).below b7)
  replace OO := hid ((OO.out).below b7)
  replace GG := hid ((GG.out).below b7)
  replace FF := hid ((FF.out).below b7)
  replace G2 := hid ((G2.out).below b7)
  replace WW := hid (grown_on WW.out b7)
  clear b7 uho tho Ru Rt
  clear FF G2
  have hbb : (fb != fb) = false := by cases fb <;> rfl
  go_upto_region 8 with fail
  obtain ⟨yq, ycq, y1, yc1, y2, yc2, y3, yc3, ykb, yh0, yh1, yh2, yh3⟩ := MM.out
  have hl1 := fun s' : Olds w7 => load_message (L := [.int .i64 h.id, .bool h.an, .int .i64 h.op, .bool h.aa, .bool h.tc, .bool h.rd, .bool h.ra, .bool h.z, .bool h.ad, .bool h.cd, .int .i64 h.code, .slice yq qs.length ycq, .slice y1 r1.length yc1, .slice y2 r2.length yc2, .slice y3 r3.length yc3]) ykb rfl s'
  have CX : Hid (∀ u, Below w7.heap.size w7 u → Calls Tryd.prog 16 #[.agg #[.int .i64 h.id, .bool h.an, .int .i64 h.op, .bool h.aa, .bool h.tc, .bool h.rd, .bool h.ra, .bool h.z, .bool h.ad, .bool h.cd, .int .i64 h.code, .slice yq qs.length ycq, .slice y1 r1.length yc1, .slice y2 r2.length yc2, .slice y3 r3.length yc3]] u (EDrop h qs r1 r2 r4 u)) := hid (fun u hu => drop_at h qs r1 r2 r3 r4 u (yh0.below hu) (yh1.below hu) (yh2.below hu) (yh3.below hu) L1.out L2.out (by have := L3.out; omega) H4.out)
  have CM : Hid (∀ u, Below w7.heap.size w7 u → Calls Tryd.prog 17 #[.agg #[.int .i64 h.id, .bool h.an, .int .i64 h.op, .bool h.aa, .bool h.tc, .bool h.rd, .bool h.ra, .bool h.z, .bool h.ad, .bool h.cd, .int .i64 h.code, .slice yq qs.length ycq, .slice y1 r1.length yc1, .slice y2 r2.length yc2, .slice y3 r3.length yc3]] u fun e w' => ∃ s d, e = .returned (.agg #[.int .i64 h.id, .bool h.an, .int .i64 h.op, .bool h.aa, .bool h.tc, .bool h.rd, .bool h.ra, .bool h.z, .bool h.ad, .bool h.cd, .int .i64 h.code, .slice yq qs.length ycq, .slice y1 r1.length yc1, .slice y2 r2.length yc2, .slice s r4.length d]) ∧ Rs w' 0 s d r4 ∧ Below u.heap.size u w') := hid (fun u hu => silent_at h qs r1 r2 r3 r4 u (yh3.below hu) (by have := L3.out; omega) H4.out)
  have Y0 := hid yh0
  have Y1 := hid yh1
  have Y2 := hid yh2
  clear yh0 yh1 yh2 yh3 ykb
  refine wp_region_fork [0, 2] (.one 1 (.one 3 (.one 4 (.one 5 .nil)))) (fun u => ∃ s : Olds w7, u = s.val) (by kernel_rfl) (by kernel_rfl) (by kernel_rfl) ⟨⟨w7.drew, (Below.refl _ _).drew⟩, rfl⟩ ?_
  change wpQuiet _ _ _ _ [_, _] _
  refine wpQuiet_load 28 _ rfl _ _ rfl (fun u hu => by obtain ⟨s', rfl⟩ := hu; exact hl1 s') ?_
  refine wpQuiet_load 28 _ rfl _ _ rfl (fun u hu => by obtain ⟨s', rfl⟩ := hu; exact hl1 s') ?_
  refine wpQuiet_nil ?_
  clear hl1
  have HB := (Below.refl w7.heap.size w7).drew
  change stepL _ _ _ _ _ _ _ _ _
  refine stepL_at (by rfl) fun K Q' hK => ?_
  go_simp
  refine (CX.out _ HB).mono ?_
  rintro e w8 ⟨aq, acq, a1, ac1, a2, ac2, a3, ac3, rfl, A0, A1, A2, A3, bu⟩
  replace HB := HB.trans (bu.mono HB.size)
  refine hK _ _ (fun _ => ⟨⟨_, HB⟩, rfl⟩) ?_
  clear hK bu
  change stepL _ _ _ _ _ _ _ _ _
  refine stepL_at (by rfl) fun K Q' hK => ?_
  go_simp
  refine (CM.out _ HB).mono ?_
  rintro e w9 ⟨s3, sc3, rfl, C3, bu⟩
  replace A0 := A0.below bu
  replace A1 := A1.below bu
  replace A2 := A2.below bu
  replace A3 := A3.below bu
  replace HB := HB.trans (bu.mono HB.size)
  refine hK _ _ (fun _ => ⟨⟨_, HB⟩, rfl⟩) ?_
  clear hK bu
  change stepL _ _ _ _ _ _ _ _ _
  refine stepL_at (by rfl) fun K Q' hK => ?_
  go_simp
  refine (smsg_at h qs r1 r2 r4 _ A0 A1 A2 A3 (Y0.out.below HB) (Y1.out.below HB) (Y2.out.below HB) C3).mono ?_
  rintro e w10 ⟨rfl, bu⟩
  replace HB := HB.trans (bu.mono HB.size)
  refine hK _ _ (fun _ => ⟨⟨_, HB⟩, rfl⟩) ?_
  clear hK bu A0 A1 A2 A3 C3
  change stepL _ _ _ _ _ _ _ _ _
  refine stepL_at (by rfl) fun K Q' hK => ?_
  go_simp
  refine hK _ _ (fun _ => ⟨⟨_, HB⟩, rfl⟩) ?_
  clear hK
  refine treeL_nil ?_
  clear CX CM Y0 Y1 Y2
  replace MM := hid ((MM.out).below HB)
  replace OO := hid ((OO.out).below HB)
  replace GG := hid ((GG.out).below HB)
  replace WW := hid (grown_on WW.out HB)
  clear HB
  go_upto_region 9 with fail
  obtain ⟨u, uc, ukb, uho⟩ := OO.out
  have Ru := hid (Bl.range [.int .i64 o.size, .int .i64 o.code, .int .i64 o.ver, .bool o.dO, .int .i64 o.z, .slice u o.os.length uc] ukb)
  clear ukb
  go_wp2_with (first | (refine wpList_load_mid rfl 46 _ rfl (w.heap.size + 1) 0 rfl [.int .i64 o.size, .int .i64 o.code, .int .i64 o.ver, .bool o.dO, .int .i64 o.z, .slice u o.os.length uc] _ Ru.out Tryd.underlying46 rfl size_opt ?_) | fail)
  refine (optFault_any o w10 uho).mono ?_
  rintro e w11 ⟨rfl, b11⟩
  rw [HK0.out]
  replace MM := hid ((MM.out).below b11)
  replace OO := hid ((OO.out).below b11)
  replace GG := hid ((GG.out).below b11)
  replace WW := hid (grown_on WW.out b11)
  clear b11 uho Ru
  obtain ⟨yq, ycq, y1, yc1, y2, yc2, y3, yc3, ykb, yh0, yh1, yh2, yh3⟩ := MM.out
  obtain ⟨u, uc, ukb, uho⟩ := OO.out
  have MK := hid ykb
  have OB := hid ukb
  have Y0 := hid yh0
  have Y1 := hid yh1
  have Y2 := hid yh2
  have Y3 := hid yh3
  have UH := hid uho
  clear ykb ukb yh0 yh1 yh2 yh3 uho MM OO
  have NN := hid (Bl.new 28 w11 #[.int .i64 0, .bool false, .int .i64 0, .bool false, .bool false, .bool false, .bool false, .bool false, .bool false, .bool false, .int .i64 0, .slice none 0 0, .slice none 0 0, .slice none 0 0, .slice none 0 0])
  have BB := hid ((Below.refl w11.heap.size w11).alloc (Nat.le_refl _) (.cells #[.int .i64 0, .bool false, .int .i64 0, .bool false, .bool false, .bool false, .bool false, .bool false, .bool false, .bool false, .int .i64 0, .slice none 0 0, .slice none 0 0, .slice none 0 0, .slice none 0 0] 28))
  have HS := hid (show (w11.alloc (.cells #[.int .i64 0, .bool false, .int .i64 0, .bool false, .bool false, .bool false, .bool false, .bool false, .bool false, .bool false, .int .i64 0, .slice none 0 0, .slice none 0 0, .slice none 0 0, .slice none 0 0] 28)).heap.size = w11.heap.size + 1 by simp)
  go_upto_region 11 with fail
  generalize w11.alloc (.cells #[.int .i64 0, .bool false, .int .i64 0, .bool false, .bool false, .bool false, .bool false, .bool false, .bool false, .bool false, .int .i64 0, .slice none 0 0, .slice none 0 0, .slice none 0 0, .slice none 0 0] 28) = w12 at *
  have hk : (k0 == 0) = false := by simpa using H00.out
  go_upto_region 13 with fail
  have Ry := hid (Bl.range [.int .i64 h.id, .bool h.an, .int .i64 h.op, .bool h.aa, .bool h.tc, .bool h.rd, .bool h.ra, .bool h.z, .bool h.ad, .bool h.cd, .int .i64 h.code, .slice yq qs.length ycq, .slice y1 r1.length yc1, .slice y2 r2.length yc2, .slice y3 r3.length yc3] (MK.out.below BB.out))
  have Ru := hid (Bl.range [.int .i64 o.size, .int .i64 o.code, .int .i64 o.ver, .bool o.dO, .int .i64 o.z, .slice u o.os.length uc] (OB.out.below BB.out))
  go_wp2_with (first | (refine wpList_load_mid rfl 28 _ rfl w.heap.size 0 rfl [.int .i64 h.id, .bool h.an, .int .i64 h.op, .bool h.aa, .bool h.tc, .bool h.rd, .bool h.ra, .bool h.z, .bool h.ad, .bool h.cd, .int .i64 h.code, .slice yq qs.length ycq, .slice y1 r1.length yc1, .slice y2 r2.length yc2, .slice y3 r3.length yc3] _ Ry.out Tryd.underlying28 rfl size_message ?_) | (refine wpList_load_mid rfl 46 _ rfl (w.heap.size + 1) 0 rfl [.int .i64 o.size, .int .i64 o.code, .int .i64 o.ver, .bool o.dO, .int .i64 o.z, .slice u o.os.length uc] _ Ru.out Tryd.underlying46 rfl size_opt ?_) | fail)
  refine (set_bad k0 h o w12 (UH.out.below BB.out) HK0.out H00.out).mono ?_
  rintro e w13 ⟨rfl, bu⟩
  have ba := (Below.refl w13.heap.size w13).alloc (Nat.le_refl _) (.cells #[.int .i64 0, .bool false, .int .i64 0, .bool false, .bool false, .bool false, .bool false, .bool false, .bool false, .bool false, .int .i64 0, .slice none 0 0, .slice none 0 0, .slice none 0 0, .slice none 0 0] 28)
  have TB := hid (Bl.new 28 w13 #[.int .i64 0, .bool false, .int .i64 0, .bool false, .bool false, .bool false, .bool false, .bool false, .bool false, .bool false, .int .i64 0, .slice none 0 0, .slice none 0 0, .slice none 0 0, .slice none 0 0])
  have X4 := hid ((NN.out.below bu).below ba)
  replace BB := hid (grown_on (grown_on BB.out bu) ba)
  clear bu ba Ry Ru NN
  go_upto_region 14 with fail
  generalize w13.alloc (.cells #[.int .i64 0, .bool false, .int .i64 0, .bool false, .bool false, .bool false, .bool false, .bool false, .bool false, .bool false, .int .i64 0, .slice none 0 0, .slice none 0 0, .slice none 0 0, .slice none 0 0] 28) = w16 at *
  generalize w13.heap.size = bt at *
  go_wp2_with fail
  refine (error_at k0 k0 _ w16 (GG.out.below BB.out) (errV_some H00.out) rfl).mono ?_
  rintro e w17 ⟨rfl, b⟩
  replace X4 := hid (X4.out.below b)
  replace TB := hid (TB.out.below b)
  replace BB := hid (grown_on BB.out b)
  clear b
  go_upto_region 15 with fail
  have Rt := hid (Bl.range [.int .i64 0, .bool false, .int .i64 0, .bool false, .bool false, .bool false, .bool false, .bool false, .bool false, .bool false, .int .i64 0, .slice none 0 0, .slice none 0 0, .slice none 0 0, .slice none 0 0] TB.out)
  have Rx := hid (Bl.range [.int .i64 0, .bool false, .int .i64 0, .bool false, .bool false, .bool false, .bool false, .bool false, .bool false, .bool false, .int .i64 0, .slice none 0 0, .slice none 0 0, .slice none 0 0, .slice none 0 0] X4.out)
  go_wp2_with (first | (refine wpList_load_mid rfl 28 _ rfl bt 0 rfl [.int .i64 0, .bool false, .int .i64 0, .bool false, .bool false, .bool false, .bool false, .bool false, .bool false, .bool false, .int .i64 0, .slice none 0 0, .slice none 0 0, .slice none 0 0, .slice none 0 0] _ Rt.out Tryd.underlying28 rfl size_message ?_) | (refine wpList_load_mid rfl 28 _ rfl w11.heap.size 0 rfl [.int .i64 0, .bool false, .int .i64 0, .bool false, .bool false, .bool false, .bool false, .bool false, .bool false, .bool false, .int .i64 0, .slice none 0 0, .slice none 0 0, .slice none 0 0, .slice none 0 0] _ Rx.out Tryd.underlying28 rfl size_message ?_) | fail)
  refine (smsg_at ⟨0, false, 0, false, false, false, false, false, false, false, 0⟩ [] [] [] [] w17 (Qs.nil _ 0 _ _) (Rs.nil _ 0 _ _) (Rs.nil _ 0 _ _) (Rs.nil _ 0 _ _) (Qs.nil _ 0 _ _) (Rs.nil _ 0 _ _) (Rs.nil _ 0 _ _) (Rs.nil _ 0 _ _)).mono ?_
  rintro e w18 ⟨rfl, b⟩
  replace BB := hid (grown_on BB.out b)
  clear b Rt Rx
  go_wp2_with fail
  go_ret
  exact ⟨rfl, grown_on WW.out BB.out⟩

theorem etells_walk {xq x1 x2 x3 xo : Option Addr} {xcq xc1 xc2 xc3 xoc : Nat} (h : Hd) (qs : List Qn) (r1 r2 r3 : List Rn) (o : Ot) (w : World) (hq : Qs w 0 xq xcq qs) (hr1 : Rs w 0 x1 xc1 r1) (hr2 : Rs w 0 x2 xc2 r2) (hr3 : Rs w 0 x3 xc3 r3) (l1 : r1.length * 72 ≤ 140737488355328) (l2 : r2.length * 72 ≤ 140737488355328) (l3 : (r3.length + 1) * 72 ≤ 140737488355328) (hD : ∀ r ∈ r3, r.D.length ≤ 100000000) (hso : Ops w 0 xo xoc o.os) (hg : Glob w) :
    Calls Tryd.prog 4 #[.agg #[.int .i64 h.id, .bool h.an, .int .i64 h.op, .bool h.aa, .bool h.tc, .bool h.rd, .bool h.ra, .bool h.z, .bool h.ad, .bool h.cd, .int .i64 h.code, .slice xq qs.length xcq, .slice x1 r1.length xc1, .slice x2 r2.length xc2, .slice x3 r3.length xc3], .agg #[.int .i64 o.size, .int .i64 o.code, .int .i64 o.ver, .bool o.dO, .int .i64 o.z, .slice xo o.os.length xoc]] w fun e w' => e = .returned (.bool true) ∧ Below w.heap.size w w' := by
  by_cases ho : otE o = 0
  · exact etells_good h qs r1 r2 r3 o w hq hr1 hr2 hr3 l1 l2 l3 hD hso hg ho
  · exact etells_bad h qs r1 r2 r3 o w hq hr1 hr2 hr3 l1 l2 l3 hD hso hg _ rfl ho

end Go.Proofs.YtbbgabdiikdjpaaDoor
