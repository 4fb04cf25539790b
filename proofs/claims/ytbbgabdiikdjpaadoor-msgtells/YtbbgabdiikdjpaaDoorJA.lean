/-
  The walk of Record of package pointsmansame at two records that are the same: true; it writes nothing that was there. The walks of Records and Message of package pointsmansame at lists, and messages, that are the same: true; they write nothing that was there. The walks of the law's own opts (at two that are the same) and told. A message's and an option's cells, read at once. The walks of the document's own answer on headers: HeadFault, one, HeadBytes, bit, HeadOf. Rows of a message that is being read by the document's own answer: questions, records whose data lies in older bytes; what stands of them. The walk of MessageOf of package pointsmanref1. Written by genmo.py.
-/
import Derived.Test.YtbbgabdiikdjpaaDoorRr
import Derived.Test.YtbbgabdiikdjpaaDoorMgWrite
import Derived.Deep.RegionHeld3
import Derived.BigQuiet
import Derived.Test.YtbbgabdiikdjpaaDoorJC
import Derived.Test.YtbbgabdiikdjpaaDoorJH
import Derived.Deep.MidRow
import Derived.Deep.Cut
import Derived.Test.YtbbgabdiikdjpaaDoorHeadFacts
import Derived.Test.YtbbgabdiikdjpaaDoorLast
import Derived.Test.YtbbgabdiikdjpaaDoorMgRead
import Derived.Deep.CutRange
namespace Go.Proofs.YtbbgabdiikdjpaaDoor
open Go.RowKit Go.Deep

set_option maxHeartbeats 1000000 in
set_option maxRecDepth 100000 in
theorem srecord_at {ya yb ua ub : Option Addr} {da db ca cb la lb ma mb : Nat} (n : List ByteArray) (D : List Int) (ty cl ttl : Int) (w : World) (ha : Strs w ya da n) (hb : Strs w yb db n) (hc : Bys w ua ca D) (hd : Bys w ub cb D)
    (hla : n.length = la) (hlb : n.length = lb) (hma : D.length = ma) (hmb : D.length = mb) :
    Calls Tryd.prog 58 #[.agg #[.slice ya la da, .int .i64 ty, .int .i64 cl, .int .i64 ttl, .slice ua ma ca], .agg #[.slice yb lb db, .int .i64 ty, .int .i64 cl, .int .i64 ttl, .slice ub mb cb]] w fun e w' => e = .returned (.bool true) ∧ Below w.heap.size w w' := by
  go_enter Tryd.func58, Tryd.ntmps58
  go_wp2_with fail
  have B0 : Below w.heap.size w _ := ((Below.refl _ w).alloc (Nat.le_refl _) (.cells #[.slice ya la da, .int .i64 ty, .int .i64 cl, .int .i64 ttl, .slice ua ma ca] 67)).alloc (by simp) (.cells #[.slice yb lb db, .int .i64 ty, .int .i64 cl, .int .i64 ttl, .slice ub mb cb] 67)
  have KA := (Bl.new 67 w #[.slice ya la da, .int .i64 ty, .int .i64 cl, .int .i64 ttl, .slice ua ma ca]).below ((Below.refl _ _).alloc (Nat.le_refl _) (.cells #[.slice yb lb db, .int .i64 ty, .int .i64 cl, .int .i64 ttl, .slice ub mb cb] 67))
  have KB := Bl.new 67 (w.alloc (.cells #[.slice ya la da, .int .i64 ty, .int .i64 cl, .int .i64 ttl, .slice ua ma ca] 67)) #[.slice yb lb db, .int .i64 ty, .int .i64 cl, .int .i64 ttl, .slice ub mb cb]
  have hs0 : (w.alloc (.cells #[.slice ya la da, .int .i64 ty, .int .i64 cl, .int .i64 ttl, .slice ua ma ca] 67)).heap.size = w.heap.size + 1 := by simp
  rw [hs0] at KB
  clear hs0
  refine (texts_here true n n _ (ha.below B0) (hb.below B0) hla hlb (by simp)).mono ?_
  rintro e w1 ⟨rfl, b1⟩
  have B1 := grown_on B0 b1
  have KA1 := KA.below b1
  have KB1 := KB.below b1
  clear B0 KA KB b1
  have a1 : w1.cell? ⟨w.heap.size, 1, none⟩ = some (.int .i64 ty) := KA1.cell (i := 1) rfl
  have a2 : w1.cell? ⟨w.heap.size, 2, none⟩ = some (.int .i64 cl) := KA1.cell (i := 2) rfl
  have a3 : w1.cell? ⟨w.heap.size, 3, none⟩ = some (.int .i64 ttl) := KA1.cell (i := 3) rfl
  have a4 : w1.cell? ⟨w.heap.size, 4, none⟩ = some (.slice ua ma ca) := KA1.cell (i := 4) rfl
  have e1 : w1.cell? ⟨w.heap.size + 1, 1, none⟩ = some (.int .i64 ty) := KB1.cell (i := 1) rfl
  have e2 : w1.cell? ⟨w.heap.size + 1, 2, none⟩ = some (.int .i64 cl) := KB1.cell (i := 2) rfl
  have e3 : w1.cell? ⟨w.heap.size + 1, 3, none⟩ = some (.int .i64 ttl) := KB1.cell (i := 3) rfl
  have e4 : w1.cell? ⟨w.heap.size + 1, 4, none⟩ = some (.slice ub mb cb) := KB1.cell (i := 4) rfl
  go_wp2_with fail
  refine (bytes_at true D D _ (hc.below B1) (hd.below B1) hma hmb (by simp)).mono ?_
  rintro e w2 ⟨rfl, b2⟩
  have B2 := grown_on B1 b2
  have KA2 := KA1.below b2
  have KB2 := KB1.below b2
  clear B1 KA1 KB1 b2 a1 a2 a3 a4 e1 e2 e3 e4
  have a1 : w2.cell? ⟨w.heap.size, 1, none⟩ = some (.int .i64 ty) := KA2.cell (i := 1) rfl
  have a2 : w2.cell? ⟨w.heap.size, 2, none⟩ = some (.int .i64 cl) := KA2.cell (i := 2) rfl
  have a3 : w2.cell? ⟨w.heap.size, 3, none⟩ = some (.int .i64 ttl) := KA2.cell (i := 3) rfl
  have e1 : w2.cell? ⟨w.heap.size + 1, 1, none⟩ = some (.int .i64 ty) := KB2.cell (i := 1) rfl
  have e2 : w2.cell? ⟨w.heap.size + 1, 2, none⟩ = some (.int .i64 cl) := KB2.cell (i := 2) rfl
  have e3 : w2.cell? ⟨w.heap.size + 1, 3, none⟩ = some (.int .i64 ttl) := KB2.cell (i := 3) rfl
  clear KA2 KB2
  go_wp2_with fail
  go_ret
  exact ⟨rfl, B2⟩

end Go.Proofs.YtbbgabdiikdjpaaDoor

namespace Go.Proofs.YtbbgabdiikdjpaaDoor
open Go.RowKit Go.Deep

set_option maxHeartbeats 2000000 in
set_option maxRecDepth 100000 in
theorem srecords_at {xa xb : Option Addr} {ca cb la lb Ba Bb : Nat} (rs : List Rn) (w : World) (ha : Rs w Ba xa ca rs) (hb : Rs w Bb xb cb rs) (hla : rs.length = la) (hlb : rs.length = lb) :
    Calls Tryd.prog 34 #[.slice xa la ca, .slice xb lb cb] w fun e w' => e = .returned (.bool true) ∧ Below w.heap.size w w' := by
  subst hla hlb
  have hlen := ha.2.1
  go_enter Tryd.func34, Tryd.ntmps34
  go_wp2_with fail
  go_loopw [5] (fun vi wr => ∃ i : Nat, i ≤ rs.length ∧ vi = .int .i64 (i : Int) ∧ Below w.heap.size w wr) (fun i _ => rs.length - (intOf i).toNat)
  case atStart => exact ⟨0, Nat.zero_le _, rfl, Below.refl _ _⟩
  case round =>
    obtain ⟨i, hi, rfl, hbel⟩ := hrel
    by_cases ci : i < rs.length
    · obtain ⟨b1, o1, y, s, z, t, rfl, hb1, e0, e1, e2, e3, e4, g1, g2, _⟩ := (ha.below hbel).at ci
      obtain ⟨b2, o2, y2, s2, z2, t2, rfl, hb2, f0, f1, f2, f3, f4, g3, g4, _⟩ := (hb.below hbel).at ci
      generalize rs[i] = r at *
      have G1 := hid g1
      have G2 := hid g2
      have G3 := hid g3
      have G4 := hid g4
      have HB := hid hbel
      have ci2 : (i : Int) < (rs.length : Int) := by omega
      clear g1 g2 g3 g4 hbel ha hb
      go_wp2_with fail
      have CR : Hid (∀ u, Below wr.heap.size wr u → Calls Tryd.prog 58 #[.agg #[.slice y r.N.length s, .int .i64 r.ty, .int .i64 r.cl, .int .i64 r.ttl, .slice z r.D.length t], .agg #[.slice y2 r.N.length s2, .int .i64 r.ty, .int .i64 r.cl, .int .i64 r.ttl, .slice z2 r.D.length t2]] u fun e u' => e = .returned (.bool true) ∧ Below u.heap.size u u') := hid (fun u hu => srecord_at r.N r.D r.ty r.cl r.ttl u (G1.out.below hu) (G3.out.below hu) (G2.out.below hu) (G4.out.below hu) rfl rfl rfl rfl)
      have PK : Hid (∀ u, Below wr.heap.size wr u → u.cell? ⟨b1, o1 + i * 5, none⟩ = some (.slice y r.N.length s) ∧ u.cell? ⟨b1, o1 + i * 5 + 1, none⟩ = some (.int .i64 r.ty) ∧ u.cell? ⟨b1, o1 + i * 5 + 2, none⟩ = some (.int .i64 r.cl) ∧ u.cell? ⟨b1, o1 + i * 5 + 3, none⟩ = some (.int .i64 r.ttl) ∧ u.cell? ⟨b1, o1 + i * 5 + 4, none⟩ = some (.slice z r.D.length t) ∧ u.cell? ⟨b2, o2 + i * 5, none⟩ = some (.slice y2 r.N.length s2) ∧ u.cell? ⟨b2, o2 + i * 5 + 1, none⟩ = some (.int .i64 r.ty) ∧ u.cell? ⟨b2, o2 + i * 5 + 2, none⟩ = some (.int .i64 r.cl) ∧ u.cell? ⟨b2, o2 + i * 5 + 3, none⟩ = some (.int .i64 r.ttl) ∧ u.cell? ⟨b2, o2 + i * 5 + 4, none⟩ = some (.slice z2 r.D.length t2) ∧ Below wr.heap.size wr u) := hid (fun u hu => ⟨(hu.cell (p := ⟨b1, o1 + i * 5, none⟩) hb1).trans e0, (hu.cell (p := ⟨b1, o1 + i * 5 + 1, none⟩) hb1).trans e1, (hu.cell (p := ⟨b1, o1 + i * 5 + 2, none⟩) hb1).trans e2, (hu.cell (p := ⟨b1, o1 + i * 5 + 3, none⟩) hb1).trans e3, (hu.cell (p := ⟨b1, o1 + i * 5 + 4, none⟩) hb1).trans e4, (hu.cell (p := ⟨b2, o2 + i * 5, none⟩) hb2).trans f0, (hu.cell (p := ⟨b2, o2 + i * 5 + 1, none⟩) hb2).trans f1, (hu.cell (p := ⟨b2, o2 + i * 5 + 2, none⟩) hb2).trans f2, (hu.cell (p := ⟨b2, o2 + i * 5 + 3, none⟩) hb2).trans f3, (hu.cell (p := ⟨b2, o2 + i * 5 + 4, none⟩) hb2).trans f4, hu⟩)
      go_region_held3 (fun u => u.cell? ⟨b1, o1 + i * 5, none⟩ = some (.slice y r.N.length s) ∧ u.cell? ⟨b1, o1 + i * 5 + 1, none⟩ = some (.int .i64 r.ty) ∧ u.cell? ⟨b1, o1 + i * 5 + 2, none⟩ = some (.int .i64 r.cl) ∧ u.cell? ⟨b1, o1 + i * 5 + 3, none⟩ = some (.int .i64 r.ttl) ∧ u.cell? ⟨b1, o1 + i * 5 + 4, none⟩ = some (.slice z r.D.length t) ∧ u.cell? ⟨b2, o2 + i * 5, none⟩ = some (.slice y2 r.N.length s2) ∧ u.cell? ⟨b2, o2 + i * 5 + 1, none⟩ = some (.int .i64 r.ty) ∧ u.cell? ⟨b2, o2 + i * 5 + 2, none⟩ = some (.int .i64 r.cl) ∧ u.cell? ⟨b2, o2 + i * 5 + 3, none⟩ = some (.int .i64 r.ttl) ∧ u.cell? ⟨b2, o2 + i * 5 + 4, none⟩ = some (.slice z2 r.D.length t2) ∧ Below wr.heap.size wr u) (with_reducible (first | assumption | exact PK.out _ (Below.drew (Below.refl _ _)) | exact PK.out _ HB3))
        (first
          | (go_at_call 58; refine (CR.out _ (Below.drew (Below.refl _ _))).mono ?_; rintro e w3 ⟨rfl, b3⟩; have HB3 : Below wr.heap.size wr w3 := grown_on (Below.drew (Below.refl _ _)) b3))
      have B5 := hid (grown_on HB.out HB3)
      clear b3 HB3 CR PK e0 e1 e2 e3 e4 f0 f1 f2 f3 f4 HB
      go_wp2_with fail
      exact ⟨⟨i + 1, by omega, by go_num, B5.out⟩, by simp [intOf]; omega⟩
    · have ci2 : ¬ (i : Int) < (rs.length : Int) := by omega
      go_wp2_with fail
      go_ret
      exact ⟨rfl, hbel⟩

set_option maxHeartbeats 4000000 in
set_option maxRecDepth 100000 in
theorem smsg_at {xq x1 x2 x3 yq y1 y2 y3 : Option Addr} {cq c1 c2 c3 dq d1 d2 d3 Ba Bb : Nat} (h : Hd) (qs : List Qn) (r1 r2 r3 : List Rn) (w : World) (hq : Qs w Ba xq cq qs) (hr1 : Rs w Ba x1 c1 r1) (hr2 : Rs w Ba x2 c2 r2) (hr3 : Rs w Ba x3 c3 r3) (hp : Qs w Bb yq dq qs) (hs1 : Rs w Bb y1 d1 r1) (hs2 : Rs w Bb y2 d2 r2) (hs3 : Rs w Bb y3 d3 r3) :
    Calls Tryd.prog 8 #[.agg #[.int .i64 h.id, .bool h.an, .int .i64 h.op, .bool h.aa, .bool h.tc, .bool h.rd, .bool h.ra, .bool h.z, .bool h.ad, .bool h.cd, .int .i64 h.code, .slice xq qs.length cq, .slice x1 r1.length c1, .slice x2 r2.length c2, .slice x3 r3.length c3], .agg #[.int .i64 h.id, .bool h.an, .int .i64 h.op, .bool h.aa, .bool h.tc, .bool h.rd, .bool h.ra, .bool h.z, .bool h.ad, .bool h.cd, .int .i64 h.code, .slice yq qs.length dq, .slice y1 r1.length d1, .slice y2 r2.length d2, .slice y3 r3.length d3]] w fun e w' => e = .returned (.bool true) ∧ Below w.heap.size w w' := by
  have hlen := hq.2.1
  go_enter Tryd.func8, Tryd.ntmps8
  go_wp2_with fail
  have B0 : Below w.heap.size w ((w.alloc (.cells #[.int .i64 h.id, .bool h.an, .int .i64 h.op, .bool h.aa, .bool h.tc, .bool h.rd, .bool h.ra, .bool h.z, .bool h.ad, .bool h.cd, .int .i64 h.code, .slice xq qs.length cq, .slice x1 r1.length c1, .slice x2 r2.length c2, .slice x3 r3.length c3] 28)).alloc (.cells #[.int .i64 h.id, .bool h.an, .int .i64 h.op, .bool h.aa, .bool h.tc, .bool h.rd, .bool h.ra, .bool h.z, .bool h.ad, .bool h.cd, .int .i64 h.code, .slice yq qs.length dq, .slice y1 r1.length d1, .slice y2 r2.length d2, .slice y3 r3.length d3] 28)) := ((Below.refl _ w).alloc (Nat.le_refl _) _).alloc (by simp) _
  have KA := (Bl.new 28 w #[.int .i64 h.id, .bool h.an, .int .i64 h.op, .bool h.aa, .bool h.tc, .bool h.rd, .bool h.ra, .bool h.z, .bool h.ad, .bool h.cd, .int .i64 h.code, .slice xq qs.length cq, .slice x1 r1.length c1, .slice x2 r2.length c2, .slice x3 r3.length c3]).below ((Below.refl _ _).alloc (Nat.le_refl _) (.cells #[.int .i64 h.id, .bool h.an, .int .i64 h.op, .bool h.aa, .bool h.tc, .bool h.rd, .bool h.ra, .bool h.z, .bool h.ad, .bool h.cd, .int .i64 h.code, .slice yq qs.length dq, .slice y1 r1.length d1, .slice y2 r2.length d2, .slice y3 r3.length d3] 28))
  have KB := Bl.new2 28 w (.cells #[.int .i64 h.id, .bool h.an, .int .i64 h.op, .bool h.aa, .bool h.tc, .bool h.rd, .bool h.ra, .bool h.z, .bool h.ad, .bool h.cd, .int .i64 h.code, .slice xq qs.length cq, .slice x1 r1.length c1, .slice x2 r2.length c2, .slice x3 r3.length c3] 28) #[.int .i64 h.id, .bool h.an, .int .i64 h.op, .bool h.aa, .bool h.tc, .bool h.rd, .bool h.ra, .bool h.z, .bool h.ad, .bool h.cd, .int .i64 h.code, .slice yq qs.length dq, .slice y1 r1.length d1, .slice y2 r2.length d2, .slice y3 r3.length d3]
  go_loopw [5] (fun vi wr => ∃ i : Nat, i ≤ qs.length ∧ vi = .int .i64 (i : Int) ∧ Below w.heap.size w wr ∧ Bl 28 wr w.heap.size #[.int .i64 h.id, .bool h.an, .int .i64 h.op, .bool h.aa, .bool h.tc, .bool h.rd, .bool h.ra, .bool h.z, .bool h.ad, .bool h.cd, .int .i64 h.code, .slice xq qs.length cq, .slice x1 r1.length c1, .slice x2 r2.length c2, .slice x3 r3.length c3] ∧ Bl 28 wr (w.heap.size + 1) #[.int .i64 h.id, .bool h.an, .int .i64 h.op, .bool h.aa, .bool h.tc, .bool h.rd, .bool h.ra, .bool h.z, .bool h.ad, .bool h.cd, .int .i64 h.code, .slice yq qs.length dq, .slice y1 r1.length d1, .slice y2 r2.length d2, .slice y3 r3.length d3]) (fun i _ => qs.length - (intOf i).toNat)
  case atStart => exact ⟨0, Nat.zero_le _, rfl, B0, KA, KB⟩
  case round =>
    clear B0 KA KB
    obtain ⟨i, hi, rfl, hbel, ka, kb⟩ := hrel
    have a11 := ka.cell (i := 11) rfl
    have b11 := kb.cell (i := 11) rfl
    have hla := ka.lt
    have hlb := kb.lt
    have KA := hid ka
    have KB := hid kb
    have HB := hid hbel
    by_cases ci : i < qs.length
    · obtain ⟨b1, o1, y, s, rfl, hb1, e0, e1, e2, g1⟩ := (hq.below hbel).at ci
      obtain ⟨b2, o2, z, t, rfl, hb2, f0, f1, f2, g2⟩ := (hp.below hbel).at ci
      generalize qs[i] = q at *
      have G1 := hid g1
      have G2 := hid g2
      have ci2 : (i : Int) < (qs.length : Int) := by omega
      have E1 := hid e1
      have E2 := hid e2
      have F1 := hid f1
      have F2 := hid f2
      clear g1 g2 hbel ka kb hq hp e1 e2 f1 f2
      go_wp2_with fail
      have CR : Hid (∀ u, Below wr.heap.size wr u → Calls Tryd.prog 33 #[.slice y q.N.length s, .slice z q.N.length t] u fun e u' => e = .returned (.bool true) ∧ Below u.heap.size u u') := hid (fun u hu => texts_here true q.N q.N u (G1.out.below hu) (G2.out.below hu) rfl rfl (by simp))
      have PK : Hid (∀ u, Below wr.heap.size wr u → u.cell? ⟨w.heap.size, 11, none⟩ = some (.slice (some ⟨b1, o1, none⟩) qs.length cq) ∧ u.cell? ⟨w.heap.size + 1, 11, none⟩ = some (.slice (some ⟨b2, o2, none⟩) qs.length dq) ∧ u.cell? ⟨b1, o1 + i * 3, none⟩ = some (.slice y q.N.length s) ∧ u.cell? ⟨b2, o2 + i * 3, none⟩ = some (.slice z q.N.length t) ∧ Below wr.heap.size wr u) := hid (fun u hu => ⟨(hu.cell (p := ⟨w.heap.size, 11, none⟩) hla).trans a11, (hu.cell (p := ⟨w.heap.size + 1, 11, none⟩) hlb).trans b11, (hu.cell (p := ⟨b1, o1 + i * 3, none⟩) hb1).trans e0, (hu.cell (p := ⟨b2, o2 + i * 3, none⟩) hb2).trans f0, hu⟩)
      go_region_held3 (fun u => u.cell? ⟨w.heap.size, 11, none⟩ = some (.slice (some ⟨b1, o1, none⟩) qs.length cq) ∧ u.cell? ⟨w.heap.size + 1, 11, none⟩ = some (.slice (some ⟨b2, o2, none⟩) qs.length dq) ∧ u.cell? ⟨b1, o1 + i * 3, none⟩ = some (.slice y q.N.length s) ∧ u.cell? ⟨b2, o2 + i * 3, none⟩ = some (.slice z q.N.length t) ∧ Below wr.heap.size wr u) (with_reducible (first | assumption | exact PK.out _ (Below.drew (Below.refl _ _)) | exact PK.out _ HB3))
        (first
          | (go_at_call 33; refine (CR.out _ (Below.drew (Below.refl _ _))).mono ?_; rintro e w3 ⟨rfl, b3⟩; have HB3 : Below wr.heap.size wr w3 := grown_on (Below.drew (Below.refl _ _)) b3))
      have B5 := hid (grown_on HB.out HB3)
      have KA5 := hid (KA.out.below HB3)
      have KB5 := hid (KB.out.below HB3)
      obtain ⟨m1, m2, _, _, _⟩ := PK.out w3 HB3
      have n1 := (HB3.cell (p := ⟨b1, o1 + i * 3 + 1, none⟩) hb1).trans E1.out
      have n2 := (HB3.cell (p := ⟨b1, o1 + i * 3 + 2, none⟩) hb1).trans E2.out
      have n3 := (HB3.cell (p := ⟨b2, o2 + i * 3 + 1, none⟩) hb2).trans F1.out
      have n4 := (HB3.cell (p := ⟨b2, o2 + i * 3 + 2, none⟩) hb2).trans F2.out
      clear b3 HB3 CR PK e0 f0 a11 b11 HB KA KB E1 E2 F1 F2
      go_wp2_with fail
      go_quiet (fail)
      have BD : Below w3.heap.size w3 (w3.drewN nq) := ((Drawn.refl _).more nq).below _
      have B6 := hid (grown_on B5.out BD)
      have KA6 := hid (KA5.out.below BD)
      have KB6 := hid (KB5.out.below BD)
      clear m1 m2 n1 n2 n3 n4 BD
      go_wp2_with fail
      exact ⟨⟨i + 1, by omega, by go_num, B6.out, KA6.out, KB6.out⟩, by simp [intOf]; omega⟩
    · have ci2 : ¬ (i : Int) < (qs.length : Int) := by omega
      have a12 := ka.cell (i := 12) rfl
      have b12 := kb.cell (i := 12) rfl
      clear hbel ka kb
      go_wp2_with fail
      refine (srecords_at r1 _ (hr1.below HB.out) (hs1.below HB.out) rfl rfl).mono ?_
      rintro e w4 ⟨rfl, b4⟩
      have a13 : w4.cell? ⟨w.heap.size, 13, none⟩ = _ := (KA.out.below b4).cell (i := 13) rfl
      have b13 : w4.cell? ⟨w.heap.size + 1, 13, none⟩ = _ := (KB.out.below b4).cell (i := 13) rfl
      have HB4 := hid (grown_on HB.out b4)
      have KA4 := hid (KA.out.below b4)
      have KB4 := hid (KB.out.below b4)
      clear b4 a11 b11 a12 b12 HB KA KB
      go_wp2_with fail
      refine (srecords_at r2 _ (hr2.below HB4.out) (hs2.below HB4.out) rfl rfl).mono ?_
      rintro e w5 ⟨rfl, b5⟩
      have a14 : w5.cell? ⟨w.heap.size, 14, none⟩ = _ := (KA4.out.below b5).cell (i := 14) rfl
      have b14 : w5.cell? ⟨w.heap.size + 1, 14, none⟩ = _ := (KB4.out.below b5).cell (i := 14) rfl
      have HB5 := hid (grown_on HB4.out b5)
      clear b5 a13 b13 HB4 KA4 KB4
      go_wp2_with fail
      refine (srecords_at r3 _ (hr3.below HB5.out) (hs3.below HB5.out) rfl rfl).mono ?_
      rintro e w6 ⟨rfl, b6⟩
      have HB6 := hid (grown_on HB5.out b6)
      clear b6 a14 b14 HB5
      go_wp2_with fail
      go_ret
      exact ⟨rfl, HB6.out⟩

end Go.Proofs.YtbbgabdiikdjpaaDoor

namespace Go.Proofs.YtbbgabdiikdjpaaDoor
open Go.RowKit Go.Deep

set_option maxHeartbeats 4000000 in
set_option maxRecDepth 100000 in
theorem opts_at {x y : Option Addr} {c d Ba Bb : Nat} (o : Ot) (w : World) (ha : Ops w Ba x c o.os) (hb : Ops w Bb y d o.os) :
    Calls Tryd.prog 15 #[.agg #[.int .i64 o.size, .int .i64 o.code, .int .i64 o.ver, .bool o.dO, .int .i64 o.z, .slice x o.os.length c], .agg #[.int .i64 o.size, .int .i64 o.code, .int .i64 o.ver, .bool o.dO, .int .i64 o.z, .slice y o.os.length d]] w fun e w' => e = .returned (.bool true) ∧ Below w.heap.size w w' := by
  have hlen := ha.2.1
  obtain ⟨k1, k2, k3⟩ := Bl.two 46 46 w #[.int .i64 o.size, .int .i64 o.code, .int .i64 o.ver, .bool o.dO, .int .i64 o.z, .slice x o.os.length c] #[.int .i64 o.size, .int .i64 o.code, .int .i64 o.ver, .bool o.dO, .int .i64 o.z, .slice y o.os.length d]
  have K3 := hid k3
  have K1 := hid k1
  have K2 := hid k2
  have a0 := k1.cell (i := 0) rfl
  have a1 := k1.cell (i := 1) rfl
  have a2 := k1.cell (i := 2) rfl
  have a3 := k1.cell (i := 3) rfl
  have a4 := k1.cell (i := 4) rfl
  have a5 := k1.cell (i := 5) rfl
  have b0 := k2.cell (i := 0) rfl
  have b1 := k2.cell (i := 1) rfl
  have b2 := k2.cell (i := 2) rfl
  have b3 := k2.cell (i := 3) rfl
  have b4 := k2.cell (i := 4) rfl
  have b5 := k2.cell (i := 5) rfl
  clear k1 k2 k3
  go_enter Tryd.func15, Tryd.ntmps15
  go_upto_region 1 with fail
  generalize (w.alloc (.cells #[.int .i64 o.size, .int .i64 o.code, .int .i64 o.ver, .bool o.dO, .int .i64 o.z, .slice x o.os.length c] 46)).alloc (.cells #[.int .i64 o.size, .int .i64 o.code, .int .i64 o.ver, .bool o.dO, .int .i64 o.z, .slice y o.os.length d] 46) = W0 at *
  go_wp2_with fail
  clear a0 a1 a2 a3 a4 a5 b0 b1 b2 b3 b4 b5
  go_loopw [5] (fun vi wr => ∃ i : Nat, i ≤ o.os.length ∧ vi = .int .i64 (i : Int) ∧ Below w.heap.size w wr ∧ Bl 46 wr w.heap.size #[.int .i64 o.size, .int .i64 o.code, .int .i64 o.ver, .bool o.dO, .int .i64 o.z, .slice x o.os.length c] ∧ Bl 46 wr (w.heap.size + 1) #[.int .i64 o.size, .int .i64 o.code, .int .i64 o.ver, .bool o.dO, .int .i64 o.z, .slice y o.os.length d]) (fun i _ => o.os.length - (intOf i).toNat)
  case atStart => exact ⟨0, Nat.zero_le _, rfl, K3.out, K1.out, K2.out⟩
  case round =>
    clear K1 K2 K3
    obtain ⟨i, hi, rfl, hbel, ka, kb⟩ := hrel
    have a5 := ka.cell (i := 5) rfl
    have b5 := kb.cell (i := 5) rfl
    have hla := ka.lt
    have hlb := kb.lt
    have KA := hid ka
    have KB := hid kb
    have HB := hid hbel
    by_cases ci : i < o.os.length
    · obtain ⟨b1, o1, z, t, rfl, hb1, e0, e1, g1, _⟩ := (ha.below hbel).at ci
      obtain ⟨b2, o2, z2, t2, rfl, hb2, f0, f1, g2, _⟩ := (hb.below hbel).at ci
      generalize o.os[i] = r at *
      have G1 := hid g1
      have G2 := hid g2
      have ci2 : (i : Int) < (o.os.length : Int) := by omega
      have E0 := hid e0
      have F0 := hid f0
      clear g1 g2 hbel ka kb ha hb e0 f0
      go_wp2_with fail
      have CR : Hid (∀ u, Below wr.heap.size wr u → Calls Tryd.prog 11 #[.slice z r.D.length t, .slice z2 r.D.length t2] u fun e u' => e = .returned (.bool true) ∧ Below u.heap.size u u') := hid (fun u hu => bytes_at true r.D r.D u (G1.out.below hu) (G2.out.below hu) rfl rfl (by simp))
      have PK : Hid (∀ u, Below wr.heap.size wr u → u.cell? ⟨w.heap.size, 5, none⟩ = some (.slice (some ⟨b1, o1, none⟩) o.os.length c) ∧ u.cell? ⟨w.heap.size + 1, 5, none⟩ = some (.slice (some ⟨b2, o2, none⟩) o.os.length d) ∧ u.cell? ⟨b1, o1 + i * 2 + 1, none⟩ = some (.slice z r.D.length t) ∧ u.cell? ⟨b2, o2 + i * 2 + 1, none⟩ = some (.slice z2 r.D.length t2) ∧ Below wr.heap.size wr u) := hid (fun u hu => ⟨(hu.cell (p := ⟨w.heap.size, 5, none⟩) hla).trans a5, (hu.cell (p := ⟨w.heap.size + 1, 5, none⟩) hlb).trans b5, (hu.cell (p := ⟨b1, o1 + i * 2 + 1, none⟩) hb1).trans e1, (hu.cell (p := ⟨b2, o2 + i * 2 + 1, none⟩) hb2).trans f1, hu⟩)
      go_region_held3 (fun u => u.cell? ⟨w.heap.size, 5, none⟩ = some (.slice (some ⟨b1, o1, none⟩) o.os.length c) ∧ u.cell? ⟨w.heap.size + 1, 5, none⟩ = some (.slice (some ⟨b2, o2, none⟩) o.os.length d) ∧ u.cell? ⟨b1, o1 + i * 2 + 1, none⟩ = some (.slice z r.D.length t) ∧ u.cell? ⟨b2, o2 + i * 2 + 1, none⟩ = some (.slice z2 r.D.length t2) ∧ Below wr.heap.size wr u) (with_reducible (first | assumption | exact PK.out _ (Below.drew (Below.refl _ _)) | exact PK.out _ HB3))
        (first
          | (go_at_call 11; refine (CR.out _ (Below.drew (Below.refl _ _))).mono ?_; rintro e w3 ⟨rfl, b3⟩; have HB3 : Below wr.heap.size wr w3 := grown_on (Below.drew (Below.refl _ _)) b3))
      have B5 := hid (grown_on HB.out HB3)
      have KA5 := hid (KA.out.below HB3)
      have KB5 := hid (KB.out.below HB3)
      obtain ⟨m1, m2, _, _, _⟩ := PK.out w3 HB3
      have n1 := (HB3.cell (p := ⟨b1, o1 + i * 2, none⟩) hb1).trans E0.out
      have n2 := (HB3.cell (p := ⟨b2, o2 + i * 2, none⟩) hb2).trans F0.out
      clear b3 HB3 CR PK e1 f1 a5 b5 HB KA KB E0 F0
      go_wp2_with fail
      go_quiet (fail)
      have BD : Below w3.heap.size w3 (w3.drewN nq) := ((Drawn.refl _).more nq).below _
      have B6 := hid (grown_on B5.out BD)
      have KA6 := hid (KA5.out.below BD)
      have KB6 := hid (KB5.out.below BD)
      clear m1 m2 n1 n2 BD
      go_wp2_with fail
      exact ⟨⟨i + 1, by omega, by go_num, B6.out, KA6.out, KB6.out⟩, by simp [intOf]; omega⟩
    · have ci2 : ¬ (i : Int) < (o.os.length : Int) := by omega
      clear hbel ka kb
      go_wp2_with fail
      go_ret
      exact ⟨rfl, HB.out⟩

theorem Bl.fifteen {t : TypeId} {w : World} {b : Nat} {v0 v1 v2 v3 v4 v5 v6 v7 v8 v9 v10 v11 v12 v13 v14 : Value} (h : Bl t w b #[v0, v1, v2, v3, v4, v5, v6, v7, v8, v9, v10, v11, v12, v13, v14]) : w.cell? ⟨b, 0, none⟩ = some v0 ∧ w.cell? ⟨b, 1, none⟩ = some v1 ∧ w.cell? ⟨b, 2, none⟩ = some v2 ∧ w.cell? ⟨b, 3, none⟩ = some v3 ∧ w.cell? ⟨b, 4, none⟩ = some v4 ∧ w.cell? ⟨b, 5, none⟩ = some v5 ∧ w.cell? ⟨b, 6, none⟩ = some v6 ∧ w.cell? ⟨b, 7, none⟩ = some v7 ∧ w.cell? ⟨b, 8, none⟩ = some v8 ∧ w.cell? ⟨b, 9, none⟩ = some v9 ∧ w.cell? ⟨b, 10, none⟩ = some v10 ∧ w.cell? ⟨b, 11, none⟩ = some v11 ∧ w.cell? ⟨b, 12, none⟩ = some v12 ∧ w.cell? ⟨b, 13, none⟩ = some v13 ∧ w.cell? ⟨b, 14, none⟩ = some v14 :=
  ⟨h.cell (i := 0) rfl, h.cell (i := 1) rfl, h.cell (i := 2) rfl, h.cell (i := 3) rfl, h.cell (i := 4) rfl, h.cell (i := 5) rfl, h.cell (i := 6) rfl, h.cell (i := 7) rfl, h.cell (i := 8) rfl, h.cell (i := 9) rfl, h.cell (i := 10) rfl, h.cell (i := 11) rfl, h.cell (i := 12) rfl, h.cell (i := 13) rfl, h.cell (i := 14) rfl⟩
theorem Bl.six {t : TypeId} {w : World} {b : Nat} {v0 v1 v2 v3 v4 v5 : Value} (h : Bl t w b #[v0, v1, v2, v3, v4, v5]) : w.cell? ⟨b, 0, none⟩ = some v0 ∧ w.cell? ⟨b, 1, none⟩ = some v1 ∧ w.cell? ⟨b, 2, none⟩ = some v2 ∧ w.cell? ⟨b, 3, none⟩ = some v3 ∧ w.cell? ⟨b, 4, none⟩ = some v4 ∧ w.cell? ⟨b, 5, none⟩ = some v5 :=
  ⟨h.cell (i := 0) rfl, h.cell (i := 1) rfl, h.cell (i := 2) rfl, h.cell (i := 3) rfl, h.cell (i := 4) rfl, h.cell (i := 5) rfl⟩

/-- A message in a block. -/
def MsgB (w : World) (b : Nat) (h : Hd) (qs : List Qn) (r1 r2 r3 : List Rn) : Prop :=
  ∃ xq cq x1 c1 x2 c2 x3 c3, Bl 28 w b #[.int .i64 h.id, .bool h.an, .int .i64 h.op, .bool h.aa, .bool h.tc, .bool h.rd, .bool h.ra, .bool h.z, .bool h.ad, .bool h.cd, .int .i64 h.code, .slice xq qs.length cq, .slice x1 r1.length c1, .slice x2 r2.length c2, .slice x3 r3.length c3] ∧ Qs w 0 xq cq qs ∧ Rs w 0 x1 c1 r1 ∧ Rs w 0 x2 c2 r2 ∧ Rs w 0 x3 c3 r3
theorem MsgB.below {w w' : World} {b : Nat} {h : Hd} {qs : List Qn} {r1 r2 r3 : List Rn} (m : MsgB w b h qs r1 r2 r3) (k : Below w.heap.size w w') : MsgB w' b h qs r1 r2 r3 := by
  obtain ⟨xq, cq, x1, c1, x2, c2, x3, c3, kb, hq, h1, h2, h3⟩ := m
  exact ⟨xq, cq, x1, c1, x2, c2, x3, c3, kb.below k, hq.below k, h1.below k, h2.below k, h3.below k⟩
theorem MsgB.lt {w : World} {b : Nat} {h : Hd} {qs : List Qn} {r1 r2 r3 : List Rn} (m : MsgB w b h qs r1 r2 r3) : b < w.heap.size := by
  obtain ⟨_, _, _, _, _, _, _, _, kb, _⟩ := m
  exact kb.lt
theorem MsgB.new {w : World} {xq x1 x2 x3 : Option Addr} {cq c1 c2 c3 : Nat} (h : Hd) {qs : List Qn} {r1 r2 r3 : List Rn} (hq : Qs w 0 xq cq qs) (h1 : Rs w 0 x1 c1 r1) (h2 : Rs w 0 x2 c2 r2) (h3 : Rs w 0 x3 c3 r3) :
    MsgB (w.alloc (.cells #[.int .i64 h.id, .bool h.an, .int .i64 h.op, .bool h.aa, .bool h.tc, .bool h.rd, .bool h.ra, .bool h.z, .bool h.ad, .bool h.cd, .int .i64 h.code, .slice xq qs.length cq, .slice x1 r1.length c1, .slice x2 r2.length c2, .slice x3 r3.length c3] 28)) w.heap.size h qs r1 r2 r3 :=
  have k := (Below.refl w.heap.size w).alloc (Nat.le_refl _) _
  ⟨xq, cq, x1, c1, x2, c2, x3, c3, Bl.new 28 w _, hq.below k, h1.below k, h2.below k, h3.below k⟩

/-- What a message tells, in a block. -/
def OptB (w : World) (b : Nat) (o : Ot) : Prop := ∃ x c, Bl 46 w b #[.int .i64 o.size, .int .i64 o.code, .int .i64 o.ver, .bool o.dO, .int .i64 o.z, .slice x o.os.length c] ∧ Ops w 0 x c o.os
theorem OptB.below {w w' : World} {b : Nat} {o : Ot} (m : OptB w b o) (k : Below w.heap.size w w') : OptB w' b o := by
  obtain ⟨x, c, kb, h⟩ := m
  exact ⟨x, c, kb.below k, h.below k⟩
theorem OptB.new {w : World} {x : Option Addr} {c : Nat} (o : Ot) (h : Ops w 0 x c o.os) : OptB (w.alloc (.cells #[.int .i64 o.size, .int .i64 o.code, .int .i64 o.ver, .bool o.dO, .int .i64 o.z, .slice x o.os.length c] 46)) w.heap.size o :=
  have k := (Below.refl w.heap.size w).alloc (Nat.le_refl _) _
  ⟨x, c, Bl.new 46 w _, h.below k⟩

theorem sil_sil (rs : List Rn) : silR (silR rs) = silR rs := by unfold silR; rw [List.filter_filter]; congr 1; funext r; simp
theorem tel_sil (rs : List Rn) : telR (silR rs) = [] := by unfold telR silR; rw [List.filter_filter]; exact List.filter_eq_nil_iff.2 (fun r _ => by simp)
theorem tel_put (rs : List Rn) (o : Ot) : telR (silR rs ++ [otR o]) = [otR o] := by
  have h := tel_sil rs
  unfold telR at h ⊢
  rw [List.filter_append, h]; rfl
theorem sil_put (rs : List Rn) (o : Ot) : silR (silR rs ++ [otR o]) = silR rs := by
  have h := sil_sil rs
  unfold silR at h ⊢
  rw [List.filter_append, h]; simp [otR]

theorem rrow_rs {w : World} {B : Nat} {x : Option Addr} {c : Nat} {rs : List Rn} (h : RRow w B (.slice x rs.length c) rs) (hl : rs.length ≤ 4000000000000) : Rs w B x c rs := by
  obtain ⟨x', c', e, h'⟩ := h.open hl
  cases e
  exact h'
theorem qrow_qs {w : World} {B : Nat} {x : Option Addr} {c : Nat} {qs : List Qn} (h : QRow w B (.slice x qs.length c) qs) (hl : qs.length ≤ 4000000000000) : Qs w B x c qs := by
  obtain ⟨x', c', e, h'⟩ := h.open hl
  cases e
  exact h'

theorem MRows.rows {W : Nat} {xq x1 x2 x3 : Option Addr} {cq c1 c2 c3 : Nat} {qs : List Qn} {r1 r2 r3 : List Rn} {w : World} (h : MRows W (.slice xq qs.length cq) (.slice x1 r1.length c1) (.slice x2 r2.length c2) (.slice x3 r3.length c3) qs r1 r2 r3 w)
    (lq : qs.length ≤ 4000000000000) (l1 : r1.length ≤ 4000000000000) (l2 : r2.length ≤ 4000000000000) (l3 : r3.length ≤ 4000000000000) : Qs w 0 xq cq qs ∧ Rs w 0 x1 c1 r1 ∧ Rs w 0 x2 c2 r2 ∧ Rs w 0 x3 c3 r3 := by
  obtain ⟨u, B, h1, h2, h3, h4, h5, h6, h7⟩ := h
  exact ⟨(qrow_qs (h3.agree h6) lq).base (Nat.zero_le _), (rrow_rs (h4.agree h6) l1).base (Nat.zero_le _), (rrow_rs (h5.agree h6) l2).base (Nat.zero_le _), (rrow_rs h7 l3).base (Nat.zero_le _)⟩

theorem put_len {o : Ot} (h : otE o = 0) : (otR o).D.length ≤ 100000000 := by
  have h1 := (dataE_zero (otE_zero h).2).2
  show (optB o.os).length ≤ 100000000
  rw [optB_len]; omega

theorem find_put {xq x1 x2 x3 : Option Addr} {lq l1 l2 cq c1 c2 c3 l b3 : Nat} (h : Hd) (rs : List Rn) (o : Ot) (w : World) (hr : Rs w b3 x3 c3 rs) (hl : rs.length = l) (ht : telR rs = [otR o]) (ho : otE o = 0) (l3 : rs.length * 72 ≤ 140737488355328) :
    Calls Tryd.prog 14 #[.agg #[.int .i64 h.id, .bool h.an, .int .i64 h.op, .bool h.aa, .bool h.tc, .bool h.rd, .bool h.ra, .bool h.z, .bool h.ad, .bool h.cd, .int .i64 h.code, .slice xq lq cq, .slice x1 l1 c1, .slice x2 l2 c2, .slice x3 l c3]] w fun e w' => ∃ x c, e = .returned (.tuple #[.agg #[.int .i64 o.size, .int .i64 o.code, .int .i64 o.ver, .bool o.dO, .int .i64 o.z, .slice x o.os.length c], .bool true, .nilIface]) ∧ Ops w' 0 x c o.os ∧ Below w.heap.size w w' := by
  subst hl
  have hf := findN_good ht (recO_otR ho)
  refine (find_any h rs w hr l3 (by rw [ht]; intro r hr'; rw [List.mem_singleton.1 hr']; exact put_len ho)).mono ?_
  rintro e w' (⟨k, hk, _⟩ | ⟨o', x, c, hk, he, hos, hb⟩)
  · rw [hf] at hk; simp at hk
  · rw [hf] at hk
    have : o = o' := by simpa using hk
    subst this
    exact ⟨x, c, he, hos.base (Nat.zero_le _), hb⟩

theorem find_silent {xq x1 x2 x3 : Option Addr} {lq l1 l2 cq c1 c2 c3 l b3 : Nat} (h : Hd) (rs : List Rn) (w : World) (hr : Rs w b3 x3 c3 rs) (hl : rs.length = l) (ht : telR rs = []) (l3 : rs.length * 72 ≤ 140737488355328) :
    Calls Tryd.prog 14 #[.agg #[.int .i64 h.id, .bool h.an, .int .i64 h.op, .bool h.aa, .bool h.tc, .bool h.rd, .bool h.ra, .bool h.z, .bool h.ad, .bool h.cd, .int .i64 h.code, .slice xq lq cq, .slice x1 l1 c1, .slice x2 l2 c2, .slice x3 l c3]] w fun e w' => e = .returned (.tuple #[.agg #[.int .i64 0, .int .i64 0, .int .i64 0, .bool false, .int .i64 0, .slice none 0 0], .bool false, .nilIface]) ∧ Below w.heap.size w w' := by
  subst hl
  have hf := findN_none ht
  refine (find_any h rs w hr l3 (by rw [ht]; intro r hr'; simp at hr')).mono ?_
  rintro e w' (⟨k, hk, he, hb⟩ | ⟨o', x, c, hk, _⟩)
  · rw [hf] at hk
    have : k = 0 := by simpa using hk.symm
    subst this
    exact ⟨by rw [he, errV_none], hb⟩
  · rw [hf] at hk; simp at hk

theorem set_put {xq x1 x2 x3 x : Option Addr} {cq c1 c2 c3 c bq b1 b2 b3 bo : Nat} (h : Hd) (qs : List Qn) (r1 r2 r3 rs : List Rn) (o : Ot) (w : World) (hq : Qs w bq xq cq qs) (hr1 : Rs w b1 x1 c1 r1) (hr2 : Rs w b2 x2 c2 r2) (hr3 : Rs w b3 x3 c3 r3) (l1 : r1.length * 72 ≤ 140737488355328) (l2 : r2.length * 72 ≤ 140737488355328) (l3 : (r3.length + 1) * 72 ≤ 140737488355328) (hs : Ops w bo x c o.os) (hk : otE o = 0) (hrs : silR r3 ++ [otR o] = rs) :
    Calls Tryd.prog 20 #[.agg #[.int .i64 h.id, .bool h.an, .int .i64 h.op, .bool h.aa, .bool h.tc, .bool h.rd, .bool h.ra, .bool h.z, .bool h.ad, .bool h.cd, .int .i64 h.code, .slice xq qs.length cq, .slice x1 r1.length c1, .slice x2 r2.length c2, .slice x3 r3.length c3], .agg #[.int .i64 o.size, .int .i64 o.code, .int .i64 o.ver, .bool o.dO, .int .i64 o.z, .slice x o.os.length c]] w
      fun e w' => ∃ yq dq y1 d1 y2 d2 y3 d3, e = .returned (.tuple #[.agg #[.int .i64 h.id, .bool h.an, .int .i64 h.op, .bool h.aa, .bool h.tc, .bool h.rd, .bool h.ra, .bool h.z, .bool h.ad, .bool h.cd, .int .i64 h.code, .slice yq qs.length dq, .slice y1 r1.length d1, .slice y2 r2.length d2, .slice y3 rs.length d3], .nilIface]) ∧ Qs w' 0 yq dq qs ∧ Rs w' 0 y1 d1 r1 ∧ Rs w' 0 y2 d2 r2 ∧ Rs w' 0 y3 d3 rs ∧ Below w.heap.size w w' := by
  subst hrs
  refine (set_good h qs r1 r2 r3 o w hq hr1 hr2 hr3 l1 l2 l3 hs hk).mono ?_
  rintro e w' ⟨yq, dq, y1, d1, y2, d2, y3, d3, he, k0, k1, k2, k3, hb⟩
  have := sil_len r3
  exact ⟨yq, dq, y1, d1, y2, d2, y3, d3, he, (qrow_qs k0 hq.2.1).base (Nat.zero_le _), (rrow_rs k1 hr1.2.1).base (Nat.zero_le _), (rrow_rs k2 hr2.2.1).base (Nat.zero_le _), (rrow_rs k3 (by rw [List.length_append]; simp; omega)).base (Nat.zero_le _), hb⟩

theorem drop_at {xq x1 x2 x3 : Option Addr} {cq c1 c2 c3 bq b1 b2 b3 : Nat} (h : Hd) (qs : List Qn) (r1 r2 r3 rs : List Rn) (w : World) (hq : Qs w bq xq cq qs) (hr1 : Rs w b1 x1 c1 r1) (hr2 : Rs w b2 x2 c2 r2) (hr3 : Rs w b3 x3 c3 r3) (l1 : r1.length * 72 ≤ 140737488355328) (l2 : r2.length * 72 ≤ 140737488355328) (l3 : r3.length * 72 ≤ 140737488355328) (hrs : silR r3 = rs) :
    Calls Tryd.prog 16 #[.agg #[.int .i64 h.id, .bool h.an, .int .i64 h.op, .bool h.aa, .bool h.tc, .bool h.rd, .bool h.ra, .bool h.z, .bool h.ad, .bool h.cd, .int .i64 h.code, .slice xq qs.length cq, .slice x1 r1.length c1, .slice x2 r2.length c2, .slice x3 r3.length c3]] w
      fun e w' => ∃ yq dq y1 d1 y2 d2 y3 d3, e = .returned (.agg #[.int .i64 h.id, .bool h.an, .int .i64 h.op, .bool h.aa, .bool h.tc, .bool h.rd, .bool h.ra, .bool h.z, .bool h.ad, .bool h.cd, .int .i64 h.code, .slice yq qs.length dq, .slice y1 r1.length d1, .slice y2 r2.length d2, .slice y3 rs.length d3]) ∧ Qs w' 0 yq dq qs ∧ Rs w' 0 y1 d1 r1 ∧ Rs w' 0 y2 d2 r2 ∧ Rs w' 0 y3 d3 rs ∧ Below w.heap.size w w' := by
  subst hrs
  refine (drop_any h qs r1 r2 r3 w hq hr1 hr2 hr3 l1 l2 l3).mono ?_
  rintro e w' ⟨yq, dq, y1, d1, y2, d2, y3, d3, he, k, hb⟩
  have hl := sil_len r3
  have h3 := hr3.2.1
  obtain ⟨q0, q1, q2, q3⟩ := k.rows hq.2.1 hr1.2.1 hr2.2.1 (by omega)
  exact ⟨yq, dq, y1, d1, y2, d2, y3, d3, he, q0, q1, q2, q3, hb⟩

set_option maxHeartbeats 4000000 in
set_option maxRecDepth 100000 in
theorem known_any (w : World) : Calls Tryd.prog 12 #[] w fun e w' => e = .returned (.bool true) ∧ Below w.heap.size w w' := by
  obtain ⟨rs, hrs⟩ : ∃ rs, silR [] ++ [otR ⟨1232, 0, 0, false, 0, []⟩] = rs := ⟨_, rfl⟩
  have ht : telR rs = [otR ⟨1232, 0, 0, false, 0, []⟩] := by rw [← hrs]; exact tel_put [] _
  have hl : rs.length * 72 ≤ 140737488355328 := by rw [← hrs]; simp [silR]
  go_enter Tryd.func12, Tryd.ntmps12
  go_wp2_with fail
  refine (set_put ⟨0, false, 0, false, false, false, false, false, false, false, 0⟩ [] [] [] [] rs ⟨1232, 0, 0, false, 0, []⟩ w (Qs.nil _ 0 _ _) (Rs.nil _ 0 _ _) (Rs.nil _ 0 _ _) (Rs.nil _ 0 _ _) (by simp) (by simp) (by simp) (Ops.nil _ 0 _ _) (by decide) hrs).mono ?_
  rintro e w1 ⟨yq, dq, y1, d1, y2, d2, y3, d3, rfl, _, _, _, k3, B1⟩
  have K4 := MsgB.new (w := w1) ⟨0, false, 0, false, false, false, false, false, false, false, 0⟩ (Qs.nil w1 0 yq dq) (Rs.nil w1 0 y1 d1) (Rs.nil w1 0 y2 d2) k3
  have B4 := B1.alloc B1.size (.cells #[.int .i64 0, .bool false, .int .i64 0, .bool false, .bool false, .bool false, .bool false, .bool false, .bool false, .bool false, .int .i64 0, .slice yq 0 dq, .slice y1 0 d1, .slice y2 0 d2, .slice y3 rs.length d3] 28)
  clear k3 B1
  go_upto_region 2 with fail
  simp only [List.length_nil] at K4
  generalize w1.alloc (.cells #[.int .i64 0, .bool false, .int .i64 0, .bool false, .bool false, .bool false, .bool false, .bool false, .bool false, .bool false, .int .i64 0, .slice yq 0 dq, .slice y1 0 d1, .slice y2 0 d2, .slice y3 rs.length d3] 28) = w2 at *
  generalize w1.heap.size = bx at *
  obtain ⟨xq, cq, x1, c1, x2, c2, x3, c3, kb, _, _, _, h3⟩ := K4
  obtain ⟨g0, g1, g2, g3, g4, g5, g6, g7, g8, g9, g10, g11, g12, g13, g14⟩ := kb.fifteen
  have HB4 := hid B4
  clear kb B4
  go_wp2_with fail
  refine (find_put ⟨0, false, 0, false, false, false, false, false, false, false, 0⟩ rs ⟨1232, 0, 0, false, 0, []⟩ w2 h3 rfl ht (by decide) hl).mono ?_
  rintro e w3 ⟨x, c, rfl, _, b3⟩
  have HB5 := hid ((grown_on HB4.out b3).alloc (grown_on HB4.out b3).size (.cells #[.int .i64 1232, .int .i64 0, .int .i64 0, .bool false, .int .i64 0, .slice x 0 c] 46))
  have k5 := Bl.new 46 w3 #[.int .i64 1232, .int .i64 0, .int .i64 0, .bool false, .int .i64 0, .slice x 0 c]
  clear b3 HB4 h3 g0 g1 g2 g3 g4 g5 g6 g7 g8 g9 g10 g11 g12 g13 g14
  go_upto_region 3 with fail
  generalize w3.alloc (.cells #[.int .i64 1232, .int .i64 0, .int .i64 0, .bool false, .int .i64 0, .slice x 0 c] 46) = w4 at *
  have g0 := k5.cell (i := 0) rfl
  clear k5
  go_wp2_with fail
  go_ret
  exact ⟨rfl, HB5.out⟩

end Go.Proofs.YtbbgabdiikdjpaaDoor

namespace Go.Proofs.YtbbgabdiikdjpaaDoor
open Go.RowKit Go.Deep

theorem Bl.range {t : TypeId} {w : World} {b : Nat} (L : List Value) (h : Bl t w b L.toArray) : w.rangeAt b 0 L := fun j v hj => by rw [Nat.zero_add]; exact h.cell (by simpa using hj)

theorem size_message : (Tryd.prog.info? 28).map (·.size) = some 15 := by kernel_rfl

theorem size_opt : (Tryd.prog.info? 46).map (·.size) = some 6 := by kernel_rfl

/-- Worlds in which all old blocks stay. -/
structure Olds (w : World) where
  val : World
  keeps : Below w.heap.size w val

theorem load_message {w : World} {b : Nat} {L : List Value} (h : Bl 28 w b L.toArray) (hl : L.length = 15) (s : Olds w) : (Instr.loadAt 28 (.pointer (some ⟨b, 0, none⟩))).run Tryd.prog s.val = .ok (.agg L.toArray) s.val :=
  run_loadAt_mid s.val b 0 28 L _ (Bl.range L (h.below s.keeps)) Tryd.underlying28 rfl (by rw [hl]; exact size_message)

theorem load_opt {w : World} {b : Nat} {L : List Value} (h : Bl 46 w b L.toArray) (hl : L.length = 6) (s : Olds w) : (Instr.loadAt 46 (.pointer (some ⟨b, 0, none⟩))).run Tryd.prog s.val = .ok (.agg L.toArray) s.val :=
  run_loadAt_mid s.val b 0 46 L _ (Bl.range L (h.below s.keeps)) Tryd.underlying46 rfl (by rw [hl]; exact size_opt)

end Go.Proofs.YtbbgabdiikdjpaaDoor

namespace Go.Proofs.YtbbgabdiikdjpaaDoor
open Go.RowKit Go.Deep

set_option maxHeartbeats 1000000 in
theorem hfault_good (id op code : Int) (an aa tc rd ra z ad cd : Bool) (w : World) (hi0 : 0 ≤ id) (hi1 : id ≤ 65535) (ho0 : 0 ≤ op) (ho1 : op ≤ 15) (hc0 : 0 ≤ code) (hc1 : code ≤ 15) :
    Calls Tryd.prog 35 #[.agg #[.int .i64 id, .bool an, .int .i64 op, .bool aa, .bool tc, .bool rd, .bool ra, .bool z, .bool ad, .bool cd, .int .i64 code]] w fun e w' => e = .returned (.int .i64 0) ∧ Below w.heap.size w w' := by
  go_enter Tryd.func35, Tryd.ntmps35
  go_wp2
  go_ret
  exact ⟨rfl, (Below.refl _ w).alloc (Nat.le_refl _) _⟩

set_option maxHeartbeats 2000000 in
theorem hfault_bad (id op code : Int) (an aa tc rd ra z ad cd : Bool) (w : World) (h : ¬ ((0 ≤ id ∧ id ≤ 65535) ∧ (0 ≤ op ∧ op ≤ 15) ∧ (0 ≤ code ∧ code ≤ 15))) :
    Calls Tryd.prog 35 #[.agg #[.int .i64 id, .bool an, .int .i64 op, .bool aa, .bool tc, .bool rd, .bool ra, .bool z, .bool ad, .bool cd, .int .i64 code]] w fun e w' => e = .returned (.int .i64 6) ∧ Below w.heap.size w w' := by
  by_cases h1 : id < 0
  · go_enter Tryd.func35, Tryd.ntmps35
    go_wp2
    go_ret
    exact ⟨rfl, (Below.refl _ w).alloc (Nat.le_refl _) _⟩
  by_cases h2 : 65535 < id
  · go_enter Tryd.func35, Tryd.ntmps35
    go_wp2
    go_ret
    exact ⟨rfl, (Below.refl _ w).alloc (Nat.le_refl _) _⟩
  by_cases h3 : op < 0
  · go_enter Tryd.func35, Tryd.ntmps35
    go_wp2
    go_ret
    exact ⟨rfl, (Below.refl _ w).alloc (Nat.le_refl _) _⟩
  by_cases h4 : 15 < op
  · go_enter Tryd.func35, Tryd.ntmps35
    go_wp2
    go_ret
    exact ⟨rfl, (Below.refl _ w).alloc (Nat.le_refl _) _⟩
  by_cases h5 : code < 0
  · go_enter Tryd.func35, Tryd.ntmps35
    go_wp2
    go_ret
    exact ⟨rfl, (Below.refl _ w).alloc (Nat.le_refl _) _⟩
  have h6 : 15 < code := by omega
  clear h
  go_enter Tryd.func35, Tryd.ntmps35
  go_wp2
  go_ret
  exact ⟨rfl, (Below.refl _ w).alloc (Nat.le_refl _) _⟩

theorem one_any (b : Bool) (n : Int) (w : World) :
    Calls Tryd.prog 59 #[.bool b, .int .i64 n] w fun e w' => e = .returned (.int .i64 (bn b * n)) ∧ w' = w := by
  cases b with
  | false =>
    go_enter Tryd.func59, Tryd.ntmps59
    go_wp2
    go_ret
    exact ⟨by simp [bn], rfl⟩
  | true =>
    go_enter Tryd.func59, Tryd.ntmps59
    go_wp2
    go_ret
    exact ⟨by simp [bn], rfl⟩

set_option maxHeartbeats 1000000 in
theorem bit_any (b : Int) (i : Nat) (w : World) (h0 : 0 ≤ b) (h1 : b ≤ 255) (hi : i ≤ 7) :
    Calls Tryd.prog 51 #[.int .u8 b, .int .i64 (i : Int)] w fun e w' => e = .returned (.bool (b / 2 ^ i % 2 == 1)) ∧ w' = w := by
  go_enter Tryd.func51, Tryd.ntmps51
  go_wp2
  go_loopw [5, 6] (fun x k wr => ∃ (n : Nat) (y : Int), n ≤ i ∧ k = .int .i64 (n : Int) ∧ x = .int .i64 y ∧ y = b / 2 ^ n ∧ wr = w) (fun _ k _ => i - (intOf k).toNat)
  case atStart => exact ⟨0, b, Nat.zero_le _, rfl, rfl, by simp, rfl⟩
  case round =>
    obtain ⟨n, y, hn, rfl, rfl, hy, rfl⟩ := hrel
    have y0 : 0 ≤ y := by rw [hy]; exact Int.ediv_nonneg h0 (Int.le_of_lt (Int.pow_pos (by decide)))
    have y1 : y ≤ 255 := by rw [hy]; exact Int.le_trans (Int.ediv_le_self _ h0) h1
    have HY := hid hy
    clear hy
    by_cases c : n < i
    · go_wp2
      exact ⟨⟨n + 1, y / 2, by omega, by go_num, rfl, by rw [HY.out, Int.pow_succ, Int.ediv_ediv_of_nonneg (Int.le_of_lt (Int.pow_pos (by decide)))], by trivial⟩, by simp [intOf]; omega⟩
    · obtain rfl : n = i := by omega
      go_wp2
      have hh := HY.out
      subst hh
      go_ret
      exact ⟨rfl, rfl⟩

theorem bn_low (b : Bool) : 0 ≤ bn b := by cases b <;> decide
theorem bn_high (b : Bool) : bn b ≤ 1 := by cases b <;> decide

set_option maxHeartbeats 2000000 in
set_option maxRecDepth 100000 in
theorem hbytes_own (id op code : Int) (an aa tc rd ra z ad cd : Bool) (w : World) (hi0 : 0 ≤ id) (hi1 : id ≤ 65535) (ho0 : 0 ≤ op) (ho1 : op ≤ 15) (hc0 : 0 ≤ code) (hc1 : code ≤ 15) :
    Calls Tryd.prog 36 #[.agg #[.int .i64 id, .bool an, .int .i64 op, .bool aa, .bool tc, .bool rd, .bool ra, .bool z, .bool ad, .bool cd, .int .i64 code]] w fun e w' => ∃ g, e = .returned (.slice (some ⟨g, 0, none⟩) 4 4) ∧ Bys w' (some ⟨g, 0, none⟩) 4 (headN id an op aa tc rd ra z ad cd code) ∧ Below w.heap.size w w' ∧ w.heap.size ≤ g ∧ Rowb w' w.heap.size (.slice (some ⟨g, 0, none⟩) 4 4) (headN id an op aa tc rd ra z ad cd code) := by
  have l1 := bn_low an
  have l2 := bn_low aa
  have l3 := bn_low tc
  have l4 := bn_low rd
  have u1 := bn_high an
  have u2 := bn_high aa
  have u3 := bn_high tc
  have u4 := bn_high rd
  go_enter Tryd.func36, Tryd.ntmps36
  go_wp2
  go_quiet (first | (go_at_call 59; exact Calls.quiet_of_same (one_any _ _ _)))
  go_wp2
  have K0 := (Blk.new w #[.int .i64 id, .bool an, .int .i64 op, .bool aa, .bool tc, .bool rd, .bool ra, .bool z, .bool ad, .bool cd, .int .i64 code]).drewN nq
  have B0 := grown_on ((Below.refl _ w).alloc (Nat.le_refl _) (.cells #[.int .i64 id, .bool an, .int .i64 op, .bool aa, .bool tc, .bool rd, .bool ra, .bool z, .bool ad, .bool cd, .int .i64 code] 24)) (((Drawn.refl _).more nq).below _)
  generalize ((w.alloc (.cells #[.int .i64 id, .bool an, .int .i64 op, .bool aa, .bool tc, .bool rd, .bool ra, .bool z, .bool ad, .bool cd, .int .i64 code] 24)).drewN nq) = W at *
  have c0 := K0.cell (i := 0) (v := .int .i64 id) rfl
  have c6 := K0.cell (i := 6) (v := .bool ra) rfl
  have c7 := K0.cell (i := 7) (v := .bool z) rfl
  have c8 := K0.cell (i := 8) (v := .bool ad) rfl
  have c9 := K0.cell (i := 9) (v := .bool cd) rfl
  have c10 := K0.cell (i := 10) (v := .int .i64 code) rfl
  have hlt := K0.lt
  have B1 := hid B0
  clear K0 B0
  obtain ⟨p, hp⟩ : ∃ p, bn an * 128 + op * 8 + bn aa * 4 + bn tc * 2 + bn rd = p := ⟨_, rfl⟩
  rw [hp]
  have p0 : 0 ≤ p := by omega
  have p1 : p ≤ 255 := by omega
  have HP := hid hp
  clear hp
  have l5 := bn_low ra
  have l6 := bn_low z
  have l7 := bn_low ad
  have l8 := bn_low cd
  have u5 := bn_high ra
  have u6 := bn_high z
  have u7 := bn_high ad
  have u8 := bn_high cd
  go_quiet (first | (go_at_call 59; exact Calls.quiet_of_same (one_any _ _ _)))
  go_wp2
  have hw := wordK_all an op aa tc rd ra z ad cd code
  have hp := HP.out
  have e : headN id an op aa tc rd ra z ad cd code = [id / 256, id % 256, p, bn ra * 128 + bn z * 64 + bn ad * 32 + bn cd * 16 + code] := by
    unfold headN
    have e1 : wordK 16 an op aa tc rd ra z ad cd code / 256 = p := by omega
    have e2 : wordK 16 an op aa tc rd ra z ad cd code % 256 = bn ra * 128 + bn z * 64 + bn ad * 32 + bn cd * 16 + code := by omega
    rw [e1, e2]
  have hB := headN_bytes (an := an) (aa := aa) (tc := tc) (rd := rd) (ra := ra) (z := z) (ad := ad) (cd := cd) hi0 hi1 ho0 ho1 hc0 hc1
  rw [e] at hB
  have B2 := grown_on B1.out (((Drawn.refl W).more nq).below _)
  clear hw hp HP
  go_ret
  refine ⟨(W.drewN nq).heap.size, rfl, ?_, B2.alloc B2.size _, B2.size, ?_⟩
  · rw [e]
    exact bys_new (W.drewN nq) _ hB (by simp)
  · rw [e]
    exact ⟨rfl, .inr ⟨(W.drewN nq).heap.size, 4, _, rfl, B2.size, heap_alloc_new _ _, Nat.le_refl _, by unfold maxLen; omega, rfl, rfl⟩⟩

theorem hbytes_good (id op code : Int) (an aa tc rd ra z ad cd : Bool) (w : World) (hi0 : 0 ≤ id) (hi1 : id ≤ 65535) (ho0 : 0 ≤ op) (ho1 : op ≤ 15) (hc0 : 0 ≤ code) (hc1 : code ≤ 15) :
    Calls Tryd.prog 36 #[.agg #[.int .i64 id, .bool an, .int .i64 op, .bool aa, .bool tc, .bool rd, .bool ra, .bool z, .bool ad, .bool cd, .int .i64 code]] w fun e w' => ∃ g, e = .returned (.slice (some ⟨g, 0, none⟩) 4 4) ∧ Bys w' (some ⟨g, 0, none⟩) 4 (headN id an op aa tc rd ra z ad cd code) ∧ Below w.heap.size w w' ∧ w.heap.size ≤ g :=
  (hbytes_own id op code an aa tc rd ra z ad cd w hi0 hi1 ho0 ho1 hc0 hc1).mono fun _ _ ⟨g, h1, h2, h3, h4, _⟩ => ⟨g, h1, h2, h3, h4⟩

theorem hdOf_bytes {b0 b1 b2 b3 : Int} (h6 : 0 ≤ b3) (h7 : b3 ≤ 255) : hdOf (b0 * 256 + b1) (b2 * 256 + b3) = .agg #[.int .i64 (b0 * 256 + b1), .bool (b2 / 128 % 2 == 1), .int .i64 (b2 / 8 % 16), .bool (b2 / 4 % 2 == 1), .bool (b2 / 2 % 2 == 1), .bool (b2 % 2 == 1), .bool (b3 / 128 % 2 == 1), .bool (b3 / 64 % 2 == 1), .bool (b3 / 32 % 2 == 1), .bool (b3 / 16 % 2 == 1), .int .i64 (b3 % 16)] := by
  unfold hdOf
  have e1 : (b2 * 256 + b3) / 32768 % 2 = b2 / 128 % 2 := by omega
  have e3 : (b2 * 256 + b3) / 1024 % 2 = b2 / 4 % 2 := by omega
  have e4 : (b2 * 256 + b3) / 512 % 2 = b2 / 2 % 2 := by omega
  have e5 : (b2 * 256 + b3) / 256 % 2 = b2 % 2 := by omega
  have e6 : (b2 * 256 + b3) / 128 % 2 = b3 / 128 % 2 := by omega
  have e7 : (b2 * 256 + b3) / 64 % 2 = b3 / 64 % 2 := by omega
  have e8 : (b2 * 256 + b3) / 32 % 2 = b3 / 32 % 2 := by omega
  have e9 : (b2 * 256 + b3) / 16 % 2 = b3 / 16 % 2 := by omega
  have e2 : (b2 * 256 + b3) / 2048 % 16 = b2 / 8 % 16 := by omega
  have e10 : (b2 * 256 + b3) % 16 = b3 % 16 := by omega
  rw [e1, e2, e3, e4, e5, e6, e7, e8, e9, e10]

set_option maxHeartbeats 4000000 in
set_option maxRecDepth 100000 in
theorem hof_any (x : Option Addr) (c : Nat) (ms : List Int) (w : World) (h : Bys w x c ms) (hl : 4 ≤ ms.length) :
    Calls Tryd.prog 21 #[.slice x ms.length c] w fun e w' => e = .returned (hdOf (ms.getD 0 0 * 256 + ms.getD 1 0) (ms.getD 2 0 * 256 + ms.getD 3 0)) ∧ Below w.heap.size w w' := by
  have hl' : ms.length ≤ 200000000000000 := h.2.1
  obtain ⟨g0, g1⟩ := getD_byte h.2.2.1 0
  obtain ⟨g2, g3⟩ := getD_byte h.2.2.1 1
  obtain ⟨g4, g5⟩ := getD_byte h.2.2.1 2
  obtain ⟨g6, g7⟩ := getD_byte h.2.2.1 3
  have n0 : (0 : Int) < (ms.length : Int) := by omega
  have n1 : (1 : Int) < (ms.length : Int) := by omega
  have n2 : (2 : Int) < (ms.length : Int) := by omega
  have n3 : (3 : Int) < (ms.length : Int) := by omega
  obtain ⟨b, off, rfl, hlt, q⟩ : ∃ b off, x = some ⟨b, off, none⟩ ∧ b < w.heap.size ∧ ∀ i, i < ms.length → w.cell? ⟨b, off + i, none⟩ = some (.int .u8 (ms.getD i 0)) := by
    rcases h.2.2.2 with hd | hd
    · rw [hd] at hl; simp at hl
    · exact hd
  have q0 := q 0 (by omega)
  have q1 := q 1 (by omega)
  have q2 := q 2 (by omega)
  have q3 := q 3 (by omega)
  clear q h
  rw [Nat.add_zero] at q0
  generalize ms.getD 0 0 = b0 at *
  generalize ms.getD 1 0 = b1 at *
  generalize ms.getD 2 0 = b2 at *
  generalize ms.getD 3 0 = b3 at *
  go_enter Tryd.func21, Tryd.ntmps21
  go_wp2
  refine wp_region_last _ (by kernel_rfl) rfl (by kernel_rfl) ?_
  simp only [List.dropLast_cons_cons, List.dropLast_singleton]
  repeat (go_big_quiet_step (first
      | (go_at_call_of 51 (Value.int IntKind.i64 7); exact Calls.quiet_of_same (bit_any _ 7 _ (by omega) (by omega) (by omega)))
      | (go_at_call_of 51 (Value.int IntKind.i64 6); exact Calls.quiet_of_same (bit_any _ 6 _ (by omega) (by omega) (by omega)))
      | (go_at_call_of 51 (Value.int IntKind.i64 5); exact Calls.quiet_of_same (bit_any _ 5 _ (by omega) (by omega) (by omega)))
      | (go_at_call_of 51 (Value.int IntKind.i64 4); exact Calls.quiet_of_same (bit_any _ 4 _ (by omega) (by omega) (by omega)))
      | (go_at_call_of 51 (Value.int IntKind.i64 2); exact Calls.quiet_of_same (bit_any _ 2 _ (by omega) (by omega) (by omega)))
      | (go_at_call_of 51 (Value.int IntKind.i64 1); exact Calls.quiet_of_same (bit_any _ 1 _ (by omega) (by omega) (by omega)))
      | (go_at_call_of 51 (Value.int IntKind.i64 0); exact Calls.quiet_of_same (bit_any _ 0 _ (by omega) (by omega) (by omega)))))
  refine wpQuiet_nil ?_
  intro _ hw'
  obtain ⟨nq, rfl⟩ := hw'
  simp only [List.getLast_cons_cons, List.getLast_singleton]
  go_wp2
  have RR := (Blk.new w #[.int .i64 0, .bool false, .int .i64 0, .bool false, .bool false, .bool false, .bool false, .bool false, .bool false, .bool false, .int .i64 0]).drewN nq
  have BB := grown_on ((Below.refl _ w).alloc (Nat.le_refl _) (.cells #[.int .i64 0, .bool false, .int .i64 0, .bool false, .bool false, .bool false, .bool false, .bool false, .bool false, .bool false, .int .i64 0] 24)) (((Drawn.refl _).more nq).below _)
  have E : Blk (((((((((((((w.alloc (.cells #[.int .i64 0, .bool false, .int .i64 0, .bool false, .bool false, .bool false, .bool false, .bool false, .bool false, .bool false, .int .i64 0] 24)).drewN nq).setCell ⟨w.heap.size, 0, none⟩ (.int .i64 (b0 * 256 + b1))).setCell ⟨w.heap.size, 1, none⟩ (.bool (b2 / 128 % 2 == 1))).setCell ⟨w.heap.size, 2, none⟩ (.int .i64 (b2 / 8 % 16))).setCell ⟨w.heap.size, 3, none⟩ (.bool (b2 / 4 % 2 == 1))).setCell ⟨w.heap.size, 4, none⟩ (.bool (b2 / 2 % 2 == 1))).setCell ⟨w.heap.size, 5, none⟩ (.bool (b2 % 2 == 1))).setCell ⟨w.heap.size, 6, none⟩ (.bool (b3 / 128 % 2 == 1))).setCell ⟨w.heap.size, 7, none⟩ (.bool (b3 / 64 % 2 == 1))).setCell ⟨w.heap.size, 8, none⟩ (.bool (b3 / 32 % 2 == 1))).setCell ⟨w.heap.size, 9, none⟩ (.bool (b3 / 16 % 2 == 1))).setCell ⟨w.heap.size, 10, none⟩ (.int .i64 (b3 % 16))) w.heap.size #[.int .i64 (b0 * 256 + b1), .bool (b2 / 128 % 2 == 1), .int .i64 (b2 / 8 % 16), .bool (b2 / 4 % 2 == 1), .bool (b2 / 2 % 2 == 1), .bool (b2 % 2 == 1), .bool (b3 / 128 % 2 == 1), .bool (b3 / 64 % 2 == 1), .bool (b3 / 32 % 2 == 1), .bool (b3 / 16 % 2 == 1), .int .i64 (b3 % 16)] := by
    have := (((((((((((RR.set 0 (.int .i64 (b0 * 256 + b1))).set 1 (.bool (b2 / 128 % 2 == 1))).set 2 (.int .i64 (b2 / 8 % 16))).set 3 (.bool (b2 / 4 % 2 == 1))).set 4 (.bool (b2 / 2 % 2 == 1))).set 5 (.bool (b2 % 2 == 1))).set 6 (.bool (b3 / 128 % 2 == 1))).set 7 (.bool (b3 / 64 % 2 == 1))).set 8 (.bool (b3 / 32 % 2 == 1))).set 9 (.bool (b3 / 16 % 2 == 1))).set 10 (.int .i64 (b3 % 16)))
    simpa using this
  have F : Below w.heap.size w (((((((((((((w.alloc (.cells #[.int .i64 0, .bool false, .int .i64 0, .bool false, .bool false, .bool false, .bool false, .bool false, .bool false, .bool false, .int .i64 0] 24)).drewN nq).setCell ⟨w.heap.size, 0, none⟩ (.int .i64 (b0 * 256 + b1))).setCell ⟨w.heap.size, 1, none⟩ (.bool (b2 / 128 % 2 == 1))).setCell ⟨w.heap.size, 2, none⟩ (.int .i64 (b2 / 8 % 16))).setCell ⟨w.heap.size, 3, none⟩ (.bool (b2 / 4 % 2 == 1))).setCell ⟨w.heap.size, 4, none⟩ (.bool (b2 / 2 % 2 == 1))).setCell ⟨w.heap.size, 5, none⟩ (.bool (b2 % 2 == 1))).setCell ⟨w.heap.size, 6, none⟩ (.bool (b3 / 128 % 2 == 1))).setCell ⟨w.heap.size, 7, none⟩ (.bool (b3 / 64 % 2 == 1))).setCell ⟨w.heap.size, 8, none⟩ (.bool (b3 / 32 % 2 == 1))).setCell ⟨w.heap.size, 9, none⟩ (.bool (b3 / 16 % 2 == 1))).setCell ⟨w.heap.size, 10, none⟩ (.int .i64 (b3 % 16))) := (((((((((((BB.setCell (p := ⟨w.heap.size, 0, none⟩) (Nat.le_refl _) (.int .i64 (b0 * 256 + b1))).setCell (p := ⟨w.heap.size, 1, none⟩) (Nat.le_refl _) (.bool (b2 / 128 % 2 == 1))).setCell (p := ⟨w.heap.size, 2, none⟩) (Nat.le_refl _) (.int .i64 (b2 / 8 % 16))).setCell (p := ⟨w.heap.size, 3, none⟩) (Nat.le_refl _) (.bool (b2 / 4 % 2 == 1))).setCell (p := ⟨w.heap.size, 4, none⟩) (Nat.le_refl _) (.bool (b2 / 2 % 2 == 1))).setCell (p := ⟨w.heap.size, 5, none⟩) (Nat.le_refl _) (.bool (b2 % 2 == 1))).setCell (p := ⟨w.heap.size, 6, none⟩) (Nat.le_refl _) (.bool (b3 / 128 % 2 == 1))).setCell (p := ⟨w.heap.size, 7, none⟩) (Nat.le_refl _) (.bool (b3 / 64 % 2 == 1))).setCell (p := ⟨w.heap.size, 8, none⟩) (Nat.le_refl _) (.bool (b3 / 32 % 2 == 1))).setCell (p := ⟨w.heap.size, 9, none⟩) (Nat.le_refl _) (.bool (b3 / 16 % 2 == 1))).setCell (p := ⟨w.heap.size, 10, none⟩) (Nat.le_refl _) (.int .i64 (b3 % 16)))
  clear RR BB
  generalize (((((((((((((w.alloc (.cells #[.int .i64 0, .bool false, .int .i64 0, .bool false, .bool false, .bool false, .bool false, .bool false, .bool false, .bool false, .int .i64 0] 24)).drewN nq).setCell ⟨w.heap.size, 0, none⟩ (.int .i64 (b0 * 256 + b1))).setCell ⟨w.heap.size, 1, none⟩ (.bool (b2 / 128 % 2 == 1))).setCell ⟨w.heap.size, 2, none⟩ (.int .i64 (b2 / 8 % 16))).setCell ⟨w.heap.size, 3, none⟩ (.bool (b2 / 4 % 2 == 1))).setCell ⟨w.heap.size, 4, none⟩ (.bool (b2 / 2 % 2 == 1))).setCell ⟨w.heap.size, 5, none⟩ (.bool (b2 % 2 == 1))).setCell ⟨w.heap.size, 6, none⟩ (.bool (b3 / 128 % 2 == 1))).setCell ⟨w.heap.size, 7, none⟩ (.bool (b3 / 64 % 2 == 1))).setCell ⟨w.heap.size, 8, none⟩ (.bool (b3 / 32 % 2 == 1))).setCell ⟨w.heap.size, 9, none⟩ (.bool (b3 / 16 % 2 == 1))).setCell ⟨w.heap.size, 10, none⟩ (.int .i64 (b3 % 16))) = W2 at *
  have e0 := E.cell (i := 0) rfl
  have e1 := E.cell (i := 1) rfl
  have e2 := E.cell (i := 2) rfl
  have e3 := E.cell (i := 3) rfl
  have e4 := E.cell (i := 4) rfl
  have e5 := E.cell (i := 5) rfl
  have e6 := E.cell (i := 6) rfl
  have e7 := E.cell (i := 7) rfl
  have e8 := E.cell (i := 8) rfl
  have e9 := E.cell (i := 9) rfl
  have e10 := E.cell (i := 10) rfl
  refine bodyPost_ret (v := .agg #[.int .i64 (b0 * 256 + b1), .bool (b2 / 128 % 2 == 1), .int .i64 (b2 / 8 % 16), .bool (b2 / 4 % 2 == 1), .bool (b2 / 2 % 2 == 1), .bool (b2 % 2 == 1), .bool (b3 / 128 % 2 == 1), .bool (b3 / 64 % 2 == 1), .bool (b3 / 32 % 2 == 1), .bool (b3 / 16 % 2 == 1), .int .i64 (b3 % 16)]) (by simp [results, Tryd.results21, go_sem, e0, e1, e2, e3, e4, e5, e6, e7, e8, e9, e10]) rfl ?_
  exact ⟨by rw [hdOf_bytes g6 g7], F⟩

end Go.Proofs.YtbbgabdiikdjpaaDoor

namespace Go.Proofs.YtbbgabdiikdjpaaDoor
open Go.RowKit Go.Deep

theorem hof_hd {x : Option Addr} {c l : Nat} (h : Hd) (ms : List Int) (w : World) (hs : Bys w x c ms) (hl : ms.length = l) (h4 : 4 ≤ ms.length) (hh : hdR ms = h) :
    Calls Tryd.prog 21 #[.slice x l c] w fun e w' => e = .returned (.agg #[.int .i64 h.id, .bool h.an, .int .i64 h.op, .bool h.aa, .bool h.tc, .bool h.rd, .bool h.ra, .bool h.z, .bool h.ad, .bool h.cd, .int .i64 h.code]) ∧ Below w.heap.size w w' := by
  subst hl hh
  exact hof_any x c ms w hs h4

theorem grown_rowM (w : World) (g : Nat) (C : Array Value) : w.grownBy (w.setRow g C) (some g) := ⟨rfl, rfl, rfl, by simp, fun k _ hk => setRow_other w g k C (fun e => hk (by rw [e]))⟩

theorem Bl.rowOut {t : TypeId} {w : World} {b g : Nat} {C : Array Value} (h : Bl t w b C) (hg : b ≠ g) (C' : Array Value) : Bl t (w.setRow g C') b C := by
  unfold Bl at h ⊢
  rw [setRow_other w g b C' hg, h]

theorem QRow.grownOff {w w' : World} {B b : Nat} {v : Value} {qs : List Qn} (h : QRow w B v qs) (hg : w.grownBy w' (some b)) (hb : b < B) : QRow w' B v qs := by
  obtain ⟨L, h1, h2, h3⟩ := h
  have hne : v.ownBlock ≠ some b := fun q => by have := (World.ownsRow.lt h2 b q).1; omega
  exact ⟨L, h1, h2.kept hg (Or.inr hne), fun e he => ⟨(h3 e he).1.kept hg (fun a ha => Or.inr (fun q => by have := ((h3 e he).2 a ha).1; have := Option.some.inj q; omega)), (h3 e he).2⟩⟩

theorem QRow.setOff {w : World} {B : Nat} {v : Value} {qs : List Qn} (h : QRow w B v qs) {p : Addr} (hp : p.block < B) (u : Value) : QRow (w.setCell p u) B v qs := by
  obtain ⟨L, h1, h2, h3⟩ := h
  exact ⟨L, h1, owns_far h2 hp u, fun e he => ⟨(h3 e he).1.far (fun a ha => by have := ((h3 e he).2 a ha).1; omega) u, (h3 e he).2⟩⟩

/-- A question appended, as a step of a region that draws. -/
theorem wp_append_qrow {w : World} {B g cc : Nat} {v : Value} {xs : List Qn} {q : Qn} {y : Option Addr} {s : Nat} {o : Oper} {a : Act} {K : Act → World → Prop} {Q : Exit → Act → World → Prop} (sl x : Operand)
    (ho : o.op = .call { callee := .builtin .append, args := #[sl, x], argTypes := #[25, 25] }) (hs : a.eval sl = v) (hx : a.eval x = .slice (some ⟨g, 0, none⟩) 1 cc) (hr : QRow w B v xs) (hk : Bl 65 w g #[.slice y q.N.length s, .int .i64 q.ty, .int .i64 q.cl])
    (h1 : Strs w y s q.N) (h4 : ∀ a, y = some a → B ≤ a.block ∧ (q.N = [] ∨ some a.block ≠ v.ownBlock)) (hl : xs.length ≤ 1000000000000) (hB : B ≤ w.heap.size)
    (hK : ∀ v' w', QRow w' B v' (xs ++ [q]) → w.grownBy w' v.ownBlock → K (a.put o.dst v') w') : o.wp Tryd.prog a w K Q := by
  obtain ⟨i0, hi, hz0, hz1, hz2⟩ := info_of_question
  obtain ⟨L, hL, hown, hin⟩ := hr
  have hLl : L.length = xs.length := by rw [← hL, List.length_map]
  obtain ⟨v1, w2, hrun, hown1, hgrow1, _, hloc⟩ := run_append_own_at (P := Tryd.prog) w B 25 o.type 65 i0 (.agg #[.slice none 0 0, .int .i64 0, .int .i64 0]) 3 40 Tryd.underlying25 hi hz0 hz1 hz2 rfl (by decide) v L.length (L.flatMap qcells) hown ⟨g, 0, none⟩ 1 cc [.slice y q.N.length s, .int .i64 q.ty, .int .i64 q.cl] rfl
    (fun j u hj => by
      rw [Go.WideShapes.add_plain, Nat.zero_add]
      exact hk.cell (i := j) (by rw [List.getElem?_toArray]; exact hj)) (by intro u hu; simp at hu; rcases hu with rfl | rfl | rfl <;> rfl) (by unfold maxLen; omega) (by omega) hB
  unfold Oper.wp execOp
  simp only [ho, resolve, invoke, builtin, Sem.run_bind, Sem.run_pure, Result.andThen_ok, List.map_toArray, List.map_cons, List.map_nil, hs, hx, hrun]
  have := QRow.snoc (q := q) (y := y) (s := s) hin h1 h4 hown1 hgrow1 hloc
  rw [hL] at this
  exact hK v1 w2 this hgrow1

theorem RRowP.weak' {w : World} {B : Nat} {P P' : Nat → Prop} {v : Value} {rs : List Rn} (h : RRowP w B P v rs) (hP : ∀ k, P k → P' k) : RRowP w B P' v rs := by
  obtain ⟨L, h1, h2, h3⟩ := h
  exact ⟨L, h1, h2, fun e he => ⟨⟨(h3 e he).1.1, fun a ha => ⟨((h3 e he).1.2 a ha).1, ((h3 e he).1.2 a ha).2.imp_right (fun q => ⟨hP _ q.1, q.2⟩)⟩⟩, (h3 e he).2.1, (h3 e he).2.2.1, fun a ha => ⟨((h3 e he).2.2.2 a ha).1, ((h3 e he).2.2.2 a ha).2.imp_right (fun q => ⟨hP _ q.1, q.2⟩)⟩⟩⟩

/-- Blocks that a part may lie in: not the message's own, not the result's, and there. -/
def Apart (m r n k : Nat) : Prop := k ≠ m ∧ k ≠ r ∧ k < n

/-- A section: nothing, or a row. -/
def Sec (m r : Nat) (w : World) (v : Value) : Option (List Rn) → Prop
  | none => v = .slice none 0 0
  | some rs => RRowP w 0 (Apart m r w.heap.size) v rs ∧ ∀ g, v.ownBlock = some g → m < g

theorem Sec.below {m r : Nat} {w w' : World} {v : Value} {s : Option (List Rn)} (h : Sec m r w v s) (k : Below w.heap.size w w') : Sec m r w' v s := by
  cases s with
  | none => exact h
  | some rs => exact ⟨(h.1.below k).weak' (fun j hj => ⟨hj.1, hj.2.1, Nat.lt_of_lt_of_le hj.2.2 k.size⟩), h.2⟩

theorem Sec.off {m r b : Nat} {w w' : World} {v : Value} {s : Option (List Rn)} (h : Sec m r w v s) (hg : w.grownBy w' (some b)) (hr : r < m) (hb : b = m ∨ b = r) : Sec m r w' v s := by
  cases s with
  | none => exact h
  | some rs =>
    refine ⟨(h.1.kept hg (fun q => ?_) (fun q => ?_)).weak' (fun j hj => ⟨hj.1, hj.2.1, Nat.lt_of_lt_of_le hj.2.2 hg.size⟩), h.2⟩
    · rcases hb with rfl | rfl
      · exact q.1 rfl
      · exact q.2.1 rfl
    · have := h.2 _ q
      omega

/-- The message under way: its block, its sections, the block of the result. -/
def MoSt (h : Hd) (w : World) (m : Nat) (qs : List Qn) (s1 s2 s3 : Option (List Rn)) (ws : World) : Prop :=
  ∃ xq cq V1 V2 V3, Bl 28 ws m #[.int .i64 h.id, .bool h.an, .int .i64 h.op, .bool h.aa, .bool h.tc, .bool h.rd, .bool h.ra, .bool h.z, .bool h.ad, .bool h.cd, .int .i64 h.code, .slice xq qs.length cq, V1, V2, V3] ∧ QRow ws (m + 1) (.slice xq qs.length cq) qs ∧ Sec m w.heap.size ws V1 s1 ∧ Sec m w.heap.size ws V2 s2 ∧ Sec m w.heap.size ws V3 s3 ∧ Bl 28 ws w.heap.size ms0 ∧ w.heap.size < m ∧ Below w.heap.size w ws

theorem MoSt.below {h : Hd} {w : World} {m : Nat} {qs : List Qn} {s1 s2 s3 : Option (List Rn)} {ws w' : World} (k : MoSt h w m qs s1 s2 s3 ws) (b : Below ws.heap.size ws w') : MoSt h w m qs s1 s2 s3 w' := by
  obtain ⟨xq, cq, V1, V2, V3, h1, h2, h3, h4, h5, h6, h7, h8⟩ := k
  exact ⟨xq, cq, V1, V2, V3, h1.below b, h2.below b, h3.below b, h4.below b, h5.below b, h6.below b, h7, grown_on h8 b⟩

theorem MoSt.cell {h : Hd} {w : World} {m : Nat} {qs : List Qn} {s1 s2 s3 : Option (List Rn)} {ws : World} (k : MoSt h w m qs s1 s2 s3 ws) : ∃ V1 V2 V3, ws.cell? ⟨m, 12, none⟩ = some V1 ∧ ws.cell? ⟨m, 13, none⟩ = some V2 ∧ ws.cell? ⟨m, 14, none⟩ = some V3 ∧ ws.frozen? ⟨m, 12, none⟩ = false ∧ ws.frozen? ⟨m, 13, none⟩ = false ∧ ws.frozen? ⟨m, 14, none⟩ = false := by
  obtain ⟨xq, cq, V1, V2, V3, h1, _⟩ := k
  exact ⟨V1, V2, V3, h1.cell (i := 12) rfl, h1.cell (i := 13) rfl, h1.cell (i := 14) rfl, h1.frozen 12, h1.frozen 13, h1.frozen 14⟩

theorem MoSt.put1 {h : Hd} {w : World} {m : Nat} {qs : List Qn} {ws : World} {v : Value} {rs : List Rn} (k : MoSt h w m qs none none none ws) (hs : Sec m w.heap.size ws v (some rs)) : MoSt h w m qs (some rs) none none (ws.setCell ⟨m, 12, none⟩ v) := by
  obtain ⟨xq, cq, V1, V2, V3, h1, h2, h3, h4, h5, h6, h7, h8⟩ := k
  have G := grown_set (grown_refl ws (some m)) 12 v
  exact ⟨xq, cq, v, V2, V3, h1.set 12 v, h2.setOff (Nat.lt_succ_self _) v, hs.off G h7 (Or.inl rfl), h4.off G h7 (Or.inl rfl), h5.off G h7 (Or.inl rfl), h6.far (by simp only; omega) v, h7, h8.setCell (Nat.le_of_lt h7) v⟩

theorem MoSt.put2 {h : Hd} {w : World} {m : Nat} {qs : List Qn} {r1 : List Rn} {ws : World} {v : Value} {rs : List Rn} (k : MoSt h w m qs (some r1) none none ws) (hs : Sec m w.heap.size ws v (some rs)) : MoSt h w m qs (some r1) (some rs) none (ws.setCell ⟨m, 13, none⟩ v) := by
  obtain ⟨xq, cq, V1, V2, V3, h1, h2, h3, h4, h5, h6, h7, h8⟩ := k
  have G := grown_set (grown_refl ws (some m)) 13 v
  exact ⟨xq, cq, V1, v, V3, h1.set 13 v, h2.setOff (Nat.lt_succ_self _) v, h3.off G h7 (Or.inl rfl), hs.off G h7 (Or.inl rfl), h5.off G h7 (Or.inl rfl), h6.far (by simp only; omega) v, h7, h8.setCell (Nat.le_of_lt h7) v⟩

theorem MoSt.put3 {h : Hd} {w : World} {m : Nat} {qs : List Qn} {r1 r2 : List Rn} {ws : World} {v : Value} {rs : List Rn} (k : MoSt h w m qs (some r1) (some r2) none ws) (hs : Sec m w.heap.size ws v (some rs)) : MoSt h w m qs (some r1) (some r2) (some rs) (ws.setCell ⟨m, 14, none⟩ v) := by
  obtain ⟨xq, cq, V1, V2, V3, h1, h2, h3, h4, h5, h6, h7, h8⟩ := k
  have G := grown_set (grown_refl ws (some m)) 14 v
  exact ⟨xq, cq, V1, V2, v, h1.set 14 v, h2.setOff (Nat.lt_succ_self _) v, h3.off G h7 (Or.inl rfl), h4.off G h7 (Or.inl rfl), hs.off G h7 (Or.inl rfl), h6.far (by simp only; omega) v, h7, h8.setCell (Nat.le_of_lt h7) v⟩

/-- What MessageOf answers. -/
def MoPost (ms : List Int) (w : World) (e : Ending) (w' : World) : Prop :=
  (∃ h qs r1 r2 r3 xq cq x1 c1 x2 c2 x3 c3, hdR ms = h ∧ msgR ms = (0, qs, r1, r2, r3) ∧ e = .returned (.tuple #[.agg #[.int .i64 h.id, .bool h.an, .int .i64 h.op, .bool h.aa, .bool h.tc, .bool h.rd, .bool h.ra, .bool h.z, .bool h.ad, .bool h.cd, .int .i64 h.code, .slice xq qs.length cq, .slice x1 r1.length c1, .slice x2 r2.length c2, .slice x3 r3.length c3], .int .i64 0]) ∧ Qs w' 0 xq cq qs ∧ Rs w' 0 x1 c1 r1 ∧ Rs w' 0 x2 c2 r2 ∧ Rs w' 0 x3 c3 r3 ∧ Below w.heap.size w w') ∨
    (∃ k, ¬ k = 0 ∧ msgR ms = (k, [], [], [], []) ∧ e = .returned (.tuple #[.agg ms0, .int .i64 k]) ∧ Below w.heap.size w w')

set_option maxRecDepth 100000 in
theorem results_mof (tmps : Array Value) (w : World) (b : Nat) (v0 v1 v2 v3 v4 v5 v6 v7 v8 v9 v10 v11 v12 v13 v14 : Value) (hp : tmps.getD 2 undef = .pointer (some ⟨b, 0, none⟩)) (hb : Bl 28 w b #[v0, v1, v2, v3, v4, v5, v6, v7, v8, v9, v10, v11, v12, v13, v14]) :
    (results Tryd.f5 tmps).run Tryd.prog w = .ok (.tuple #[.agg #[v0, v1, v2, v3, v4, v5, v6, v7, v8, v9, v10, v11, v12, v13, v14], tmps.getD 3 undef]) w := by
  have c0 : w.cell? ⟨b, 0, none⟩ = some v0 := hb.cell (i := 0) rfl
  have c1 : w.cell? ⟨b, 1, none⟩ = some v1 := hb.cell (i := 1) rfl
  have c2 : w.cell? ⟨b, 2, none⟩ = some v2 := hb.cell (i := 2) rfl
  have c3 : w.cell? ⟨b, 3, none⟩ = some v3 := hb.cell (i := 3) rfl
  have c4 : w.cell? ⟨b, 4, none⟩ = some v4 := hb.cell (i := 4) rfl
  have c5 : w.cell? ⟨b, 5, none⟩ = some v5 := hb.cell (i := 5) rfl
  have c6 : w.cell? ⟨b, 6, none⟩ = some v6 := hb.cell (i := 6) rfl
  have c7 : w.cell? ⟨b, 7, none⟩ = some v7 := hb.cell (i := 7) rfl
  have c8 : w.cell? ⟨b, 8, none⟩ = some v8 := hb.cell (i := 8) rfl
  have c9 : w.cell? ⟨b, 9, none⟩ = some v9 := hb.cell (i := 9) rfl
  have c10 : w.cell? ⟨b, 10, none⟩ = some v10 := hb.cell (i := 10) rfl
  have c11 : w.cell? ⟨b, 11, none⟩ = some v11 := hb.cell (i := 11) rfl
  have c12 : w.cell? ⟨b, 12, none⟩ = some v12 := hb.cell (i := 12) rfl
  have c13 : w.cell? ⟨b, 13, none⟩ = some v13 := hb.cell (i := 13) rfl
  have c14 : w.cell? ⟨b, 14, none⟩ = some v14 := hb.cell (i := 14) rfl
  have hp' : tmps[2]?.getD undef = .pointer (some ⟨b, 0, none⟩) := by simpa using hp
  simp [results, Tryd.results5, go_sem, hp', c0, c1, c2, c3, c4, c5, c6, c7, c8, c9, c10, c11, c12, c13, c14]

end Go.Proofs.YtbbgabdiikdjpaaDoor

namespace Go.Proofs.YtbbgabdiikdjpaaDoor
open Go.RowKit Go.Deep

theorem RRowP.ownLt {w : World} {B : Nat} {P : Nat → Prop} {v : Value} {rs : List Rn} (h : RRowP w B P v rs) : ∀ g, v.ownBlock = some g → g < w.heap.size := by
  obtain ⟨L, h1, h2, h3⟩ := h
  exact fun g hg => (World.ownsRow.lt h2 g hg).2

/-- The loop over the questions. -/
def MoQ (h : Hd) (W1 : World) (ms : List Int) (mb n0 : Nat) (va vi : Value) (wr : World) : Prop :=
  ∃ (ys : List Qn) (b : Nat) (v : Value), ys.length ≤ n0 ∧ Parts (readQ ms) 12 ys b ∧ b ≤ ms.length ∧ va = .int .i64 (b : Int) ∧ vi = .int .i64 (ys.length : Int) ∧ Bl 28 wr mb #[.int .i64 h.id, .bool h.an, .int .i64 h.op, .bool h.aa, .bool h.tc, .bool h.rd, .bool h.ra, .bool h.z, .bool h.ad, .bool h.cd, .int .i64 h.code, v, .slice none 0 0, .slice none 0 0, .slice none 0 0] ∧ QRow wr (mb + 1) v ys ∧ Below mb W1 wr ∧ mb + 1 ≤ wr.heap.size

/-- The loop over a section. -/
def MoIn (ms : List Int) (a n mb r0 : Nat) (ws : World) (va vl vi : Value) (wr : World) : Prop :=
  ∃ (ys : List Rn) (b : Nat), ys.length ≤ n ∧ Parts (readR ms) a ys b ∧ b ≤ ms.length ∧ va = .int .i64 (b : Int) ∧ vi = .int .i64 (ys.length : Int) ∧ Sec mb r0 wr vl (some ys) ∧ (∀ g, vl.ownBlock = some g → ws.heap.size ≤ g) ∧ Below ws.heap.size ws wr

/-- The loop over the sections. -/
def MoRel (h : Hd) (w : World) (M : Nat) (qs : List Qn) (r1 r2 r3 : List Rn) (k1 k2 k3 : Int) (a0 a1 a2 a3 : Nat) (va vi : Value) (wr : World) : Prop :=
  (va = .int .i64 (a0 : Int) ∧ vi = .int .i64 0 ∧ MoSt h w M qs none none none wr) ∨ (k1 = 0 ∧ va = .int .i64 (a1 : Int) ∧ vi = .int .i64 1 ∧ MoSt h w M qs (some r1) none none wr) ∨
    (k1 = 0 ∧ k2 = 0 ∧ va = .int .i64 (a2 : Int) ∧ vi = .int .i64 2 ∧ MoSt h w M qs (some r1) (some r2) none wr) ∨ (k1 = 0 ∧ k2 = 0 ∧ k3 = 0 ∧ va = .int .i64 (a3 : Int) ∧ vi = .int .i64 3 ∧ MoSt h w M qs (some r1) (some r2) (some r3) wr)

set_option maxHeartbeats 1000000 in
set_option maxRecDepth 100000 in
theorem mof_short {x : Option Addr} {c l : Nat} (ms : List Int) (w : World) (hl : ms.length = l) (h12 : ms.length < 12) :
    Calls Tryd.prog 5 #[.slice x l c] w (MoPost ms w) := by
  subst hl
  have i1 : (ms.length : Int) < 12 := by omega
  have K0 := Bl.new 28 w ms0
  have B0 : Below w.heap.size w (w.alloc (.cells ms0 28)) := (Below.refl _ w).alloc (Nat.le_refl _) _
  go_enter Tryd.func5, Tryd.ntmps5
  go_wp2_with fail
  refine bodyPost_ret (results_mof _ _ w.heap.size _ _ _ _ _ _ _ _ _ _ _ _ _ _ _ rfl K0) rfl ?_
  exact Or.inr ⟨2, by decide, msgR_short h12, rfl, B0⟩

theorem qrow_val {w : World} {B : Nat} {v : Value} {xs : List Qn} (h : QRow w B v xs) : ∃ x c, v = .slice x xs.length c := by
  obtain ⟨L, hL, h2, _⟩ := h
  have hl : L.length = xs.length := by rw [← hL, List.length_map]
  rcases h2.2 with ⟨e, e2⟩ | ⟨g, cap, cur, e, _, _, hn, _⟩
  · exact ⟨none, 0, by rw [e, ← hl, e2]⟩
  · exact ⟨_, cap, by rw [e, hl]⟩

theorem recat_good {x : Option Addr} {c l : Nat} (X : Nat → Prop) (hX : ∀ a, x = some a → X a.block) (ms : List Int) (a nx : Nat) (r : Rn) (w : World) (h : Bys w x c ms) (hl : ms.length = l) (ha : a ≤ 9000000000000000000) (hr : readR ms a = (0, r, nx)) :
    Calls Tryd.prog 24 #[.slice x l c, .int .i64 (a : Int)] w fun e w' => ∃ y q z t p, e = .returned (.agg #[.slice y r.N.length q, .int .i64 r.ty, .int .i64 r.cl, .int .i64 r.ttl, .slice z r.D.length t, .int .i64 p, .int .i64 (nx : Int), .int .i64 0]) ∧ Strs w' y q r.N ∧ (∀ a, y = some a → w.heap.size ≤ a.block) ∧ Bys w z t r.D ∧ (z = none → t = 0) ∧ (∀ a, z = some a → X a.block) ∧ Below w.heap.size w w' := by
  refine (recat_any X hX ms a w h hl ha).mono ?_
  intro e w' hp
  rw [hr] at hp
  rcases hp with ⟨_, hp⟩ | ⟨hp, _⟩
  · exact hp
  · exact absurd rfl hp

theorem recat_bad {x : Option Addr} {c l : Nat} (X : Nat → Prop) (hX : ∀ a, x = some a → X a.block) (ms : List Int) (a nx : Nat) (k : Int) (r : Rn) (w : World) (h : Bys w x c ms) (hl : ms.length = l) (ha : a ≤ 9000000000000000000) (hr : readR ms a = (k, r, nx)) (hk : ¬ k = 0) :
    Calls Tryd.prog 24 #[.slice x l c, .int .i64 (a : Int)] w fun e w' => e = .returned (.agg #[.slice none 0 0, .int .i64 0, .int .i64 0, .int .i64 0, .slice none 0 0, .int .i64 0, .int .i64 0, .int .i64 k]) ∧ Below w.heap.size w w' := by
  refine (recat_any X hX ms a w h hl ha).mono ?_
  intro e w' hp
  rw [hr] at hp
  rcases hp with ⟨hp, _⟩ | ⟨_, hp⟩
  · exact absurd hp hk
  · exact hp

theorem RRowP.void (w : World) (B : Nat) (P : Nat → Prop) : RRowP w B P (.slice none 0 0) [] := ⟨[], rfl, World.ownsRow_nil _ _ _ _, fun e he => by simp at he⟩

theorem MoSt.facts {h : Hd} {w : World} {m : Nat} {qs : List Qn} {s1 s2 s3 : Option (List Rn)} {ws : World} (k : MoSt h w m qs s1 s2 s3 ws) : Bl 28 ws w.heap.size ms0 ∧ w.heap.size < m ∧ Below w.heap.size w ws ∧ m < ws.heap.size := by
  obtain ⟨xq, cq, V1, V2, V3, h1, h2, h3, h4, h5, h6, h7, h8⟩ := k
  exact ⟨h6, h7, h8, h1.lt⟩

theorem prN_pair {ms : List Int} (hb : ∀ b ∈ ms, 0 ≤ b ∧ b ≤ 255) (i : Nat) : prN ms (i : Int) = (pairN ms i : Int) := by
  unfold prN pairN
  have g0 := getD_byte hb i
  have g1 := getD_byte hb (i + 1)
  rw [Int.toNat_natCast]
  omega

set_option maxHeartbeats 20000000 in
set_option maxRecDepth 100000 in
theorem mof_any {x : Option Addr} {c l : Nat} (ms : List Int) (w : World) (hs : Bys w x c ms) (hl : ms.length = l) :
    Calls Tryd.prog 5 #[.slice x l c] w (MoPost ms w) := by
  by_cases h12 : ms.length < 12
  · exact mof_short ms w hl h12
  subst hl
  have h12' : 12 ≤ ms.length := by omega
  have hlen : ms.length ≤ 200000000000000 := hs.2.1
  have hbs := hs.2.2.1
  have hX : ∀ a, x = some a → a.block < w.heap.size := fun a ha => (bys_lt hs ha).resolve_left (fun q => by rw [q] at h12'; simp at h12')
  have HX := hid hX
  have HBS := hid hbs
  have HH := hid hs
  have PQ : Hid (∀ u, Below w.heap.size w u → ∀ z, 0 ≤ z → z + 2 ≤ (ms.length : Int) → Calls Tryd.prog 22 #[.slice x ms.length c, .int .i64 z] u fun e u' => e = .returned (.int .i64 (prN ms z)) ∧ Drawn u u') := hid (fun u hu z h0 h1 => pair_quiet ms z _ u (hs.below hu) rfl h0 h1 rfl)
  obtain ⟨⟨k0, qs, a0⟩, e0⟩ : ∃ s, partsN (readQ ms) (pairN ms 4) 12 = s := ⟨_, rfl⟩
  obtain ⟨⟨k1, r1, a1⟩, e1⟩ : ∃ s, partsN (readR ms) (pairN ms 6) a0 = s := ⟨_, rfl⟩
  obtain ⟨⟨k2, r2, a2⟩, e2⟩ : ∃ s, partsN (readR ms) (pairN ms 8) a1 = s := ⟨_, rfl⟩
  obtain ⟨⟨k3, r3, a3⟩, e3⟩ : ∃ s, partsN (readR ms) (pairN ms 10) a2 = s := ⟨_, rfl⟩
  obtain ⟨h, hh⟩ : ∃ h, hdR ms = h := ⟨_, rfl⟩
  have p0 := pair_le hbs 4
  have p1 := pair_le hbs 6
  have p2 := pair_le hbs 8
  have p3 := pair_le hbs 10
  have E0 := hid e0
  have E1 := hid e1
  have E2 := hid e2
  have E3 := hid e3
  have HHD := hid hh
  clear e0 e1 e2 e3 hh hX
  have Q4 := prN_pair hbs 4
  have Q6 := prN_pair hbs 6
  have Q8 := prN_pair hbs 8
  have Q10 := prN_pair hbs 10
  obtain ⟨n0, N0⟩ : ∃ n0, Hid (pairN ms 4 = n0) := ⟨_, hid rfl⟩
  obtain ⟨n1, N1⟩ : ∃ n1, Hid (pairN ms 6 = n1) := ⟨_, hid rfl⟩
  obtain ⟨n2, N2⟩ : ∃ n2, Hid (pairN ms 8 = n2) := ⟨_, hid rfl⟩
  obtain ⟨n3, N3⟩ : ∃ n3, Hid (pairN ms 10 = n3) := ⟨_, hid rfl⟩
  rw [N0.out] at p0 Q4
  rw [N1.out] at p1 Q6
  rw [N2.out] at p2 Q8
  rw [N3.out] at p3 Q10
  have HQ4 : Hid (prN ms 4 = (n0 : Int)) := hid Q4
  have HQ6 : Hid (prN ms 6 = (n1 : Int)) := hid Q6
  have HQ8 : Hid (prN ms 8 = (n2 : Int)) := hid Q8
  have HQ10 : Hid (prN ms 10 = (n3 : Int)) := hid Q10
  clear Q4 Q6 Q8 Q10
  have i1 : ¬ (ms.length : Int) < 12 := by omega
  have l12 : (12 : Int) ≤ (ms.length : Int) := by omega
  clear hs hbs
  go_enter Tryd.func5, Tryd.ntmps5
  go_wp2_with fail
  have B0 : Below w.heap.size w _ := (Below.refl _ w).alloc (Nat.le_refl _) (.cells ms0 28)
  have K0 := Bl.new 28 w ms0
  refine (hof_hd h ms _ (HH.out.below B0) rfl (by omega) HHD.out).mono ?_
  rintro e w1 ⟨rfl, b1⟩
  have B1 := hid (grown_on B0 b1)
  have K1 := hid (K0.below b1)
  have hw1 : w.heap.size < w1.heap.size := K1.out.lt
  have KM := hid (Bl.new 28 w1 #[.int .i64 h.id, .bool h.an, .int .i64 h.op, .bool h.aa, .bool h.tc, .bool h.rd, .bool h.ra, .bool h.z, .bool h.ad, .bool h.cd, .int .i64 h.code, .slice none 0 0, .slice none 0 0, .slice none 0 0, .slice none 0 0])
  have BM := hid ((Below.refl w1.heap.size w1).alloc (Nat.le_refl _) (.cells #[.int .i64 h.id, .bool h.an, .int .i64 h.op, .bool h.aa, .bool h.tc, .bool h.rd, .bool h.ra, .bool h.z, .bool h.ad, .bool h.cd, .int .i64 h.code, .slice none 0 0, .slice none 0 0, .slice none 0 0, .slice none 0 0] 28))
  clear B0 K0 b1
  go_upto_region 4 with fail
  generalize w1.alloc (.cells #[.int .i64 h.id, .bool h.an, .int .i64 h.op, .bool h.aa, .bool h.tc, .bool h.rd, .bool h.ra, .bool h.z, .bool h.ad, .bool h.cd, .int .i64 h.code, .slice none 0 0, .slice none 0 0, .slice none 0 0, .slice none 0 0] 28) = W at *
  obtain ⟨M, hM⟩ : ∃ M, w1.heap.size = M := ⟨_, rfl⟩
  rw [hM] at KM BM hw1 ⊢
  have hMW : M + 1 ≤ W.heap.size := KM.out.lt
  go_wp2_with fail
  go_loopw [5, 6] (fun va vi wr => MoQ h w1 ms M n0 va vi wr) (fun _ vi _ => n0 - (intOf vi).toNat)
  case atStart => exact ⟨[], 12, .slice none 0 0, Nat.zero_le _, rfl, h12', rfl, rfl, KM.out, QRow.nil W _, BM.out, hMW⟩
  case round =>
    obtain ⟨ys, b, v, hy, hp, hb, rfl, rfl, hkm, hrow, hbel, hmw⟩ := hrel
    have P := hid hp
    have KQ := hid hkm
    have QR := hid hrow
    have BQ := hid hbel
    have BW := hid (B1.out.trans (hbel.mono (show w.heap.size ≤ M by omega)))
    have KR := hid (K1.out.under hw1 hbel)
    clear hp hkm hrow hbel KM BM
    go_wp2_with fail
    refine (PQ.out _ BW.out 4 (by omega) (by omega)).mono ?_
    rintro e wq ⟨rfl, dq⟩
    rw [HQ4.out]
    replace KQ := hid (KQ.out.below (dq.below _))
    replace QR := hid (QR.out.below (dq.below _))
    replace KR := hid (KR.out.below (dq.below _))
    replace BQ := hid (BQ.out.trans (dq.below _))
    replace BW := hid (BW.out.trans (dq.below _))
    replace hmw : M + 1 ≤ wq.heap.size := Nat.le_trans hmw (dq.below 0).size
    clear dq
    by_cases c1 : ys.length < n0
    · skip
      have c2 : (ys.length : Int) < (n0 : Int) := by omega
      obtain ⟨⟨k, L, n⟩, hr⟩ : ∃ s, readW ms (b : Int) = s := ⟨_, rfl⟩
      have HRW := hid hr
      clear hr
      have OWN : Hid (∀ g, v.ownBlock = some g → M + 1 ≤ g ∧ g < wq.heap.size) := hid (fun g hg => by obtain ⟨_, _, o, _⟩ := QR.out; exact World.ownsRow.lt o g hg)
      go_wp2_with fail
      refine (nameAt_new k L n ms (b : Int) _ (HH.out.below BW.out) rfl (by omega) HRW.out).mono ?_
      rintro e w3 ⟨y, q, rfl, hs1, b3, f3⟩
      have A3 := (Below.refl w3.heap.size w3).alloc (Nat.le_refl _) (.cells #[.slice y L.length q, .int .i64 (n : Int), .int .i64 k] 62)
      have T3 := hid (Bl.new 62 w3 #[.slice y L.length q, .int .i64 (n : Int), .int .i64 k])
      have b4 := grown_on b3 A3
      replace KQ := hid (KQ.out.below b4)
      replace QR := hid (QR.out.below b4)
      replace KR := hid (KR.out.below b4)
      replace BQ := hid (BQ.out.trans (b4.mono (Nat.le_of_succ_le hmw)))
      replace BW := hid (grown_on BW.out b4)
      have S3 := hid (hs1.below A3)
      have F3 : Hid (∀ a, y = some a → wq.heap.size ≤ a.block) := hid f3
      have hw3 : wq.heap.size ≤ w3.heap.size := b3.size
      clear b3 b4 A3 hs1 f3
      go_upto_region 9 with fail
      generalize w3.alloc (.cells #[.slice y L.length q, .int .i64 (n : Int), .int .i64 k] 62) = w4 at *
      generalize w3.heap.size = tb at *
      have htb : w.heap.size < tb := by omega
      have t0 := T3.out.cell (i := 0) rfl
      have t1 := T3.out.cell (i := 1) rfl
      have t2 := T3.out.cell (i := 2) rfl
      by_cases k0' : k = 0
      · skip
        subst k0'
        obtain ⟨_, m1, m2, _⟩ := readW_may HBS.out HRW.out
        have htM : M < tb := by omega
        by_cases c4 : (ms.length : Int) < (n : Int) + 4
        · skip
          have XM : Hid (msgR ms = (2, [], [], [], [])) := hid (by
            have q1 := parts_err (k := 2) (by decide) P.out c1 (by rw [readQ_short HRW.out (by omega)])
            rw [← N0.out] at q1
            exact msgR_q h12' q1 (by decide))
          go_wp2_with (first | (refine wpList_store_row rfl 28 (.tmp 2) (.tmp 40) rfl w.heap.size ms0 rfl rfl 28 ms0 KR.out size_message rfl (by simp [ms0, Value.oneCell']) ?_) | fail)
          refine bodyPost_ret (results_mof _ _ w.heap.size _ _ _ _ _ _ _ _ _ _ _ _ _ _ _ rfl (KR.out.rowIn ms0)) rfl ?_
          exact Or.inr ⟨2, by decide, XM.out, rfl, below_setRow BW.out (Nat.le_refl _) _⟩
        · skip
          have QN : Hid (readQ ms b = (0, (⟨L.map strOfNums, prN ms (n : Int), prN ms ((n : Int) + 2)⟩ : Qn), n + 4)) := hid (by
            rw [readQ_of HRW.out (by omega), num_cut2 (by omega), num_cut2 (by omega)]
            have q2 : ((n : Int) + 2).toNat = n + 2 := by omega
            simp only [prN, Int.toNat_natCast, q2])
          have cM := KQ.out.cell (i := 11) rfl
          have fM := KQ.out.frozen 11
          have hMw4 : M < w4.heap.size := KQ.out.lt
          have htw4 : tb < w4.heap.size := T3.out.lt
          go_upto_region 13 with fail
          have hc0 : ∀ s' : Keep [((⟨M, 11, none⟩ : Addr), v), ((⟨tb, 0, none⟩ : Addr), (Value.slice y L.length q)), ((⟨tb, 1, none⟩ : Addr), (Value.int .i64 (n : Int)))], s'.val.cell? ⟨M, 11, none⟩ = some v := fun s' => s'.cells ((⟨M, 11, none⟩ : Addr), v) (by simp)
          have hc1 : ∀ s' : Keep [((⟨M, 11, none⟩ : Addr), v), ((⟨tb, 0, none⟩ : Addr), (Value.slice y L.length q)), ((⟨tb, 1, none⟩ : Addr), (Value.int .i64 (n : Int)))], s'.val.cell? ⟨tb, 0, none⟩ = some (.slice y L.length q) := fun s' => s'.cells ((⟨tb, 0, none⟩ : Addr), (Value.slice y L.length q)) (by simp)
          have hc2 : ∀ s' : Keep [((⟨M, 11, none⟩ : Addr), v), ((⟨tb, 0, none⟩ : Addr), (Value.slice y L.length q)), ((⟨tb, 1, none⟩ : Addr), (Value.int .i64 (n : Int)))], s'.val.cell? ⟨tb, 1, none⟩ = some (.int .i64 (n : Int)) := fun s' => s'.cells ((⟨tb, 1, none⟩ : Addr), (Value.int .i64 (n : Int))) (by simp)
          have hk0 : ∀ u : World, u.cell? ⟨M, 11, none⟩ = some v → u.cell? ⟨tb, 0, none⟩ = some (.slice y L.length q) → u.cell? ⟨tb, 1, none⟩ = some (.int .i64 (n : Int)) → ∃ s' : Keep [((⟨M, 11, none⟩ : Addr), v), ((⟨tb, 0, none⟩ : Addr), (Value.slice y L.length q)), ((⟨tb, 1, none⟩ : Addr), (Value.int .i64 (n : Int)))], u = s'.val := fun u h1 h2 h3 => ⟨⟨u, fun e he => by
            simp only [List.mem_cons, List.not_mem_nil, or_false] at he
            rcases he with rfl | rfl | rfl
            · exact h1
            · exact h2
            · exact h3⟩, rfl⟩
          have HK0 := hid hk0
          have hNe : Nonempty (Keep [((⟨M, 11, none⟩ : Addr), v), ((⟨tb, 0, none⟩ : Addr), (Value.slice y L.length q)), ((⟨tb, 1, none⟩ : Addr), (Value.int .i64 (n : Int)))]) := by obtain ⟨s', _⟩ := hk0 w4 cM t0 t1; exact ⟨s'⟩
          refine wp_region_fork [0, 1, 2, 3, 4, 5, 6, 8, 9, 10, 11] (.one 7 (.one 12 (.one 13 (.one 14 (.one 15 (.one 16 (.one 17 .nil))))))) (fun u => ∃ s' : Keep [((⟨M, 11, none⟩ : Addr), v), ((⟨tb, 0, none⟩ : Addr), (Value.slice y L.length q)), ((⟨tb, 1, none⟩ : Addr), (Value.int .i64 (n : Int)))], u = s'.val) (by kernel_rfl) (by kernel_rfl) (by kernel_rfl) (hk0 _ cM t0 t1) ?_
          change wpQuiet _ _ _ _ [_, _, _, _, _, _, _, _, _, _, _] _
          repeat (go_big_quiet_step (fail))
          refine wpQuiet_nil ?_
          clear hc0 hc1 hc2 hk0 hNe
          have DA : Drawn w4 w4.drew := (Drawn.refl w4).more 1
          change stepL _ _ _ _ _ _ _ _ _
          refine stepL_at (by rfl) fun K Q' hK => ?_
          go_simp
          refine (PQ.out _ (BW.out.trans (DA.below _)) (n : Int) (by omega) (by omega)).mono ?_
          rintro e u1 ⟨rfl, d⟩
          replace DA := DA.trans d
          clear d
          refine hK _ _ (fun _ => HK0.out _ ((DA.cell _).trans cM) ((DA.cell _).trans t0) ((DA.cell _).trans t1)) ?_
          clear hK
          change stepL _ _ _ _ _ _ _ _ _
          refine stepL_at (by rfl) fun K Q' hK => ?_
          go_simp
          refine (PQ.out _ (BW.out.trans (DA.below _)) ((n : Int) + 2) (by omega) (by omega)).mono ?_
          rintro e u2 ⟨rfl, d⟩
          replace DA := DA.trans d
          clear d
          refine hK _ _ (fun _ => HK0.out _ ((DA.cell _).trans cM) ((DA.cell _).trans t0) ((DA.cell _).trans t1)) ?_
          clear hK
          change stepL _ _ _ _ _ _ _ _ _
          refine stepL_at (by rfl) fun K Q' hK => ?_
          go_simp
          refine hK _ _ (fun _ => HK0.out _ ((DA.cell _).trans cM) ((DA.cell _).trans t0) ((DA.cell _).trans t1)) ?_
          clear hK
          change stepL _ _ _ _ _ _ _ _ _
          refine stepL_at (by rfl) fun K Q' hK => ?_
          go_simp
          have HB : Below w4.heap.size w4 (u2.alloc (.cells #[.slice y L.length q, .int .i64 (prN ms (n : Int)), .int .i64 (prN ms ((n : Int) + 2))] 65)) := (DA.below _).alloc (DA.below 0).size _
          have hkb : Bl 65 (u2.alloc (.cells #[.slice y L.length q, .int .i64 (prN ms (n : Int)), .int .i64 (prN ms ((n : Int) + 2))] 65)) u2.heap.size #[.slice y (L.map strOfNums).length q, .int .i64 (prN ms (n : Int)), .int .i64 (prN ms ((n : Int) + 2))] := by rw [List.length_map]; exact Bl.new 65 u2 _
          have hB8 : M + 1 ≤ (u2.alloc (.cells #[.slice y L.length q, .int .i64 (prN ms (n : Int)), .int .i64 (prN ms ((n : Int) + 2))] 65)).heap.size := Nat.le_trans hMw4 HB.size
          have dM := (HB.cell (p := ⟨M, 11, none⟩) hMw4).trans cM
          have d0 := (HB.cell (p := ⟨tb, 0, none⟩) htw4).trans t0
          have d1 := (HB.cell (p := ⟨tb, 1, none⟩) htw4).trans t1
          refine hK _ _ (fun _ => HK0.out _ dM d0 d1) ?_
          clear hK
          change stepL _ _ _ _ _ _ _ _ _
          refine stepL_at (by rfl) fun K Q' hK => ?_
          refine wp_append_qrow (B := M + 1) (g := u2.heap.size) (cc := 1) (xs := ys) (q := (⟨L.map strOfNums, prN ms (n : Int), prN ms ((n : Int) + 2)⟩ : Qn)) (y := y) (s := q) (.tmp 42) (.tmp 55) rfl rfl rfl (QR.out.below HB) hkb (S3.out.below HB) (fun a ha => ⟨by have := F3.out a ha; omega, Or.inr (fun e => by have := F3.out a ha; have := OWN.out _ e.symm; omega)⟩) (by omega) hB8 ?_
          intro v9 w9 r9 g9
          have nM : some M ≠ v.ownBlock := fun e => by have := OWN.out _ e.symm; omega
          have nT : some tb ≠ v.ownBlock := fun e => by have := OWN.out _ e.symm; omega
          have nR : some w.heap.size ≠ v.ownBlock := fun e => by have := OWN.out _ e.symm; omega
          have e1 := g9.cell d1 nT
          refine hK _ _ (fun _ => HK0.out _ (g9.cell dM nM) (g9.cell d0 nT) e1) ?_
          have K9 := hid ((KQ.out.below HB).grown g9 nM)
          have R9 := hid ((KR.out.below HB).grown g9 nR)
          have B9 := hid ((BQ.out.trans (HB.mono (Nat.le_of_lt hMw4))).grown g9 (Nat.le_of_succ_le hB8) (fun j hj => by have := OWN.out j hj; omega))
          have hB9 : M + 1 ≤ w9.heap.size := Nat.le_trans hB8 g9.size
          have eM := g9.cell dM nM
          have e0 := g9.cell d0 nT
          clear hK
          change stepL _ _ _ _ _ _ _ _ _
          refine stepL_at (by rfl) fun K Q' hK => ?_
          go_simp
          refine hK _ _ (fun _ => HK0.out _ eM e0 e1) ?_
          clear hK
          obtain ⟨x9, c9, hv9⟩ := qrow_val r9
          obtain ⟨l9, hl9⟩ : ∃ l, (ys ++ [(⟨L.map strOfNums, prN ms (n : Int), prN ms ((n : Int) + 2)⟩ : Qn)]).length = l := ⟨_, rfl⟩
          rw [hl9] at hv9
          subst hv9
          clear hl9
          have f9 := K9.out.frozen 11
          have K8 : Hid (Bl 28 (w9.setCell ⟨M, 11, none⟩ (.slice x9 l9 c9)) M #[.int .i64 h.id, .bool h.an, .int .i64 h.op, .bool h.aa, .bool h.tc, .bool h.rd, .bool h.ra, .bool h.z, .bool h.ad, .bool h.cd, .int .i64 h.code, .slice x9 l9 c9, .slice none 0 0, .slice none 0 0, .slice none 0 0]) := hid (K9.out.set 11 _)
          have R8 := hid (R9.out.far (p := ⟨M, 11, none⟩) (by simp only; omega) (.slice x9 l9 c9))
          have B8 := hid (B9.out.setCell (p := ⟨M, 11, none⟩) (Nat.le_refl _) (.slice x9 l9 c9))
          have Q8 := hid (r9.setOff (p := ⟨M, 11, none⟩) (Nat.lt_succ_self _) (.slice x9 l9 c9))
          have h8 : M + 1 ≤ (w9.setCell ⟨M, 11, none⟩ (.slice x9 l9 c9)).heap.size := by simpa [World.setCell] using hB9
          have g1 : (w9.setCell ⟨M, 11, none⟩ (.slice x9 l9 c9)).cell? ⟨tb, 1, none⟩ = some (.int .i64 (n : Int)) := (cell_far (p := ⟨M, 11, none⟩) (q := ⟨tb, 1, none⟩) (by simp only; omega) _).trans e1
          change stepL _ _ _ _ _ _ _ _ _
          refine stepL_at (by rfl) fun K Q' hK => ?_
          go_simp
          refine hK _ _ (fun q => absurd q (by decide)) ?_
          clear hK
          refine treeL_nil ?_
          clear HB hkb dM d0 d1 nM nT nR eM e0 e1 K9 R9 B9 f9 cM fM t0 t1 t2 T3 KQ QR KR BQ BW r9 g9 HK0 DA R8
          generalize w9.setCell ⟨M, 11, none⟩ (.slice x9 l9 c9) = w8 at *
          go_wp2_with fail
          exact ⟨⟨ys ++ [(⟨L.map strOfNums, prN ms (n : Int), prN ms ((n : Int) + 2)⟩ : Qn)], n + 4, .slice x9 l9 c9, by rw [List.length_append, List.length_singleton]; omega, parts_snoc P.out QN.out, by omega, by go_num, by rw [List.length_append, List.length_singleton]; go_num, K8.out, Q8.out, B8.out, h8⟩, by simp [intOf]; omega⟩
      · skip
        have Z := hid k0'
        have kb : (k != 0) = true := bne_iff_ne.2 k0'
        have XM : Hid (msgR ms = (k, [], [], [], [])) := hid (by
          have q1 := parts_err k0' P.out c1 (show (readQ ms b).1 = k by rw [readQ_bad HRW.out k0'])
          rw [← N0.out] at q1
          exact msgR_q h12' q1 k0')
        clear k0'
        go_upto_region 10 with fail
        have hc : ∀ s' : Keep [((⟨tb, 2, none⟩ : Addr), (Value.int .i64 k))], s'.val.cell? ⟨tb, 2, none⟩ = some (.int .i64 k) := fun s' => s'.cells _ List.mem_cons_self
        have hNe : Nonempty (Keep [((⟨tb, 2, none⟩ : Addr), (Value.int .i64 k))]) := Keep.some w4 (fun e he => by rw [List.mem_singleton.1 he]; exact t2)
        have hk0 : ∀ u : World, u.cell? ⟨tb, 2, none⟩ = some (.int .i64 k) → ∃ s' : Keep [((⟨tb, 2, none⟩ : Addr), (Value.int .i64 k))], u = s'.val := fun u hu => ⟨⟨u, fun e he => by rw [List.mem_singleton.1 he]; exact hu⟩, rfl⟩
        have HK1 := hk0 (World.drew w4) t2
        have HK2 := hk0 ((World.drew w4).setRow w.heap.size ms0) (by rw [cell_setRow_other _ _ _ _ (by simp only; omega)]; exact t2)
        refine wp_region_fork [1, 2] (.one 0 (.one 3 (.one 4 .nil))) (fun u => ∃ s' : Keep [((⟨tb, 2, none⟩ : Addr), (Value.int .i64 k))], u = s'.val) (by kernel_rfl) (by kernel_rfl) (by kernel_rfl) HK1 ?_
        change wpQuiet _ _ _ _ [_, _] _
        repeat (go_big_quiet_step (fail))
        refine wpQuiet_nil ?_
        clear hc hNe hk0
        change stepL _ _ _ _ _ _ _ _ _
        refine stepL_at (by rfl) fun K Q' hK => ?_
        go_simp
        refine hK _ _ (fun _ => HK1) ?_
        clear hK
        change stepL _ _ _ _ _ _ _ _ _
        refine stepL_at (by rfl) fun K Q' hK => ?_
        refine wp_store_row 28 (.tmp 2) (.tmp 31) rfl w.heap.size ms0 rfl rfl 28 ms0 KR.out.drew size_message rfl (by simp [ms0, Value.oneCell']) ?_
        refine hK _ _ (fun _ => HK2) ?_
        clear hK
        change stepL _ _ _ _ _ _ _ _ _
        refine stepL_at (by rfl) fun K Q' hK => ?_
        go_simp
        refine hK _ _ (fun q => absurd q (by decide)) ?_
        clear hK HK1 HK2
        refine treeL_nil ?_
        go_wp2_with fail
        refine bodyPost_ret (results_mof _ _ w.heap.size _ _ _ _ _ _ _ _ _ _ _ _ _ _ _ rfl (KR.out.drew.rowIn ms0)) rfl ?_
        exact Or.inr ⟨k, Z.out, XM.out, rfl, below_setRow BW.out.drew (Nat.le_refl _) _⟩
    · skip
      have c2 : ¬ (ys.length : Int) < (n0 : Int) := by omega
      obtain ⟨rfl, rfl, rfl⟩ : k0 = 0 ∧ qs = ys ∧ a0 = b := by
        have q1 := parts_of P.out
        have e : ys.length = n0 := by omega
        rw [e, ← N0.out, E0.out] at q1
        simpa using q1
      obtain ⟨xq, cq, rfl⟩ := qrow_val QR.out
      have ST : Hid (MoSt h w M qs none none none wq) := hid ⟨xq, cq, _, _, _, KQ.out, QR.out, rfl, rfl, rfl, KR.out, hw1, BW.out⟩
      have F0 : a0 ≤ ms.length := hb
      have F1 : Hid (k1 = 0 → a1 ≤ ms.length) := hid (fun z1 => by subst z1; exact (parts_end (readR_step HBS.out) (parts_ok E1.out).2 hb).2)
      have F2 : Hid (k1 = 0 → k2 = 0 → a2 ≤ ms.length) := hid (fun z1 z2 => by subst z2; exact (parts_end (readR_step HBS.out) (parts_ok E2.out).2 (F1.out z1)).2)
      have F3 : Hid (k1 = 0 → k2 = 0 → k3 = 0 → a3 ≤ ms.length) := hid (fun z1 z2 z3 => by subst z3; exact (parts_end (readR_step HBS.out) (parts_ok E3.out).2 (F2.out z1 z2)).2)
      clear KQ QR KR BQ BW P K1 B1 hmw hy hb
      have dq1 : decide ((qs.length : Int) < (n0 : Int)) = false := decide_eq_false c2
      have dq2 : decide (qs.length < n0) = false := decide_eq_false c1
      clear c1 c2
      go_wp2_with fail
      go_loopw [5, 8] (fun va vi wr => MoRel h w M qs r1 r2 r3 k1 k2 k3 a0 a1 a2 a3 va vi wr) (fun _ vi _ => 3 - (intOf vi).toNat)
      case atStart => exact Or.inl ⟨rfl, rfl, ST.out⟩
      case round =>
        clear ST
        rcases hrel with ⟨rfl, rfl, hst⟩ | ⟨z1, rfl, rfl, hst⟩ | ⟨z1, z2, rfl, rfl, hst⟩ | ⟨z1, z2, z3, rfl, rfl, hst⟩
        · skip
          obtain ⟨ws, hws⟩ : ∃ u, u = wr := ⟨_, rfl⟩
          subst hws
          have ST := hid hst
          obtain ⟨kr0, hwM, bw0, hMws⟩ := hst.facts
          have BW0 := hid bw0
          have KR0 := hid kr0
          clear hst kr0 bw0
          have haj : a0 ≤ ms.length := F0
          go_wp2_with fail
          go_loopw [5, 9, 10] (fun va vl vi wr => MoIn ms a0 n1 M w.heap.size ws va vl vi wr) (fun _ _ vi _ => n1 - (intOf vi).toNat)
          case atStart => exact ⟨[], a0, Nat.zero_le _, rfl, haj, rfl, rfl, ⟨RRowP.void _ _ _, fun g hg => (by cases hg)⟩, fun g hg => (by cases hg), Below.refl _ _⟩
          case round =>
            obtain ⟨ys, b, hy, hp, hb, rfl, rfl, hsec, hown, hbel⟩ := hrel
            have P := hid hp
            have SC := hid hsec
            have OW := hid hown
            have BS := hid hbel
            have BW := hid (grown_on BW0.out hbel)
            clear hp hsec hown hbel
            go_wp2_with fail
            refine (PQ.out _ BW.out 6 (by omega) (by omega)).mono ?_
            rintro e wq ⟨rfl, dq⟩
            rw [HQ6.out]
            replace SC := hid (SC.out.below (dq.below _))
            replace BS := hid (BS.out.trans (dq.below _))
            replace BW := hid (BW.out.trans (dq.below _))
            clear dq
            by_cases c1 : ys.length < n1
            · skip
              have c2 : (ys.length : Int) < (n1 : Int) := by omega
              obtain ⟨⟨kk, r, nx⟩, hst⟩ : ∃ s, readR ms b = s := ⟨_, rfl⟩
              have HST := hid hst
              clear hst
              by_cases kz : kk = 0
              · skip
                subst kz
                obtain ⟨hn1, hn2⟩ := readR_step HBS.out b r nx HST.out
                have hwsq : ws.heap.size ≤ wq.heap.size := BS.out.size
                have OLT : Hid (∀ g, u9.ownBlock = some g → g < wq.heap.size) := hid SC.out.1.ownLt
                go_wp2_with fail
                refine (recat_good (fun g => g < w.heap.size) HX.out ms b nx r wq (HH.out.below BW.out) rfl (by omega) HST.out).mono ?_
                rintro e w3 ⟨y, q, zz, t, p, rfl, hs1, hf, hby, hzt, hx, b3⟩
                have A3 := (Below.refl w3.heap.size w3).alloc (Nat.le_refl _) (.cells #[.slice y r.N.length q, .int .i64 r.ty, .int .i64 r.cl, .int .i64 r.ttl, .slice zz r.D.length t, .int .i64 p, .int .i64 (nx : Int), .int .i64 0] 69)
                have T3 := hid (Bl.new 69 w3 #[.slice y r.N.length q, .int .i64 r.ty, .int .i64 r.cl, .int .i64 r.ttl, .slice zz r.D.length t, .int .i64 p, .int .i64 (nx : Int), .int .i64 0])
                have b4 := grown_on b3 A3
                have S3 := hid (hs1.below A3)
                have Y3 := hid (hby.below b4)
                have YL : Hid (∀ a, y = some a → r.N = [] ∨ a.block < w3.heap.size) := hid (fun a ha => strs_lt hs1 ha)
                have HF := hid hf
                have HX2 := hid hx
                have HZT := hid hzt
                replace SC := hid (SC.out.below b4)
                replace BS := hid (grown_on BS.out b4)
                replace BW := hid (grown_on BW.out b4)
                have hw3 : wq.heap.size ≤ w3.heap.size := b3.size
                have hs4 : Hid ((w3.alloc (.cells #[.slice y r.N.length q, .int .i64 r.ty, .int .i64 r.cl, .int .i64 r.ttl, .slice zz r.D.length t, .int .i64 p, .int .i64 (nx : Int), .int .i64 0] 69)).heap.size = w3.heap.size + 1) := hid (by simp)
                clear b3 b4 A3 hs1 hf hby hx hzt
                go_upto_region 23 with fail
                generalize w3.alloc (.cells #[.slice y r.N.length q, .int .i64 r.ty, .int .i64 r.cl, .int .i64 r.ttl, .slice zz r.D.length t, .int .i64 p, .int .i64 (nx : Int), .int .i64 0] 69) = w4 at *
                generalize w3.heap.size = tb at *
                have q0 := T3.out.cell (i := 0) rfl
                have q1 := T3.out.cell (i := 1) rfl
                have q2 := T3.out.cell (i := 2) rfl
                have q3 := T3.out.cell (i := 3) rfl
                have q4 := T3.out.cell (i := 4) rfl
                have q7 := T3.out.cell (i := 7) rfl
                have BC := hid ((Below.refl w4.heap.size w4).alloc (Nat.le_refl _) (.cells #[.slice y r.N.length q, .int .i64 r.ty, .int .i64 r.cl, .int .i64 r.ttl, .slice zz r.D.length t] 67))
                have KC := hid (Bl.new 67 w4 #[.slice y r.N.length q, .int .i64 r.ty, .int .i64 r.cl, .int .i64 r.ttl, .slice zz r.D.length t])
                have HSC : Hid ((w4.alloc (.cells #[.slice y r.N.length q, .int .i64 r.ty, .int .i64 r.cl, .int .i64 r.ttl, .slice zz r.D.length t] 67)).heap.size = w4.heap.size + 1) := hid (by simp)
                have SC2 := hid (SC.out.below BC.out)
                have S2 := hid (S3.out.below BC.out)
                have Y2 := hid (Y3.out.below BC.out)
                have hl2 : (ys.length + 1) * 72 ≤ 140737488355328 := by omega
                go_upto_region 26 with (at_builtin; refine wpList_append_rrow (r := r) (B := 0) (P := Apart M w.heap.size (w4.alloc (.cells #[.slice y r.N.length q, .int .i64 r.ty, .int .i64 r.cl, .int .i64 r.ttl, .slice zz r.D.length t] 67)).heap.size) (y := y) (s := q) rfl _ _ rfl rfl rfl SC2.out.1 KC.out S2.out Y2.out HZT.out (fun a ha => ⟨Nat.zero_le _, (YL.out a ha).imp_right (fun l => ⟨⟨by have := HF.out a ha; omega, by have := HF.out a ha; omega, by have := HSC.out; have := hs4.out; omega⟩, fun e => by have := HF.out a ha; have := OLT.out _ e.symm; omega⟩)⟩) (fun a ha => ⟨Nat.zero_le _, Or.inr ⟨⟨by have := HX2.out a ha; omega, by have := HX2.out a ha; omega, by have := HX2.out a ha; have := HSC.out; have := hs4.out; omega⟩, fun e => by have := HX2.out a ha; have := OW.out _ e.symm; omega⟩⟩) hl2 (Nat.zero_le _) (fun k hk => hk.2.2) ?_)
                intro v5 w5 hr5 hg5 hloc
                have nT : some tb ≠ u9.ownBlock := fun e => by have := OLT.out _ e.symm; omega
                have T5 := hid ((T3.out.below BC.out).grown hg5 nT)
                have q6 := T5.out.cell (i := 6) rfl
                have SN : Hid (Sec M w.heap.size w5 v5 (some (ys ++ [r]))) := hid ⟨hr5.weak' (fun j hj => ⟨hj.1, hj.2.1, by have := hj.2.2; have := hg5.size; have := HSC.out; omega⟩), fun g hg => by
                  rcases hloc with e | e
                  · rw [e] at hg; have := OW.out _ hg; omega
                  · rw [e] at hg; have := Option.some.inj hg; have := HSC.out; have := hs4.out; omega⟩
                have ON : Hid (∀ g, v5.ownBlock = some g → ws.heap.size ≤ g) := hid (fun g hg => by
                  rcases hloc with e | e
                  · rw [e] at hg; exact OW.out _ hg
                  · rw [e] at hg; have := Option.some.inj hg; have := HSC.out; have := hs4.out; omega)
                have BN := hid ((grown_on BS.out BC.out).grown hg5 (grown_on BS.out BC.out).size (fun j hj => OW.out j hj))
                clear q0 q1 q2 q3 q4 q7 BC KC SC2 S2 Y2 SC S3 Y3 hr5 hg5 hloc T3
                go_wp2_with fail
                exact ⟨⟨ys ++ [r], nx, by rw [List.length_append, List.length_singleton]; omega, parts_snoc P.out HST.out, hn2, rfl, by rw [List.length_append, List.length_singleton]; go_num, SN.out, ON.out, BN.out⟩, by simp [intOf]; omega⟩
              · skip
                have Z := hid kz
                have kb : (kk != 0) = true := bne_iff_ne.2 kz
                have XM : Hid (msgR ms = (kk, [], [], [], [])) := hid (by
                  have q1 := parts_err kz P.out c1 (show (readR ms b).1 = kk by rw [HST.out])
                  rw [← N1.out] at q1
                  exact msgR_1 h12' E0.out q1 kz)
                go_wp2_with fail
                refine (recat_bad (fun g => g < w.heap.size) HX.out ms b nx kk r wq (HH.out.below BW.out) rfl (by omega) HST.out kz).mono ?_
                rintro e w3 ⟨rfl, b3⟩
                clear kz
                have A3 := (Below.refl w3.heap.size w3).alloc (Nat.le_refl _) (.cells #[.slice none 0 0, .int .i64 0, .int .i64 0, .int .i64 0, .slice none 0 0, .int .i64 0, .int .i64 0, .int .i64 kk] 69)
                have T3 := hid (Bl.new 69 w3 #[.slice none 0 0, .int .i64 0, .int .i64 0, .int .i64 0, .slice none 0 0, .int .i64 0, .int .i64 0, .int .i64 kk])
                have b4 := grown_on b3 A3
                have KR := hid ((KR0.out.below BS.out).below b4)
                replace BW := hid (grown_on BW.out b4)
                have hw3 : wq.heap.size ≤ w3.heap.size := b3.size
                have hwsq : ws.heap.size ≤ wq.heap.size := BS.out.size
                clear b3 b4 A3
                go_upto_region 23 with fail
                generalize w3.alloc (.cells #[.slice none 0 0, .int .i64 0, .int .i64 0, .int .i64 0, .slice none 0 0, .int .i64 0, .int .i64 0, .int .i64 kk] 69) = w4 at *
                generalize w3.heap.size = tb at *
                have htb : w.heap.size < tb := by omega
                have t7 := T3.out.cell (i := 7) rfl
                go_upto_region 24 with fail
                have hc : ∀ s' : Keep [((⟨tb, 7, none⟩ : Addr), (Value.int .i64 kk))], s'.val.cell? ⟨tb, 7, none⟩ = some (.int .i64 kk) := fun s' => s'.cells _ List.mem_cons_self
                have hNe : Nonempty (Keep [((⟨tb, 7, none⟩ : Addr), (Value.int .i64 kk))]) := Keep.some w4 (fun e he => by rw [List.mem_singleton.1 he]; exact t7)
                have hk0 : ∀ u : World, u.cell? ⟨tb, 7, none⟩ = some (.int .i64 kk) → ∃ s' : Keep [((⟨tb, 7, none⟩ : Addr), (Value.int .i64 kk))], u = s'.val := fun u hu => ⟨⟨u, fun e he => by rw [List.mem_singleton.1 he]; exact hu⟩, rfl⟩
                have HK1 := hk0 (World.drew w4) t7
                have HK2 := hk0 ((World.drew w4).setRow w.heap.size ms0) (by rw [cell_setRow_other _ _ _ _ (by simp only; omega)]; exact t7)
                refine wp_region_fork [1, 2] (.one 0 (.one 3 (.one 4 .nil))) (fun u => ∃ s' : Keep [((⟨tb, 7, none⟩ : Addr), (Value.int .i64 kk))], u = s'.val) (by kernel_rfl) (by kernel_rfl) (by kernel_rfl) HK1 ?_
                change wpQuiet _ _ _ _ [_, _] _
                repeat (go_big_quiet_step (fail))
                refine wpQuiet_nil ?_
                clear hc hNe hk0
                change stepL _ _ _ _ _ _ _ _ _
                refine stepL_at (by rfl) fun K Q' hK => ?_
                go_simp
                refine hK _ _ (fun _ => HK1) ?_
                clear hK
                change stepL _ _ _ _ _ _ _ _ _
                refine stepL_at (by rfl) fun K Q' hK => ?_
                refine wp_store_row 28 (.tmp 2) (.tmp 80) rfl w.heap.size ms0 rfl rfl 28 ms0 KR.out.drew size_message rfl (by simp [ms0, Value.oneCell']) ?_
                refine hK _ _ (fun _ => HK2) ?_
                clear hK
                change stepL _ _ _ _ _ _ _ _ _
                refine stepL_at (by rfl) fun K Q' hK => ?_
                go_simp
                refine hK _ _ (fun q => absurd q (by decide)) ?_
                clear hK HK1 HK2
                refine treeL_nil ?_
                go_wp2_with fail
                refine bodyPost_ret (results_mof _ _ w.heap.size _ _ _ _ _ _ _ _ _ _ _ _ _ _ _ rfl (KR.out.drew.rowIn ms0)) rfl ?_
                exact Or.inr ⟨kk, Z.out, XM.out, rfl, below_setRow BW.out.drew (Nat.le_refl _) _⟩
            · skip
              have c2 : ¬ (ys.length : Int) < (n1 : Int) := by omega
              obtain ⟨rfl, rfl, rfl⟩ : k1 = 0 ∧ r1 = ys ∧ a1 = b := by
                have q1 := parts_of P.out
                have e : ys.length = n1 := by omega
                rw [e, ← N1.out, E1.out] at q1
                simpa using q1
              obtain ⟨xv, cv, rfl⟩ := SC.out.1.toR.val
              obtain ⟨lv, hlv⟩ : ∃ l, r1.length = l := ⟨_, rfl⟩
              have SV := SC
              rw [hlv] at SV c2 ⊢
              clear SC hlv
              have SB := hid (ST.out.below BS.out)
              obtain ⟨V1, V2, V3, g1, g2, g3, f1, f2, f3⟩ := SB.out.cell
              go_wp2_with fail
              exact ⟨Or.inr (Or.inl ⟨rfl, rfl, rfl, SB.out.put1 SV.out⟩), by simp [intOf]⟩
        · skip
          subst z1
          obtain ⟨ws, hws⟩ : ∃ u, u = wr := ⟨_, rfl⟩
          subst hws
          have ST := hid hst
          obtain ⟨kr0, hwM, bw0, hMws⟩ := hst.facts
          have BW0 := hid bw0
          have KR0 := hid kr0
          clear hst kr0 bw0
          have haj : a1 ≤ ms.length := F1.out rfl
          go_wp2_with fail
          go_loopw [5, 9, 10] (fun va vl vi wr => MoIn ms a1 n2 M w.heap.size ws va vl vi wr) (fun _ _ vi _ => n2 - (intOf vi).toNat)
          case atStart => exact ⟨[], a1, Nat.zero_le _, rfl, haj, rfl, rfl, ⟨RRowP.void _ _ _, fun g hg => (by cases hg)⟩, fun g hg => (by cases hg), Below.refl _ _⟩
          case round =>
            obtain ⟨ys, b, hy, hp, hb, rfl, rfl, hsec, hown, hbel⟩ := hrel
            have P := hid hp
            have SC := hid hsec
            have OW := hid hown
            have BS := hid hbel
            have BW := hid (grown_on BW0.out hbel)
            clear hp hsec hown hbel
            go_wp2_with fail
            refine (PQ.out _ BW.out 8 (by omega) (by omega)).mono ?_
            rintro e wq ⟨rfl, dq⟩
            rw [HQ8.out]
            replace SC := hid (SC.out.below (dq.below _))
            replace BS := hid (BS.out.trans (dq.below _))
            replace BW := hid (BW.out.trans (dq.below _))
            clear dq
            by_cases c1 : ys.length < n2
            · skip
              have c2 : (ys.length : Int) < (n2 : Int) := by omega
              obtain ⟨⟨kk, r, nx⟩, hst⟩ : ∃ s, readR ms b = s := ⟨_, rfl⟩
              have HST := hid hst
              clear hst
              by_cases kz : kk = 0
              · skip
                subst kz
                obtain ⟨hn1, hn2⟩ := readR_step HBS.out b r nx HST.out
                have hwsq : ws.heap.size ≤ wq.heap.size := BS.out.size
                have OLT : Hid (∀ g, u9.ownBlock = some g → g < wq.heap.size) := hid SC.out.1.ownLt
                go_wp2_with fail
                refine (recat_good (fun g => g < w.heap.size) HX.out ms b nx r wq (HH.out.below BW.out) rfl (by omega) HST.out).mono ?_
                rintro e w3 ⟨y, q, zz, t, p, rfl, hs1, hf, hby, hzt, hx, b3⟩
                have A3 := (Below.refl w3.heap.size w3).alloc (Nat.le_refl _) (.cells #[.slice y r.N.length q, .int .i64 r.ty, .int .i64 r.cl, .int .i64 r.ttl, .slice zz r.D.length t, .int .i64 p, .int .i64 (nx : Int), .int .i64 0] 69)
                have T3 := hid (Bl.new 69 w3 #[.slice y r.N.length q, .int .i64 r.ty, .int .i64 r.cl, .int .i64 r.ttl, .slice zz r.D.length t, .int .i64 p, .int .i64 (nx : Int), .int .i64 0])
                have b4 := grown_on b3 A3
                have S3 := hid (hs1.below A3)
                have Y3 := hid (hby.below b4)
                have YL : Hid (∀ a, y = some a → r.N = [] ∨ a.block < w3.heap.size) := hid (fun a ha => strs_lt hs1 ha)
                have HF := hid hf
                have HX2 := hid hx
                have HZT := hid hzt
                replace SC := hid (SC.out.below b4)
                replace BS := hid (grown_on BS.out b4)
                replace BW := hid (grown_on BW.out b4)
                have hw3 : wq.heap.size ≤ w3.heap.size := b3.size
                have hs4 : Hid ((w3.alloc (.cells #[.slice y r.N.length q, .int .i64 r.ty, .int .i64 r.cl, .int .i64 r.ttl, .slice zz r.D.length t, .int .i64 p, .int .i64 (nx : Int), .int .i64 0] 69)).heap.size = w3.heap.size + 1) := hid (by simp)
                clear b3 b4 A3 hs1 hf hby hx hzt
                go_upto_region 23 with fail
                generalize w3.alloc (.cells #[.slice y r.N.length q, .int .i64 r.ty, .int .i64 r.cl, .int .i64 r.ttl, .slice zz r.D.length t, .int .i64 p, .int .i64 (nx : Int), .int .i64 0] 69) = w4 at *
                generalize w3.heap.size = tb at *
                have q0 := T3.out.cell (i := 0) rfl
                have q1 := T3.out.cell (i := 1) rfl
                have q2 := T3.out.cell (i := 2) rfl
                have q3 := T3.out.cell (i := 3) rfl
                have q4 := T3.out.cell (i := 4) rfl
                have q7 := T3.out.cell (i := 7) rfl
                have BC := hid ((Below.refl w4.heap.size w4).alloc (Nat.le_refl _) (.cells #[.slice y r.N.length q, .int .i64 r.ty, .int .i64 r.cl, .int .i64 r.ttl, .slice zz r.D.length t] 67))
                have KC := hid (Bl.new 67 w4 #[.slice y r.N.length q, .int .i64 r.ty, .int .i64 r.cl, .int .i64 r.ttl, .slice zz r.D.length t])
                have HSC : Hid ((w4.alloc (.cells #[.slice y r.N.length q, .int .i64 r.ty, .int .i64 r.cl, .int .i64 r.ttl, .slice zz r.D.length t] 67)).heap.size = w4.heap.size + 1) := hid (by simp)
                have SC2 := hid (SC.out.below BC.out)
                have S2 := hid (S3.out.below BC.out)
                have Y2 := hid (Y3.out.below BC.out)
                have hl2 : (ys.length + 1) * 72 ≤ 140737488355328 := by omega
                go_upto_region 26 with (at_builtin; refine wpList_append_rrow (r := r) (B := 0) (P := Apart M w.heap.size (w4.alloc (.cells #[.slice y r.N.length q, .int .i64 r.ty, .int .i64 r.cl, .int .i64 r.ttl, .slice zz r.D.length t] 67)).heap.size) (y := y) (s := q) rfl _ _ rfl rfl rfl SC2.out.1 KC.out S2.out Y2.out HZT.out (fun a ha => ⟨Nat.zero_le _, (YL.out a ha).imp_right (fun l => ⟨⟨by have := HF.out a ha; omega, by have := HF.out a ha; omega, by have := HSC.out; have := hs4.out; omega⟩, fun e => by have := HF.out a ha; have := OLT.out _ e.symm; omega⟩)⟩) (fun a ha => ⟨Nat.zero_le _, Or.inr ⟨⟨by have := HX2.out a ha; omega, by have := HX2.out a ha; omega, by have := HX2.out a ha; have := HSC.out; have := hs4.out; omega⟩, fun e => by have := HX2.out a ha; have := OW.out _ e.symm; omega⟩⟩) hl2 (Nat.zero_le _) (fun k hk => hk.2.2) ?_)
                intro v5 w5 hr5 hg5 hloc
                have nT : some tb ≠ u9.ownBlock := fun e => by have := OLT.out _ e.symm; omega
                have T5 := hid ((T3.out.below BC.out).grown hg5 nT)
                have q6 := T5.out.cell (i := 6) rfl
                have SN : Hid (Sec M w.heap.size w5 v5 (some (ys ++ [r]))) := hid ⟨hr5.weak' (fun j hj => ⟨hj.1, hj.2.1, by have := hj.2.2; have := hg5.size; have := HSC.out; omega⟩), fun g hg => by
                  rcases hloc with e | e
                  · rw [e] at hg; have := OW.out _ hg; omega
                  · rw [e] at hg; have := Option.some.inj hg; have := HSC.out; have := hs4.out; omega⟩
                have ON : Hid (∀ g, v5.ownBlock = some g → ws.heap.size ≤ g) := hid (fun g hg => by
                  rcases hloc with e | e
                  · rw [e] at hg; exact OW.out _ hg
                  · rw [e] at hg; have := Option.some.inj hg; have := HSC.out; have := hs4.out; omega)
                have BN := hid ((grown_on BS.out BC.out).grown hg5 (grown_on BS.out BC.out).size (fun j hj => OW.out j hj))
                clear q0 q1 q2 q3 q4 q7 BC KC SC2 S2 Y2 SC S3 Y3 hr5 hg5 hloc T3
                go_wp2_with fail
                exact ⟨⟨ys ++ [r], nx, by rw [List.length_append, List.length_singleton]; omega, parts_snoc P.out HST.out, hn2, rfl, by rw [List.length_append, List.length_singleton]; go_num, SN.out, ON.out, BN.out⟩, by simp [intOf]; omega⟩
              · skip
                have Z := hid kz
                have kb : (kk != 0) = true := bne_iff_ne.2 kz
                have XM : Hid (msgR ms = (kk, [], [], [], [])) := hid (by
                  have q1 := parts_err kz P.out c1 (show (readR ms b).1 = kk by rw [HST.out])
                  rw [← N2.out] at q1
                  exact msgR_2 h12' E0.out E1.out q1 kz)
                go_wp2_with fail
                refine (recat_bad (fun g => g < w.heap.size) HX.out ms b nx kk r wq (HH.out.below BW.out) rfl (by omega) HST.out kz).mono ?_
                rintro e w3 ⟨rfl, b3⟩
                clear kz
                have A3 := (Below.refl w3.heap.size w3).alloc (Nat.le_refl _) (.cells #[.slice none 0 0, .int .i64 0, .int .i64 0, .int .i64 0, .slice none 0 0, .int .i64 0, .int .i64 0, .int .i64 kk] 69)
                have T3 := hid (Bl.new 69 w3 #[.slice none 0 0, .int .i64 0, .int .i64 0, .int .i64 0, .slice none 0 0, .int .i64 0, .int .i64 0, .int .i64 kk])
                have b4 := grown_on b3 A3
                have KR := hid ((KR0.out.below BS.out).below b4)
                replace BW := hid (grown_on BW.out b4)
                have hw3 : wq.heap.size ≤ w3.heap.size := b3.size
                have hwsq : ws.heap.size ≤ wq.heap.size := BS.out.size
                clear b3 b4 A3
                go_upto_region 23 with fail
                generalize w3.alloc (.cells #[.slice none 0 0, .int .i64 0, .int .i64 0, .int .i64 0, .slice none 0 0, .int .i64 0, .int .i64 0, .int .i64 kk] 69) = w4 at *
                generalize w3.heap.size = tb at *
                have htb : w.heap.size < tb := by omega
                have t7 := T3.out.cell (i := 7) rfl
                go_upto_region 24 with fail
                have hc : ∀ s' : Keep [((⟨tb, 7, none⟩ : Addr), (Value.int .i64 kk))], s'.val.cell? ⟨tb, 7, none⟩ = some (.int .i64 kk) := fun s' => s'.cells _ List.mem_cons_self
                have hNe : Nonempty (Keep [((⟨tb, 7, none⟩ : Addr), (Value.int .i64 kk))]) := Keep.some w4 (fun e he => by rw [List.mem_singleton.1 he]; exact t7)
                have hk0 : ∀ u : World, u.cell? ⟨tb, 7, none⟩ = some (.int .i64 kk) → ∃ s' : Keep [((⟨tb, 7, none⟩ : Addr), (Value.int .i64 kk))], u = s'.val := fun u hu => ⟨⟨u, fun e he => by rw [List.mem_singleton.1 he]; exact hu⟩, rfl⟩
                have HK1 := hk0 (World.drew w4) t7
                have HK2 := hk0 ((World.drew w4).setRow w.heap.size ms0) (by rw [cell_setRow_other _ _ _ _ (by simp only; omega)]; exact t7)
                refine wp_region_fork [1, 2] (.one 0 (.one 3 (.one 4 .nil))) (fun u => ∃ s' : Keep [((⟨tb, 7, none⟩ : Addr), (Value.int .i64 kk))], u = s'.val) (by kernel_rfl) (by kernel_rfl) (by kernel_rfl) HK1 ?_
                change wpQuiet _ _ _ _ [_, _] _
                repeat (go_big_quiet_step (fail))
                refine wpQuiet_nil ?_
                clear hc hNe hk0
                change stepL _ _ _ _ _ _ _ _ _
                refine stepL_at (by rfl) fun K Q' hK => ?_
                go_simp
                refine hK _ _ (fun _ => HK1) ?_
                clear hK
                change stepL _ _ _ _ _ _ _ _ _
                refine stepL_at (by rfl) fun K Q' hK => ?_
                refine wp_store_row 28 (.tmp 2) (.tmp 80) rfl w.heap.size ms0 rfl rfl 28 ms0 KR.out.drew size_message rfl (by simp [ms0, Value.oneCell']) ?_
                refine hK _ _ (fun _ => HK2) ?_
                clear hK
                change stepL _ _ _ _ _ _ _ _ _
                refine stepL_at (by rfl) fun K Q' hK => ?_
                go_simp
                refine hK _ _ (fun q => absurd q (by decide)) ?_
                clear hK HK1 HK2
                refine treeL_nil ?_
                go_wp2_with fail
                refine bodyPost_ret (results_mof _ _ w.heap.size _ _ _ _ _ _ _ _ _ _ _ _ _ _ _ rfl (KR.out.drew.rowIn ms0)) rfl ?_
                exact Or.inr ⟨kk, Z.out, XM.out, rfl, below_setRow BW.out.drew (Nat.le_refl _) _⟩
            · skip
              have c2 : ¬ (ys.length : Int) < (n2 : Int) := by omega
              obtain ⟨rfl, rfl, rfl⟩ : k2 = 0 ∧ r2 = ys ∧ a2 = b := by
                have q1 := parts_of P.out
                have e : ys.length = n2 := by omega
                rw [e, ← N2.out, E2.out] at q1
                simpa using q1
              obtain ⟨xv, cv, rfl⟩ := SC.out.1.toR.val
              obtain ⟨lv, hlv⟩ : ∃ l, r2.length = l := ⟨_, rfl⟩
              have SV := SC
              rw [hlv] at SV c2 ⊢
              clear SC hlv
              have SB := hid (ST.out.below BS.out)
              obtain ⟨V1, V2, V3, g1, g2, g3, f1, f2, f3⟩ := SB.out.cell
              go_wp2_with fail
              exact ⟨Or.inr (Or.inr (Or.inl ⟨rfl, rfl, rfl, rfl, SB.out.put2 SV.out⟩)), by simp [intOf]⟩
        · skip
          subst z1
          subst z2
          obtain ⟨ws, hws⟩ : ∃ u, u = wr := ⟨_, rfl⟩
          subst hws
          have ST := hid hst
          obtain ⟨kr0, hwM, bw0, hMws⟩ := hst.facts
          have BW0 := hid bw0
          have KR0 := hid kr0
          clear hst kr0 bw0
          have haj : a2 ≤ ms.length := F2.out rfl rfl
          go_wp2_with fail
          go_loopw [5, 9, 10] (fun va vl vi wr => MoIn ms a2 n3 M w.heap.size ws va vl vi wr) (fun _ _ vi _ => n3 - (intOf vi).toNat)
          case atStart => exact ⟨[], a2, Nat.zero_le _, rfl, haj, rfl, rfl, ⟨RRowP.void _ _ _, fun g hg => (by cases hg)⟩, fun g hg => (by cases hg), Below.refl _ _⟩
          case round =>
            obtain ⟨ys, b, hy, hp, hb, rfl, rfl, hsec, hown, hbel⟩ := hrel
            have P := hid hp
            have SC := hid hsec
            have OW := hid hown
            have BS := hid hbel
            have BW := hid (grown_on BW0.out hbel)
            clear hp hsec hown hbel
            go_wp2_with fail
            refine (PQ.out _ BW.out 10 (by omega) (by omega)).mono ?_
            rintro e wq ⟨rfl, dq⟩
            rw [HQ10.out]
            replace SC := hid (SC.out.below (dq.below _))
            replace BS := hid (BS.out.trans (dq.below _))
            replace BW := hid (BW.out.trans (dq.below _))
            clear dq
            by_cases c1 : ys.length < n3
            · skip
              have c2 : (ys.length : Int) < (n3 : Int) := by omega
              obtain ⟨⟨kk, r, nx⟩, hst⟩ : ∃ s, readR ms b = s := ⟨_, rfl⟩
              have HST := hid hst
              clear hst
              by_cases kz : kk = 0
              · skip
                subst kz
                obtain ⟨hn1, hn2⟩ := readR_step HBS.out b r nx HST.out
                have hwsq : ws.heap.size ≤ wq.heap.size := BS.out.size
                have OLT : Hid (∀ g, u9.ownBlock = some g → g < wq.heap.size) := hid SC.out.1.ownLt
                go_wp2_with fail
                refine (recat_good (fun g => g < w.heap.size) HX.out ms b nx r wq (HH.out.below BW.out) rfl (by omega) HST.out).mono ?_
                rintro e w3 ⟨y, q, zz, t, p, rfl, hs1, hf, hby, hzt, hx, b3⟩
                have A3 := (Below.refl w3.heap.size w3).alloc (Nat.le_refl _) (.cells #[.slice y r.N.length q, .int .i64 r.ty, .int .i64 r.cl, .int .i64 r.ttl, .slice zz r.D.length t, .int .i64 p, .int .i64 (nx : Int), .int .i64 0] 69)
                have T3 := hid (Bl.new 69 w3 #[.slice y r.N.length q, .int .i64 r.ty, .int .i64 r.cl, .int .i64 r.ttl, .slice zz r.D.length t, .int .i64 p, .int .i64 (nx : Int), .int .i64 0])
                have b4 := grown_on b3 A3
                have S3 := hid (hs1.below A3)
                have Y3 := hid (hby.below b4)
                have YL : Hid (∀ a, y = some a → r.N = [] ∨ a.block < w3.heap.size) := hid (fun a ha => strs_lt hs1 ha)
                have HF := hid hf
                have HX2 := hid hx
                have HZT := hid hzt
                replace SC := hid (SC.out.below b4)
                replace BS := hid (grown_on BS.out b4)
                replace BW := hid (grown_on BW.out b4)
                have hw3 : wq.heap.size ≤ w3.heap.size := b3.size
                have hs4 : Hid ((w3.alloc (.cells #[.slice y r.N.length q, .int .i64 r.ty, .int .i64 r.cl, .int .i64 r.ttl, .slice zz r.D.length t, .int .i64 p, .int .i64 (nx : Int), .int .i64 0] 69)).heap.size = w3.heap.size + 1) := hid (by simp)
                clear b3 b4 A3 hs1 hf hby hx hzt
                go_upto_region 23 with fail
                generalize w3.alloc (.cells #[.slice y r.N.length q, .int .i64 r.ty, .int .i64 r.cl, .int .i64 r.ttl, .slice zz r.D.length t, .int .i64 p, .int .i64 (nx : Int), .int .i64 0] 69) = w4 at *
                generalize w3.heap.size = tb at *
                have q0 := T3.out.cell (i := 0) rfl
                have q1 := T3.out.cell (i := 1) rfl
                have q2 := T3.out.cell (i := 2) rfl
                have q3 := T3.out.cell (i := 3) rfl
                have q4 := T3.out.cell (i := 4) rfl
                have q7 := T3.out.cell (i := 7) rfl
                have BC := hid ((Below.refl w4.heap.size w4).alloc (Nat.le_refl _) (.cells #[.slice y r.N.length q, .int .i64 r.ty, .int .i64 r.cl, .int .i64 r.ttl, .slice zz r.D.length t] 67))
                have KC := hid (Bl.new 67 w4 #[.slice y r.N.length q, .int .i64 r.ty, .int .i64 r.cl, .int .i64 r.ttl, .slice zz r.D.length t])
                have HSC : Hid ((w4.alloc (.cells #[.slice y r.N.length q, .int .i64 r.ty, .int .i64 r.cl, .int .i64 r.ttl, .slice zz r.D.length t] 67)).heap.size = w4.heap.size + 1) := hid (by simp)
                have SC2 := hid (SC.out.below BC.out)
                have S2 := hid (S3.out.below BC.out)
                have Y2 := hid (Y3.out.below BC.out)
                have hl2 : (ys.length + 1) * 72 ≤ 140737488355328 := by omega
                go_upto_region 26 with (at_builtin; refine wpList_append_rrow (r := r) (B := 0) (P := Apart M w.heap.size (w4.alloc (.cells #[.slice y r.N.length q, .int .i64 r.ty, .int .i64 r.cl, .int .i64 r.ttl, .slice zz r.D.length t] 67)).heap.size) (y := y) (s := q) rfl _ _ rfl rfl rfl SC2.out.1 KC.out S2.out Y2.out HZT.out (fun a ha => ⟨Nat.zero_le _, (YL.out a ha).imp_right (fun l => ⟨⟨by have := HF.out a ha; omega, by have := HF.out a ha; omega, by have := HSC.out; have := hs4.out; omega⟩, fun e => by have := HF.out a ha; have := OLT.out _ e.symm; omega⟩)⟩) (fun a ha => ⟨Nat.zero_le _, Or.inr ⟨⟨by have := HX2.out a ha; omega, by have := HX2.out a ha; omega, by have := HX2.out a ha; have := HSC.out; have := hs4.out; omega⟩, fun e => by have := HX2.out a ha; have := OW.out _ e.symm; omega⟩⟩) hl2 (Nat.zero_le _) (fun k hk => hk.2.2) ?_)
                intro v5 w5 hr5 hg5 hloc
                have nT : some tb ≠ u9.ownBlock := fun e => by have := OLT.out _ e.symm; omega
                have T5 := hid ((T3.out.below BC.out).grown hg5 nT)
                have q6 := T5.out.cell (i := 6) rfl
                have SN : Hid (Sec M w.heap.size w5 v5 (some (ys ++ [r]))) := hid ⟨hr5.weak' (fun j hj => ⟨hj.1, hj.2.1, by have := hj.2.2; have := hg5.size; have := HSC.out; omega⟩), fun g hg => by
                  rcases hloc with e | e
                  · rw [e] at hg; have := OW.out _ hg; omega
                  · rw [e] at hg; have := Option.some.inj hg; have := HSC.out; have := hs4.out; omega⟩
                have ON : Hid (∀ g, v5.ownBlock = some g → ws.heap.size ≤ g) := hid (fun g hg => by
                  rcases hloc with e | e
                  · rw [e] at hg; exact OW.out _ hg
                  · rw [e] at hg; have := Option.some.inj hg; have := HSC.out; have := hs4.out; omega)
                have BN := hid ((grown_on BS.out BC.out).grown hg5 (grown_on BS.out BC.out).size (fun j hj => OW.out j hj))
                clear q0 q1 q2 q3 q4 q7 BC KC SC2 S2 Y2 SC S3 Y3 hr5 hg5 hloc T3
                go_wp2_with fail
                exact ⟨⟨ys ++ [r], nx, by rw [List.length_append, List.length_singleton]; omega, parts_snoc P.out HST.out, hn2, rfl, by rw [List.length_append, List.length_singleton]; go_num, SN.out, ON.out, BN.out⟩, by simp [intOf]; omega⟩
              · skip
                have Z := hid kz
                have kb : (kk != 0) = true := bne_iff_ne.2 kz
                have XM : Hid (msgR ms = (kk, [], [], [], [])) := hid (by
                  have q1 := parts_err kz P.out c1 (show (readR ms b).1 = kk by rw [HST.out])
                  rw [← N3.out] at q1
                  exact msgR_3 h12' E0.out E1.out E2.out q1 kz)
                go_wp2_with fail
                refine (recat_bad (fun g => g < w.heap.size) HX.out ms b nx kk r wq (HH.out.below BW.out) rfl (by omega) HST.out kz).mono ?_
                rintro e w3 ⟨rfl, b3⟩
                clear kz
                have A3 := (Below.refl w3.heap.size w3).alloc (Nat.le_refl _) (.cells #[.slice none 0 0, .int .i64 0, .int .i64 0, .int .i64 0, .slice none 0 0, .int .i64 0, .int .i64 0, .int .i64 kk] 69)
                have T3 := hid (Bl.new 69 w3 #[.slice none 0 0, .int .i64 0, .int .i64 0, .int .i64 0, .slice none 0 0, .int .i64 0, .int .i64 0, .int .i64 kk])
                have b4 := grown_on b3 A3
                have KR := hid ((KR0.out.below BS.out).below b4)
                replace BW := hid (grown_on BW.out b4)
                have hw3 : wq.heap.size ≤ w3.heap.size := b3.size
                have hwsq : ws.heap.size ≤ wq.heap.size := BS.out.size
                clear b3 b4 A3
                go_upto_region 23 with fail
                generalize w3.alloc (.cells #[.slice none 0 0, .int .i64 0, .int .i64 0, .int .i64 0, .slice none 0 0, .int .i64 0, .int .i64 0, .int .i64 kk] 69) = w4 at *
                generalize w3.heap.size = tb at *
                have htb : w.heap.size < tb := by omega
                have t7 := T3.out.cell (i := 7) rfl
                go_upto_region 24 with fail
                have hc : ∀ s' : Keep [((⟨tb, 7, none⟩ : Addr), (Value.int .i64 kk))], s'.val.cell? ⟨tb, 7, none⟩ = some (.int .i64 kk) := fun s' => s'.cells _ List.mem_cons_self
                have hNe : Nonempty (Keep [((⟨tb, 7, none⟩ : Addr), (Value.int .i64 kk))]) := Keep.some w4 (fun e he => by rw [List.mem_singleton.1 he]; exact t7)
                have hk0 : ∀ u : World, u.cell? ⟨tb, 7, none⟩ = some (.int .i64 kk) → ∃ s' : Keep [((⟨tb, 7, none⟩ : Addr), (Value.int .i64 kk))], u = s'.val := fun u hu => ⟨⟨u, fun e he => by rw [List.mem_singleton.1 he]; exact hu⟩, rfl⟩
                have HK1 := hk0 (World.drew w4) t7
                have HK2 := hk0 ((World.drew w4).setRow w.heap.size ms0) (by rw [cell_setRow_other _ _ _ _ (by simp only; omega)]; exact t7)
                refine wp_region_fork [1, 2] (.one 0 (.one 3 (.one 4 .nil))) (fun u => ∃ s' : Keep [((⟨tb, 7, none⟩ : Addr), (Value.int .i64 kk))], u = s'.val) (by kernel_rfl) (by kernel_rfl) (by kernel_rfl) HK1 ?_
                change wpQuiet _ _ _ _ [_, _] _
                repeat (go_big_quiet_step (fail))
                refine wpQuiet_nil ?_
                clear hc hNe hk0
                change stepL _ _ _ _ _ _ _ _ _
                refine stepL_at (by rfl) fun K Q' hK => ?_
                go_simp
                refine hK _ _ (fun _ => HK1) ?_
                clear hK
                change stepL _ _ _ _ _ _ _ _ _
                refine stepL_at (by rfl) fun K Q' hK => ?_
                refine wp_store_row 28 (.tmp 2) (.tmp 80) rfl w.heap.size ms0 rfl rfl 28 ms0 KR.out.drew size_message rfl (by simp [ms0, Value.oneCell']) ?_
                refine hK _ _ (fun _ => HK2) ?_
                clear hK
                change stepL _ _ _ _ _ _ _ _ _
                refine stepL_at (by rfl) fun K Q' hK => ?_
                go_simp
                refine hK _ _ (fun q => absurd q (by decide)) ?_
                clear hK HK1 HK2
                refine treeL_nil ?_
                go_wp2_with fail
                refine bodyPost_ret (results_mof _ _ w.heap.size _ _ _ _ _ _ _ _ _ _ _ _ _ _ _ rfl (KR.out.drew.rowIn ms0)) rfl ?_
                exact Or.inr ⟨kk, Z.out, XM.out, rfl, below_setRow BW.out.drew (Nat.le_refl _) _⟩
            · skip
              have c2 : ¬ (ys.length : Int) < (n3 : Int) := by omega
              obtain ⟨rfl, rfl, rfl⟩ : k3 = 0 ∧ r3 = ys ∧ a3 = b := by
                have q1 := parts_of P.out
                have e : ys.length = n3 := by omega
                rw [e, ← N3.out, E3.out] at q1
                simpa using q1
              obtain ⟨xv, cv, rfl⟩ := SC.out.1.toR.val
              obtain ⟨lv, hlv⟩ : ∃ l, r3.length = l := ⟨_, rfl⟩
              have SV := SC
              rw [hlv] at SV c2 ⊢
              clear SC hlv
              have SB := hid (ST.out.below BS.out)
              obtain ⟨V1, V2, V3, g1, g2, g3, f1, f2, f3⟩ := SB.out.cell
              go_wp2_with fail
              exact ⟨Or.inr (Or.inr (Or.inr ⟨rfl, rfl, rfl, rfl, rfl, SB.out.put3 SV.out⟩)), by simp [intOf]⟩
        · skip
          subst z1
          subst z2
          subst z3
          obtain ⟨xq, cq, V1, V2, V3, m1, m2, m3, m4, m5, m6, m7, m8⟩ := hst
          obtain ⟨y1, d1, rfl⟩ := m3.1.toR.val
          obtain ⟨y2, d2, rfl⟩ := m4.1.toR.val
          obtain ⟨y3, d3, rfl⟩ := m5.1.toR.val
          have hl1 : r1.length ≤ 65535 := by rw [(parts_ok E1.out).1, N1.out]; exact p1
          have hl2 : r2.length ≤ 65535 := by rw [(parts_ok E2.out).1, N2.out]; exact p2
          have hl3 : r3.length ≤ 65535 := by rw [(parts_ok E3.out).1, N3.out]; exact p3
          have hlq : qs.length ≤ 65535 := by rw [(parts_ok E0.out).1, N0.out]; exact p0
          have KR := hid m6
          have BW := hid m8
          have KM1 := hid m1
          have G := grown_rowM wr w.heap.size #[.int .i64 h.id, .bool h.an, .int .i64 h.op, .bool h.aa, .bool h.tc, .bool h.rd, .bool h.ra, .bool h.z, .bool h.ad, .bool h.cd, .int .i64 h.code, .slice xq qs.length cq, .slice y1 r1.length d1, .slice y2 r2.length d2, .slice y3 r3.length d3]
          have W0 := hid (m2.grownOff G (Nat.lt_succ_of_lt m7))
          have W1 := hid (m3.off G m7 (Or.inr rfl))
          have W2 := hid (m4.off G m7 (Or.inr rfl))
          have W3 := hid (m5.off G m7 (Or.inr rfl))
          have X4 := hid (msgR_4 h12' E0.out E1.out E2.out E3.out)
          have F3' := F3.out rfl rfl rfl
          clear G m1 m2 m3 m4 m5 m6 m7 m8
          by_cases c8 : a3 < ms.length
          · skip
            have c8' : (a3 : Int) < (ms.length : Int) := by omega
            have XM : Hid (msgR ms = (8, [], [], [], [])) := hid (by rw [X4.out, if_pos c8])
            go_wp2_with (first | (refine wpList_store_row rfl 28 (.tmp 2) (.tmp 104) rfl w.heap.size ms0 rfl rfl 28 ms0 KR.out size_message rfl (by simp [ms0, Value.oneCell']) ?_) | fail)
            refine bodyPost_ret (results_mof _ _ w.heap.size _ _ _ _ _ _ _ _ _ _ _ _ _ _ _ rfl (KR.out.rowIn ms0)) rfl ?_
            exact Or.inr ⟨8, by decide, XM.out, rfl, below_setRow BW.out (Nat.le_refl _) _⟩
          · skip
            have c8' : ¬ (a3 : Int) < (ms.length : Int) := by omega
            have XM : Hid (msgR ms = (0, qs, r1, r2, r3)) := hid (by rw [X4.out, if_neg c8])
            have RM := hid (Bl.range [.int .i64 h.id, .bool h.an, .int .i64 h.op, .bool h.aa, .bool h.tc, .bool h.rd, .bool h.ra, .bool h.z, .bool h.ad, .bool h.cd, .int .i64 h.code, .slice xq qs.length cq, .slice y1 r1.length d1, .slice y2 r2.length d2, .slice y3 r3.length d3] KM1.out)
            go_wp2_with (first | (refine wpList_load_mid rfl 28 _ rfl M 0 rfl [.int .i64 h.id, .bool h.an, .int .i64 h.op, .bool h.aa, .bool h.tc, .bool h.rd, .bool h.ra, .bool h.z, .bool h.ad, .bool h.cd, .int .i64 h.code, .slice xq qs.length cq, .slice y1 r1.length d1, .slice y2 r2.length d2, .slice y3 r3.length d3] _ RM.out Tryd.underlying28 rfl size_message ?_) | (refine wpList_store_row rfl 28 (.tmp 2) (.tmp 105) rfl w.heap.size #[.int .i64 h.id, .bool h.an, .int .i64 h.op, .bool h.aa, .bool h.tc, .bool h.rd, .bool h.ra, .bool h.z, .bool h.ad, .bool h.cd, .int .i64 h.code, .slice xq qs.length cq, .slice y1 r1.length d1, .slice y2 r2.length d2, .slice y3 r3.length d3] rfl rfl 28 ms0 KR.out size_message rfl (by simp [Value.oneCell']) ?_) | fail)
            refine bodyPost_ret (results_mof _ _ w.heap.size _ _ _ _ _ _ _ _ _ _ _ _ _ _ _ rfl (KR.out.rowIn _)) rfl ?_
            exact Or.inl ⟨h, qs, r1, r2, r3, xq, cq, y1, d1, y2, d2, y3, d3, HHD.out, XM.out, rfl, (qrow_qs W0.out (by omega)).base (Nat.zero_le _), rrow_rs W1.out.1.toR (by omega), rrow_rs W2.out.1.toR (by omega), rrow_rs W3.out.1.toR (by omega), below_setRow BW.out (Nat.le_refl _) _⟩

end Go.Proofs.YtbbgabdiikdjpaaDoor
