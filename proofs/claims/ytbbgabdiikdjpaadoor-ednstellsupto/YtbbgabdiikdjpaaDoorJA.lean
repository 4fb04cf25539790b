/-
  The walk of Record of package pointsmansame at two records that are the same: true; it writes nothing that was there. The walks of Records and Message of package pointsmansame at lists, and messages, that are the same: true; they write nothing that was there. The walks of the law's own opts (at two that are the same) and told. A LAW OF MY OWN: a region that draws: those operations that only read are taken first, the rest comes in one of several orders (a tree), each order a goal. A message's and an option's cells, read at once.
-/
import Derived.Test.YtbbgabdiikdjpaaDoorRr
import Derived.Test.YtbbgabdiikdjpaaDoorMgWrite
import Derived.Deep.RegionHeld3
import Derived.BigQuiet
import Derived.Test.YtbbgabdiikdjpaaDoorJD
import Derived.Test.YtbbgabdiikdjpaaDoorJF
import Derived.Deep.MidRow
import Derived.Deep.Cut
namespace Go.Proofs.YtbbgabdiikdjpaaDoor
open Go.RowKit Go.Deep

set_option maxHeartbeats 1000000 in
set_option maxRecDepth 100000 in
theorem srecord_at {ya yb ua ub : Option Addr} {da db ca cb la lb ma mb : Nat} (n : List ByteArray) (D : List Int) (ty cl ttl : Int) (w : World) (ha : Strs w ya da n) (hb : Strs w yb db n) (hc : Bys w ua ca D) (hd : Bys w ub cb D)
    (hla : n.length = la) (hlb : n.length = lb) (hma : D.length = ma) (hmb : D.length = mb) :
    Calls Tryd.prog 58 #[.agg #[.slice ya la da, .int .i64 ty, .int .i64 cl, .int .i64 ttl, .slice ua ma ca], .agg #[.slice yb lb db, .int .i64 ty, .int .i64 cl, .int .i64 ttl, .slice ub mb cb]] w fun e w' => e = .returned (.bool true) ∧ Below w.heap.size w w' := by
  go_enter Tryd.func58, Tryd.ntmps58
  go_wp2_with fail
  have B0 : Below w.heap.size w _ := ((Below.refl _ w).alloc (Nat.le_refl _) (.cells #[.slice ya la da, .int .i64 ty, .int .i64 cl, .int .i64 ttl, .slice ua ma ca] 67)).alloc (by simp) (.cells #[.slice yb lb db, .int .i64 ty, .int .i64 cl, .int .i64 ttl, .slice ub mb cb] 67)
  have KA := (Bl.new 67 w #[.slice ya la da, .int .i64 ty, .int .i64 cl, .int .i64 ttl, .slice ua ma ca]).below ((Below.refl _ _).alloc (Nat.le_refl _) (.cells #[.slice yb lb db, .int .i64 ty, .int .i64 cl, .int .i64 ttl, .slice ub mb cb] 67))
  have KB := Bl.new 67 (w.alloc (.cells #[.slice ya la da, .int .i64 ty, .int .i64 cl, .int .i64 ttl, .slice ua ma ca] 67)) #[.slice yb lb db, .int .i64 ty, .int .i64 cl, .int .i64 ttl, .slice ub mb cb]
  have hs0 : (w.alloc (.cells #[.slice ya la da, .int .i64 ty, .int .i64 cl, .int .i64 ttl, .slice ua ma ca] 67)).heap.size = w.heap.size + 1 := by simp
  rw [hs0] at KB
  clear hs0
  refine (texts_here true n n _ (ha.below B0) (hb.below B0) hla hlb (by simp)).mono ?_
  rintro e w1 ⟨rfl, b1⟩
  have B1 := grown_on B0 b1
  have KA1 := KA.below b1
  have KB1 := KB.below b1
  clear B0 KA KB b1
  have a1 : w1.cell? ⟨w.heap.size, 1, none⟩ = some (.int .i64 ty) := KA1.cell (i := 1) rfl
  have a2 : w1.cell? ⟨w.heap.size, 2, none⟩ = some (.int .i64 cl) := KA1.cell (i := 2) rfl
  have a3 : w1.cell? ⟨w.heap.size, 3, none⟩ = some (.int .i64 ttl) := KA1.cell (i := 3) rfl
  have a4 : w1.cell? ⟨w.heap.size, 4, none⟩ = some (.slice ua ma ca) := KA1.cell (i := 4) rfl
  have e1 : w1.cell? ⟨w.heap.size + 1, 1, none⟩ = some (.int .i64 ty) := KB1.cell (i := 1) rfl
  have e2 : w1.cell? ⟨w.heap.size + 1, 2, none⟩ = some (.int .i64 cl) := KB1.cell (i := 2) rfl
  have e3 : w1.cell? ⟨w.heap.size + 1, 3, none⟩ = some (.int .i64 ttl) := KB1.cell (i := 3) rfl
  have e4 : w1.cell? ⟨w.heap.size + 1, 4, none⟩ = some (.slice ub mb cb) := KB1.cell (i := 4) rfl
  go_wp2_with fail
  refine (bytes_at true D D _ (hc.below B1) (hd.below B1) hma hmb (by simp)).mono ?_
  rintro e w2 ⟨rfl, b2⟩
  have B2 := grown_on B1 b2
  have KA2 := KA1.below b2
  have KB2 := KB1.below b2
  clear B1 KA1 KB1 b2 a1 a2 a3 a4 e1 e2 e3 e4
  have a1 : w2.cell? ⟨w.heap.size, 1, none⟩ = some (.int .i64 ty) := KA2.cell (i := 1) rfl
  have a2 : w2.cell? ⟨w.heap.size, 2, none⟩ = some (.int .i64 cl) := KA2.cell (i := 2) rfl
  have a3 : w2.cell? ⟨w.heap.size, 3, none⟩ = some (.int .i64 ttl) := KA2.cell (i := 3) rfl
  have e1 : w2.cell? ⟨w.heap.size + 1, 1, none⟩ = some (.int .i64 ty) := KB2.cell (i := 1) rfl
  have e2 : w2.cell? ⟨w.heap.size + 1, 2, none⟩ = some (.int .i64 cl) := KB2.cell (i := 2) rfl
  have e3 : w2.cell? ⟨w.heap.size + 1, 3, none⟩ = some (.int .i64 ttl) := KB2.cell (i := 3) rfl
  clear KA2 KB2
  go_wp2_with fail
  go_ret
  exact ⟨rfl, B2⟩

end Go.Proofs.YtbbgabdiikdjpaaDoor

namespace Go.Proofs.YtbbgabdiikdjpaaDoor
open Go.RowKit Go.Deep

set_option maxHeartbeats 2000000 in
set_option maxRecDepth 100000 in
theorem srecords_at {xa xb : Option Addr} {ca cb la lb Ba Bb : Nat} (rs : List Rn) (w : World) (ha : Rs w Ba xa ca rs) (hb : Rs w Bb xb cb rs) (hla : rs.length = la) (hlb : rs.length = lb) :
    Calls Tryd.prog 34 #[.slice xa la ca, .slice xb lb cb] w fun e w' => e = .returned (.bool true) ∧ Below w.heap.size w w' := by
  subst hla hlb
  have hlen := ha.2.1
  go_enter Tryd.func34, Tryd.ntmps34
  go_wp2_with fail
  go_loopw [5] (fun vi wr => ∃ i : Nat, i ≤ rs.length ∧ vi = .int .i64 (i : Int) ∧ Below w.heap.size w wr) (fun i _ => rs.length - (intOf i).toNat)
  case atStart => exact ⟨0, Nat.zero_le _, rfl, Below.refl _ _⟩
  case round =>
    obtain ⟨i, hi, rfl, hbel⟩ := hrel
    by_cases ci : i < rs.length
    · obtain ⟨b1, o1, y, s, z, t, rfl, hb1, e0, e1, e2, e3, e4, g1, g2, _⟩ := (ha.below hbel).at ci
      obtain ⟨b2, o2, y2, s2, z2, t2, rfl, hb2, f0, f1, f2, f3, f4, g3, g4, _⟩ := (hb.below hbel).at ci
      generalize rs[i] = r at *
      have G1 := hid g1
      have G2 := hid g2
      have G3 := hid g3
      have G4 := hid g4
      have HB := hid hbel
      have ci2 : (i : Int) < (rs.length : Int) := by omega
      clear g1 g2 g3 g4 hbel ha hb
      go_wp2_with fail
      have CR : Hid (∀ u, Below wr.heap.size wr u → Calls Tryd.prog 58 #[.agg #[.slice y r.N.length s, .int .i64 r.ty, .int .i64 r.cl, .int .i64 r.ttl, .slice z r.D.length t], .agg #[.slice y2 r.N.length s2, .int .i64 r.ty, .int .i64 r.cl, .int .i64 r.ttl, .slice z2 r.D.length t2]] u fun e u' => e = .returned (.bool true) ∧ Below u.heap.size u u') := hid (fun u hu => srecord_at r.N r.D r.ty r.cl r.ttl u (G1.out.below hu) (G3.out.below hu) (G2.out.below hu) (G4.out.below hu) rfl rfl rfl rfl)
      have PK : Hid (∀ u, Below wr.heap.size wr u → u.cell? ⟨b1, o1 + i * 5, none⟩ = some (.slice y r.N.length s) ∧ u.cell? ⟨b1, o1 + i * 5 + 1, none⟩ = some (.int .i64 r.ty) ∧ u.cell? ⟨b1, o1 + i * 5 + 2, none⟩ = some (.int .i64 r.cl) ∧ u.cell? ⟨b1, o1 + i * 5 + 3, none⟩ = some (.int .i64 r.ttl) ∧ u.cell? ⟨b1, o1 + i * 5 + 4, none⟩ = some (.slice z r.D.length t) ∧ u.cell? ⟨b2, o2 + i * 5, none⟩ = some (.slice y2 r.N.length s2) ∧ u.cell? ⟨b2, o2 + i * 5 + 1, none⟩ = some (.int .i64 r.ty) ∧ u.cell? ⟨b2, o2 + i * 5 + 2, none⟩ = some (.int .i64 r.cl) ∧ u.cell? ⟨b2, o2 + i * 5 + 3, none⟩ = some (.int .i64 r.ttl) ∧ u.cell? ⟨b2, o2 + i * 5 + 4, none⟩ = some (.slice z2 r.D.length t2) ∧ Below wr.heap.size wr u) := hid (fun u hu => ⟨(hu.cell (p := ⟨b1, o1 + i * 5, none⟩) hb1).trans e0, (hu.cell (p := ⟨b1, o1 + i * 5 + 1, none⟩) hb1).trans e1, (hu.cell (p := ⟨b1, o1 + i * 5 + 2, none⟩) hb1).trans e2, (hu.cell (p := ⟨b1, o1 + i * 5 + 3, none⟩) hb1).trans e3, (hu.cell (p := ⟨b1, o1 + i * 5 + 4, none⟩) hb1).trans e4, (hu.cell (p := ⟨b2, o2 + i * 5, none⟩) hb2).trans f0, (hu.cell (p := ⟨b2, o2 + i * 5 + 1, none⟩) hb2).trans f1, (hu.cell (p := ⟨b2, o2 + i * 5 + 2, none⟩) hb2).trans f2, (hu.cell (p := ⟨b2, o2 + i * 5 + 3, none⟩) hb2).trans f3, (hu.cell (p := ⟨b2, o2 + i * 5 + 4, none⟩) hb2).trans f4, hu⟩)
      go_region_held3 (fun u => u.cell? ⟨b1, o1 + i * 5, none⟩ = some (.slice y r.N.length s) ∧ u.cell? ⟨b1, o1 + i * 5 + 1, none⟩ = some (.int .i64 r.ty) ∧ u.cell? ⟨b1, o1 + i * 5 + 2, none⟩ = some (.int .i64 r.cl) ∧ u.cell? ⟨b1, o1 + i * 5 + 3, none⟩ = some (.int .i64 r.ttl) ∧ u.cell? ⟨b1, o1 + i * 5 + 4, none⟩ = some (.slice z r.D.length t) ∧ u.cell? ⟨b2, o2 + i * 5, none⟩ = some (.slice y2 r.N.length s2) ∧ u.cell? ⟨b2, o2 + i * 5 + 1, none⟩ = some (.int .i64 r.ty) ∧ u.cell? ⟨b2, o2 + i * 5 + 2, none⟩ = some (.int .i64 r.cl) ∧ u.cell? ⟨b2, o2 + i * 5 + 3, none⟩ = some (.int .i64 r.ttl) ∧ u.cell? ⟨b2, o2 + i * 5 + 4, none⟩ = some (.slice z2 r.D.length t2) ∧ Below wr.heap.size wr u) (with_reducible (first | assumption | exact PK.out _ (Below.drew (Below.refl _ _)) | exact PK.out _ HB3))
        (first
          | (go_at_call 58; refine (CR.out _ (Below.drew (Below.refl _ _))).mono ?_; rintro e w3 ⟨rfl, b3⟩; have HB3 : Below wr.heap.size wr w3 := grown_on (Below.drew (Below.refl _ _)) b3))
      have B5 := hid (grown_on HB.out HB3)
      clear b3 HB3 CR PK e0 e1 e2 e3 e4 f0 f1 f2 f3 f4 HB
      go_wp2_with fail
      exact ⟨⟨i + 1, by omega, by go_num, B5.out⟩, by simp [intOf]; omega⟩
    · have ci2 : ¬ (i : Int) < (rs.length : Int) := by omega
      go_wp2_with fail
      go_ret
      exact ⟨rfl, hbel⟩

set_option maxHeartbeats 4000000 in
set_option maxRecDepth 100000 in
theorem smsg_at {xq x1 x2 x3 yq y1 y2 y3 : Option Addr} {cq c1 c2 c3 dq d1 d2 d3 Ba Bb : Nat} (h : Hd) (qs : List Qn) (r1 r2 r3 : List Rn) (w : World) (hq : Qs w Ba xq cq qs) (hr1 : Rs w Ba x1 c1 r1) (hr2 : Rs w Ba x2 c2 r2) (hr3 : Rs w Ba x3 c3 r3) (hp : Qs w Bb yq dq qs) (hs1 : Rs w Bb y1 d1 r1) (hs2 : Rs w Bb y2 d2 r2) (hs3 : Rs w Bb y3 d3 r3) :
    Calls Tryd.prog 8 #[.agg #[.int .i64 h.id, .bool h.an, .int .i64 h.op, .bool h.aa, .bool h.tc, .bool h.rd, .bool h.ra, .bool h.z, .bool h.ad, .bool h.cd, .int .i64 h.code, .slice xq qs.length cq, .slice x1 r1.length c1, .slice x2 r2.length c2, .slice x3 r3.length c3], .agg #[.int .i64 h.id, .bool h.an, .int .i64 h.op, .bool h.aa, .bool h.tc, .bool h.rd, .bool h.ra, .bool h.z, .bool h.ad, .bool h.cd, .int .i64 h.code, .slice yq qs.length dq, .slice y1 r1.length d1, .slice y2 r2.length d2, .slice y3 r3.length d3]] w fun e w' => e = .returned (.bool true) ∧ Below w.heap.size w w' := by
  have hlen := hq.2.1
  go_enter Tryd.func8, Tryd.ntmps8
  go_wp2_with fail
  have B0 : Below w.heap.size w ((w.alloc (.cells #[.int .i64 h.id, .bool h.an, .int .i64 h.op, .bool h.aa, .bool h.tc, .bool h.rd, .bool h.ra, .bool h.z, .bool h.ad, .bool h.cd, .int .i64 h.code, .slice xq qs.length cq, .slice x1 r1.length c1, .slice x2 r2.length c2, .slice x3 r3.length c3] 28)).alloc (.cells #[.int .i64 h.id, .bool h.an, .int .i64 h.op, .bool h.aa, .bool h.tc, .bool h.rd, .bool h.ra, .bool h.z, .bool h.ad, .bool h.cd, .int .i64 h.code, .slice yq qs.length dq, .slice y1 r1.length d1, .slice y2 r2.length d2, .slice y3 r3.length d3] 28)) := ((Below.refl _ w).alloc (Nat.le_refl _) _).alloc (by simp) _
  have KA := (Bl.new 28 w #[.int .i64 h.id, .bool h.an, .int .i64 h.op, .bool h.aa, .bool h.tc, .bool h.rd, .bool h.ra, .bool h.z, .bool h.ad, .bool h.cd, .int .i64 h.code, .slice xq qs.length cq, .slice x1 r1.length c1, .slice x2 r2.length c2, .slice x3 r3.length c3]).below ((Below.refl _ _).alloc (Nat.le_refl _) (.cells #[.int .i64 h.id, .bool h.an, .int .i64 h.op, .bool h.aa, .bool h.tc, .bool h.rd, .bool h.ra, .bool h.z, .bool h.ad, .bool h.cd, .int .i64 h.code, .slice yq qs.length dq, .slice y1 r1.length d1, .slice y2 r2.length d2, .slice y3 r3.length d3] 28))
  have KB := Bl.new2 28 w (.cells #[.int .i64 h.id, .bool h.an, .int .i64 h.op, .bool h.aa, .bool h.tc, .bool h.rd, .bool h.ra, .bool h.z, .bool h.ad, .bool h.cd, .int .i64 h.code, .slice xq qs.length cq, .slice x1 r1.length c1, .slice x2 r2.length c2, .slice x3 r3.length c3] 28) #[.int .i64 h.id, .bool h.an, .int .i64 h.op, .bool h.aa, .bool h.tc, .bool h.rd, .bool h.ra, .bool h.z, .bool h.ad, .bool h.cd, .int .i64 h.code, .slice yq qs.length dq, .slice y1 r1.length d1, .slice y2 r2.length d2, .slice y3 r3.length d3]
  go_loopw [5] (fun vi wr => ∃ i : Nat, i ≤ qs.length ∧ vi = .int .i64 (i : Int) ∧ Below w.heap.size w wr ∧ Bl 28 wr w.heap.size #[.int .i64 h.id, .bool h.an, .int .i64 h.op, .bool h.aa, .bool h.tc, .bool h.rd, .bool h.ra, .bool h.z, .bool h.ad, .bool h.cd, .int .i64 h.code, .slice xq qs.length cq, .slice x1 r1.length c1, .slice x2 r2.length c2, .slice x3 r3.length c3] ∧ Bl 28 wr (w.heap.size + 1) #[.int .i64 h.id, .bool h.an, .int .i64 h.op, .bool h.aa, .bool h.tc, .bool h.rd, .bool h.ra, .bool h.z, .bool h.ad, .bool h.cd, .int .i64 h.code, .slice yq qs.length dq, .slice y1 r1.length d1, .slice y2 r2.length d2, .slice y3 r3.length d3]) (fun i _ => qs.length - (intOf i).toNat)
  case atStart => exact ⟨0, Nat.zero_le _, rfl, B0, KA, KB⟩
  case round =>
    clear B0 KA KB
    obtain ⟨i, hi, rfl, hbel, ka, kb⟩ := hrel
    have a11 := ka.cell (i := 11) rfl
    have b11 := kb.cell (i := 11) rfl
    have hla := ka.lt
    have hlb := kb.lt
    have KA := hid ka
    have KB := hid kb
    have HB := hid hbel
    by_cases ci : i < qs.length
    · obtain ⟨b1, o1, y, s, rfl, hb1, e0, e1, e2, g1⟩ := (hq.below hbel).at ci
      obtain ⟨b2, o2, z, t, rfl, hb2, f0, f1, f2, g2⟩ := (hp.below hbel).at ci
      generalize qs[i] = q at *
      have G1 := hid g1
      have G2 := hid g2
      have ci2 : (i : Int) < (qs.length : Int) := by omega
      have E1 := hid e1
      have E2 := hid e2
      have F1 := hid f1
      have F2 := hid f2
      clear g1 g2 hbel ka kb hq hp e1 e2 f1 f2
      go_wp2_with fail
      have CR : Hid (∀ u, Below wr.heap.size wr u → Calls Tryd.prog 33 #[.slice y q.N.length s, .slice z q.N.length t] u fun e u' => e = .returned (.bool true) ∧ Below u.heap.size u u') := hid (fun u hu => texts_here true q.N q.N u (G1.out.below hu) (G2.out.below hu) rfl rfl (by simp))
      have PK : Hid (∀ u, Below wr.heap.size wr u → u.cell? ⟨w.heap.size, 11, none⟩ = some (.slice (some ⟨b1, o1, none⟩) qs.length cq) ∧ u.cell? ⟨w.heap.size + 1, 11, none⟩ = some (.slice (some ⟨b2, o2, none⟩) qs.length dq) ∧ u.cell? ⟨b1, o1 + i * 3, none⟩ = some (.slice y q.N.length s) ∧ u.cell? ⟨b2, o2 + i * 3, none⟩ = some (.slice z q.N.length t) ∧ Below wr.heap.size wr u) := hid (fun u hu => ⟨(hu.cell (p := ⟨w.heap.size, 11, none⟩) hla).trans a11, (hu.cell (p := ⟨w.heap.size + 1, 11, none⟩) hlb).trans b11, (hu.cell (p := ⟨b1, o1 + i * 3, none⟩) hb1).trans e0, (hu.cell (p := ⟨b2, o2 + i * 3, none⟩) hb2).trans f0, hu⟩)
      go_region_held3 (fun u => u.cell? ⟨w.heap.size, 11, none⟩ = some (.slice (some ⟨b1, o1, none⟩) qs.length cq) ∧ u.cell? ⟨w.heap.size + 1, 11, none⟩ = some (.slice (some ⟨b2, o2, none⟩) qs.length dq) ∧ u.cell? ⟨b1, o1 + i * 3, none⟩ = some (.slice y q.N.length s) ∧ u.cell? ⟨b2, o2 + i * 3, none⟩ = some (.slice z q.N.length t) ∧ Below wr.heap.size wr u) (with_reducible (first | assumption | exact PK.out _ (Below.drew (Below.refl _ _)) | exact PK.out _ HB3))
        (first
          | (go_at_call 33; refine (CR.out _ (Below.drew (Below.refl _ _))).mono ?_; rintro e w3 ⟨rfl, b3⟩; have HB3 : Below wr.heap.size wr w3 := grown_on (Below.drew (Below.refl _ _)) b3))
      have B5 := hid (grown_on HB.out HB3)
      have KA5 := hid (KA.out.below HB3)
      have KB5 := hid (KB.out.below HB3)
      obtain ⟨m1, m2, _, _, _⟩ := PK.out w3 HB3
      have n1 := (HB3.cell (p := ⟨b1, o1 + i * 3 + 1, none⟩) hb1).trans E1.out
      have n2 := (HB3.cell (p := ⟨b1, o1 + i * 3 + 2, none⟩) hb1).trans E2.out
      have n3 := (HB3.cell (p := ⟨b2, o2 + i * 3 + 1, none⟩) hb2).trans F1.out
      have n4 := (HB3.cell (p := ⟨b2, o2 + i * 3 + 2, none⟩) hb2).trans F2.out
      clear b3 HB3 CR PK e0 f0 a11 b11 HB KA KB E1 E2 F1 F2
      go_wp2_with fail
      go_quiet (fail)
      have BD : Below w3.heap.size w3 (w3.drewN nq) := ((Drawn.refl _).more nq).below _
      have B6 := hid (grown_on B5.out BD)
      have KA6 := hid (KA5.out.below BD)
      have KB6 := hid (KB5.out.below BD)
      clear m1 m2 n1 n2 n3 n4 BD
      go_wp2_with fail
      exact ⟨⟨i + 1, by omega, by go_num, B6.out, KA6.out, KB6.out⟩, by simp [intOf]; omega⟩
    · have ci2 : ¬ (i : Int) < (qs.length : Int) := by omega
      have a12 := ka.cell (i := 12) rfl
      have b12 := kb.cell (i := 12) rfl
      clear hbel ka kb
      go_wp2_with fail
      refine (srecords_at r1 _ (hr1.below HB.out) (hs1.below HB.out) rfl rfl).mono ?_
      rintro e w4 ⟨rfl, b4⟩
      have a13 : w4.cell? ⟨w.heap.size, 13, none⟩ = _ := (KA.out.below b4).cell (i := 13) rfl
      have b13 : w4.cell? ⟨w.heap.size + 1, 13, none⟩ = _ := (KB.out.below b4).cell (i := 13) rfl
      have HB4 := hid (grown_on HB.out b4)
      have KA4 := hid (KA.out.below b4)
      have KB4 := hid (KB.out.below b4)
      clear b4 a11 b11 a12 b12 HB KA KB
      go_wp2_with fail
      refine (srecords_at r2 _ (hr2.below HB4.out) (hs2.below HB4.out) rfl rfl).mono ?_
      rintro e w5 ⟨rfl, b5⟩
      have a14 : w5.cell? ⟨w.heap.size, 14, none⟩ = _ := (KA4.out.below b5).cell (i := 14) rfl
      have b14 : w5.cell? ⟨w.heap.size + 1, 14, none⟩ = _ := (KB4.out.below b5).cell (i := 14) rfl
      have HB5 := hid (grown_on HB4.out b5)
      clear b5 a13 b13 HB4 KA4 KB4
      go_wp2_with fail
      refine (srecords_at r3 _ (hr3.below HB5.out) (hs3.below HB5.out) rfl rfl).mono ?_
      rintro e w6 ⟨rfl, b6⟩
      have HB6 := hid (grown_on HB5.out b6)
      clear b6 a14 b14 HB5
      go_wp2_with fail
      go_ret
      exact ⟨rfl, HB6.out⟩

end Go.Proofs.YtbbgabdiikdjpaaDoor

namespace Go.Proofs.YtbbgabdiikdjpaaDoor
open Go.RowKit Go.Deep

set_option maxHeartbeats 4000000 in
set_option maxRecDepth 100000 in
theorem opts_at {x y : Option Addr} {c d Ba Bb : Nat} (o : Ot) (w : World) (ha : Ops w Ba x c o.os) (hb : Ops w Bb y d o.os) :
    Calls Tryd.prog 15 #[.agg #[.int .i64 o.size, .int .i64 o.code, .int .i64 o.ver, .bool o.dO, .int .i64 o.z, .slice x o.os.length c], .agg #[.int .i64 o.size, .int .i64 o.code, .int .i64 o.ver, .bool o.dO, .int .i64 o.z, .slice y o.os.length d]] w fun e w' => e = .returned (.bool true) ∧ Below w.heap.size w w' := by
  have hlen := ha.2.1
  obtain ⟨k1, k2, k3⟩ := Bl.two 46 46 w #[.int .i64 o.size, .int .i64 o.code, .int .i64 o.ver, .bool o.dO, .int .i64 o.z, .slice x o.os.length c] #[.int .i64 o.size, .int .i64 o.code, .int .i64 o.ver, .bool o.dO, .int .i64 o.z, .slice y o.os.length d]
  have K3 := hid k3
  have K1 := hid k1
  have K2 := hid k2
  have a0 := k1.cell (i := 0) rfl
  have a1 := k1.cell (i := 1) rfl
  have a2 := k1.cell (i := 2) rfl
  have a3 := k1.cell (i := 3) rfl
  have a4 := k1.cell (i := 4) rfl
  have a5 := k1.cell (i := 5) rfl
  have b0 := k2.cell (i := 0) rfl
  have b1 := k2.cell (i := 1) rfl
  have b2 := k2.cell (i := 2) rfl
  have b3 := k2.cell (i := 3) rfl
  have b4 := k2.cell (i := 4) rfl
  have b5 := k2.cell (i := 5) rfl
  clear k1 k2 k3
  go_enter Tryd.func15, Tryd.ntmps15
  go_upto_region 1 with fail
  generalize (w.alloc (.cells #[.int .i64 o.size, .int .i64 o.code, .int .i64 o.ver, .bool o.dO, .int .i64 o.z, .slice x o.os.length c] 46)).alloc (.cells #[.int .i64 o.size, .int .i64 o.code, .int .i64 o.ver, .bool o.dO, .int .i64 o.z, .slice y o.os.length d] 46) = W0 at *
  go_wp2_with fail
  clear a0 a1 a2 a3 a4 a5 b0 b1 b2 b3 b4 b5
  go_loopw [5] (fun vi wr => ∃ i : Nat, i ≤ o.os.length ∧ vi = .int .i64 (i : Int) ∧ Below w.heap.size w wr ∧ Bl 46 wr w.heap.size #[.int .i64 o.size, .int .i64 o.code, .int .i64 o.ver, .bool o.dO, .int .i64 o.z, .slice x o.os.length c] ∧ Bl 46 wr (w.heap.size + 1) #[.int .i64 o.size, .int .i64 o.code, .int .i64 o.ver, .bool o.dO, .int .i64 o.z, .slice y o.os.length d]) (fun i _ => o.os.length - (intOf i).toNat)
  case atStart => exact ⟨0, Nat.zero_le _, rfl, K3.out, K1.out, K2.out⟩
  case round =>
    clear K1 K2 K3
    obtain ⟨i, hi, rfl, hbel, ka, kb⟩ := hrel
    have a5 := ka.cell (i := 5) rfl
    have b5 := kb.cell (i := 5) rfl
    have hla := ka.lt
    have hlb := kb.lt
    have KA := hid ka
    have KB := hid kb
    have HB := hid hbel
    by_cases ci : i < o.os.length
    · obtain ⟨b1, o1, z, t, rfl, hb1, e0, e1, g1, _⟩ := (ha.below hbel).at ci
      obtain ⟨b2, o2, z2, t2, rfl, hb2, f0, f1, g2, _⟩ := (hb.below hbel).at ci
      generalize o.os[i] = r at *
      have G1 := hid g1
      have G2 := hid g2
      have ci2 : (i : Int) < (o.os.length : Int) := by omega
      have E0 := hid e0
      have F0 := hid f0
      clear g1 g2 hbel ka kb ha hb e0 f0
      go_wp2_with fail
      have CR : Hid (∀ u, Below wr.heap.size wr u → Calls Tryd.prog 11 #[.slice z r.D.length t, .slice z2 r.D.length t2] u fun e u' => e = .returned (.bool true) ∧ Below u.heap.size u u') := hid (fun u hu => bytes_at true r.D r.D u (G1.out.below hu) (G2.out.below hu) rfl rfl (by simp))
      have PK : Hid (∀ u, Below wr.heap.size wr u → u.cell? ⟨w.heap.size, 5, none⟩ = some (.slice (some ⟨b1, o1, none⟩) o.os.length c) ∧ u.cell? ⟨w.heap.size + 1, 5, none⟩ = some (.slice (some ⟨b2, o2, none⟩) o.os.length d) ∧ u.cell? ⟨b1, o1 + i * 2 + 1, none⟩ = some (.slice z r.D.length t) ∧ u.cell? ⟨b2, o2 + i * 2 + 1, none⟩ = some (.slice z2 r.D.length t2) ∧ Below wr.heap.size wr u) := hid (fun u hu => ⟨(hu.cell (p := ⟨w.heap.size, 5, none⟩) hla).trans a5, (hu.cell (p := ⟨w.heap.size + 1, 5, none⟩) hlb).trans b5, (hu.cell (p := ⟨b1, o1 + i * 2 + 1, none⟩) hb1).trans e1, (hu.cell (p := ⟨b2, o2 + i * 2 + 1, none⟩) hb2).trans f1, hu⟩)
      go_region_held3 (fun u => u.cell? ⟨w.heap.size, 5, none⟩ = some (.slice (some ⟨b1, o1, none⟩) o.os.length c) ∧ u.cell? ⟨w.heap.size + 1, 5, none⟩ = some (.slice (some ⟨b2, o2, none⟩) o.os.length d) ∧ u.cell? ⟨b1, o1 + i * 2 + 1, none⟩ = some (.slice z r.D.length t) ∧ u.cell? ⟨b2, o2 + i * 2 + 1, none⟩ = some (.slice z2 r.D.length t2) ∧ Below wr.heap.size wr u) (with_reducible (first | assumption | exact PK.out _ (Below.drew (Below.refl _ _)) | exact PK.out _ HB3))
        (first
          | (go_at_call 11; refine (CR.out _ (Below.drew (Below.refl _ _))).mono ?_; rintro e w3 ⟨rfl, b3⟩; have HB3 : Below wr.heap.size wr w3 := grown_on (Below.drew (Below.refl _ _)) b3))
      have B5 := hid (grown_on HB.out HB3)
      have KA5 := hid (KA.out.below HB3)
      have KB5 := hid (KB.out.below HB3)
      obtain ⟨m1, m2, _, _, _⟩ := PK.out w3 HB3
      have n1 := (HB3.cell (p := ⟨b1, o1 + i * 2, none⟩) hb1).trans E0.out
      have n2 := (HB3.cell (p := ⟨b2, o2 + i * 2, none⟩) hb2).trans F0.out
      clear b3 HB3 CR PK e1 f1 a5 b5 HB KA KB E0 F0
      go_wp2_with fail
      go_quiet (fail)
      have BD : Below w3.heap.size w3 (w3.drewN nq) := ((Drawn.refl _).more nq).below _
      have B6 := hid (grown_on B5.out BD)
      have KA6 := hid (KA5.out.below BD)
      have KB6 := hid (KB5.out.below BD)
      clear m1 m2 n1 n2 BD
      go_wp2_with fail
      exact ⟨⟨i + 1, by omega, by go_num, B6.out, KA6.out, KB6.out⟩, by simp [intOf]; omega⟩
    · have ci2 : ¬ (i : Int) < (o.os.length : Int) := by omega
      clear hbel ka kb
      go_wp2_with fail
      go_ret
      exact ⟨rfl, HB.out⟩

theorem Bl.fifteen {t : TypeId} {w : World} {b : Nat} {v0 v1 v2 v3 v4 v5 v6 v7 v8 v9 v10 v11 v12 v13 v14 : Value} (h : Bl t w b #[v0, v1, v2, v3, v4, v5, v6, v7, v8, v9, v10, v11, v12, v13, v14]) : w.cell? ⟨b, 0, none⟩ = some v0 ∧ w.cell? ⟨b, 1, none⟩ = some v1 ∧ w.cell? ⟨b, 2, none⟩ = some v2 ∧ w.cell? ⟨b, 3, none⟩ = some v3 ∧ w.cell? ⟨b, 4, none⟩ = some v4 ∧ w.cell? ⟨b, 5, none⟩ = some v5 ∧ w.cell? ⟨b, 6, none⟩ = some v6 ∧ w.cell? ⟨b, 7, none⟩ = some v7 ∧ w.cell? ⟨b, 8, none⟩ = some v8 ∧ w.cell? ⟨b, 9, none⟩ = some v9 ∧ w.cell? ⟨b, 10, none⟩ = some v10 ∧ w.cell? ⟨b, 11, none⟩ = some v11 ∧ w.cell? ⟨b, 12, none⟩ = some v12 ∧ w.cell? ⟨b, 13, none⟩ = some v13 ∧ w.cell? ⟨b, 14, none⟩ = some v14 :=
  ⟨h.cell (i := 0) rfl, h.cell (i := 1) rfl, h.cell (i := 2) rfl, h.cell (i := 3) rfl, h.cell (i := 4) rfl, h.cell (i := 5) rfl, h.cell (i := 6) rfl, h.cell (i := 7) rfl, h.cell (i := 8) rfl, h.cell (i := 9) rfl, h.cell (i := 10) rfl, h.cell (i := 11) rfl, h.cell (i := 12) rfl, h.cell (i := 13) rfl, h.cell (i := 14) rfl⟩
theorem Bl.six {t : TypeId} {w : World} {b : Nat} {v0 v1 v2 v3 v4 v5 : Value} (h : Bl t w b #[v0, v1, v2, v3, v4, v5]) : w.cell? ⟨b, 0, none⟩ = some v0 ∧ w.cell? ⟨b, 1, none⟩ = some v1 ∧ w.cell? ⟨b, 2, none⟩ = some v2 ∧ w.cell? ⟨b, 3, none⟩ = some v3 ∧ w.cell? ⟨b, 4, none⟩ = some v4 ∧ w.cell? ⟨b, 5, none⟩ = some v5 :=
  ⟨h.cell (i := 0) rfl, h.cell (i := 1) rfl, h.cell (i := 2) rfl, h.cell (i := 3) rfl, h.cell (i := 4) rfl, h.cell (i := 5) rfl⟩

/-- A message in a block. -/
def MsgB (w : World) (b : Nat) (h : Hd) (qs : List Qn) (r1 r2 r3 : List Rn) : Prop :=
  ∃ xq cq x1 c1 x2 c2 x3 c3, Bl 28 w b #[.int .i64 h.id, .bool h.an, .int .i64 h.op, .bool h.aa, .bool h.tc, .bool h.rd, .bool h.ra, .bool h.z, .bool h.ad, .bool h.cd, .int .i64 h.code, .slice xq qs.length cq, .slice x1 r1.length c1, .slice x2 r2.length c2, .slice x3 r3.length c3] ∧ Qs w 0 xq cq qs ∧ Rs w 0 x1 c1 r1 ∧ Rs w 0 x2 c2 r2 ∧ Rs w 0 x3 c3 r3
theorem MsgB.below {w w' : World} {b : Nat} {h : Hd} {qs : List Qn} {r1 r2 r3 : List Rn} (m : MsgB w b h qs r1 r2 r3) (k : Below w.heap.size w w') : MsgB w' b h qs r1 r2 r3 := by
  obtain ⟨xq, cq, x1, c1, x2, c2, x3, c3, kb, hq, h1, h2, h3⟩ := m
  exact ⟨xq, cq, x1, c1, x2, c2, x3, c3, kb.below k, hq.below k, h1.below k, h2.below k, h3.below k⟩
theorem MsgB.lt {w : World} {b : Nat} {h : Hd} {qs : List Qn} {r1 r2 r3 : List Rn} (m : MsgB w b h qs r1 r2 r3) : b < w.heap.size := by
  obtain ⟨_, _, _, _, _, _, _, _, kb, _⟩ := m
  exact kb.lt
theorem MsgB.new {w : World} {xq x1 x2 x3 : Option Addr} {cq c1 c2 c3 : Nat} (h : Hd) {qs : List Qn} {r1 r2 r3 : List Rn} (hq : Qs w 0 xq cq qs) (h1 : Rs w 0 x1 c1 r1) (h2 : Rs w 0 x2 c2 r2) (h3 : Rs w 0 x3 c3 r3) :
    MsgB (w.alloc (.cells #[.int .i64 h.id, .bool h.an, .int .i64 h.op, .bool h.aa, .bool h.tc, .bool h.rd, .bool h.ra, .bool h.z, .bool h.ad, .bool h.cd, .int .i64 h.code, .slice xq qs.length cq, .slice x1 r1.length c1, .slice x2 r2.length c2, .slice x3 r3.length c3] 28)) w.heap.size h qs r1 r2 r3 :=
  have k := (Below.refl w.heap.size w).alloc (Nat.le_refl _) _
  ⟨xq, cq, x1, c1, x2, c2, x3, c3, Bl.new 28 w _, hq.below k, h1.below k, h2.below k, h3.below k⟩

/-- What a message tells, in a block. -/
def OptB (w : World) (b : Nat) (o : Ot) : Prop := ∃ x c, Bl 46 w b #[.int .i64 o.size, .int .i64 o.code, .int .i64 o.ver, .bool o.dO, .int .i64 o.z, .slice x o.os.length c] ∧ Ops w 0 x c o.os
theorem OptB.below {w w' : World} {b : Nat} {o : Ot} (m : OptB w b o) (k : Below w.heap.size w w') : OptB w' b o := by
  obtain ⟨x, c, kb, h⟩ := m
  exact ⟨x, c, kb.below k, h.below k⟩
theorem OptB.new {w : World} {x : Option Addr} {c : Nat} (o : Ot) (h : Ops w 0 x c o.os) : OptB (w.alloc (.cells #[.int .i64 o.size, .int .i64 o.code, .int .i64 o.ver, .bool o.dO, .int .i64 o.z, .slice x o.os.length c] 46)) w.heap.size o :=
  have k := (Below.refl w.heap.size w).alloc (Nat.le_refl _) _
  ⟨x, c, Bl.new 46 w _, h.below k⟩

theorem sil_sil (rs : List Rn) : silR (silR rs) = silR rs := by unfold silR; rw [List.filter_filter]; congr 1; funext r; simp
theorem tel_sil (rs : List Rn) : telR (silR rs) = [] := by unfold telR silR; rw [List.filter_filter]; exact List.filter_eq_nil_iff.2 (fun r _ => by simp)
theorem tel_put (rs : List Rn) (o : Ot) : telR (silR rs ++ [otR o]) = [otR o] := by
  have h := tel_sil rs
  unfold telR at h ⊢
  rw [List.filter_append, h]; rfl
theorem sil_put (rs : List Rn) (o : Ot) : silR (silR rs ++ [otR o]) = silR rs := by
  have h := sil_sil rs
  unfold silR at h ⊢
  rw [List.filter_append, h]; simp [otR]

theorem rrow_rs {w : World} {B : Nat} {x : Option Addr} {c : Nat} {rs : List Rn} (h : RRow w B (.slice x rs.length c) rs) (hl : rs.length ≤ 4000000000000) : Rs w B x c rs := by
  obtain ⟨x', c', e, h'⟩ := h.open hl
  cases e
  exact h'
theorem qrow_qs {w : World} {B : Nat} {x : Option Addr} {c : Nat} {qs : List Qn} (h : QRow w B (.slice x qs.length c) qs) (hl : qs.length ≤ 4000000000000) : Qs w B x c qs := by
  obtain ⟨x', c', e, h'⟩ := h.open hl
  cases e
  exact h'

theorem MRows.rows {W : Nat} {xq x1 x2 x3 : Option Addr} {cq c1 c2 c3 : Nat} {qs : List Qn} {r1 r2 r3 : List Rn} {w : World} (h : MRows W (.slice xq qs.length cq) (.slice x1 r1.length c1) (.slice x2 r2.length c2) (.slice x3 r3.length c3) qs r1 r2 r3 w)
    (lq : qs.length ≤ 4000000000000) (l1 : r1.length ≤ 4000000000000) (l2 : r2.length ≤ 4000000000000) (l3 : r3.length ≤ 4000000000000) : Qs w 0 xq cq qs ∧ Rs w 0 x1 c1 r1 ∧ Rs w 0 x2 c2 r2 ∧ Rs w 0 x3 c3 r3 := by
  obtain ⟨u, B, h1, h2, h3, h4, h5, h6, h7⟩ := h
  exact ⟨(qrow_qs (h3.agree h6) lq).base (Nat.zero_le _), (rrow_rs (h4.agree h6) l1).base (Nat.zero_le _), (rrow_rs (h5.agree h6) l2).base (Nat.zero_le _), (rrow_rs h7 l3).base (Nat.zero_le _)⟩

theorem put_len {o : Ot} (h : otE o = 0) : (otR o).D.length ≤ 100000000 := by
  have h1 := (dataE_zero (otE_zero h).2).2
  show (optB o.os).length ≤ 100000000
  rw [optB_len]; omega

theorem find_put {xq x1 x2 x3 : Option Addr} {lq l1 l2 cq c1 c2 c3 l b3 : Nat} (h : Hd) (rs : List Rn) (o : Ot) (w : World) (hr : Rs w b3 x3 c3 rs) (hl : rs.length = l) (ht : telR rs = [otR o]) (ho : otE o = 0) (l3 : rs.length * 72 ≤ 140737488355328) :
    Calls Tryd.prog 14 #[.agg #[.int .i64 h.id, .bool h.an, .int .i64 h.op, .bool h.aa, .bool h.tc, .bool h.rd, .bool h.ra, .bool h.z, .bool h.ad, .bool h.cd, .int .i64 h.code, .slice xq lq cq, .slice x1 l1 c1, .slice x2 l2 c2, .slice x3 l c3]] w fun e w' => ∃ x c, e = .returned (.tuple #[.agg #[.int .i64 o.size, .int .i64 o.code, .int .i64 o.ver, .bool o.dO, .int .i64 o.z, .slice x o.os.length c], .bool true, .nilIface]) ∧ Ops w' 0 x c o.os ∧ Below w.heap.size w w' := by
  subst hl
  have hf := findN_good ht (recO_otR ho)
  refine (find_any h rs w hr l3 (by rw [ht]; intro r hr'; rw [List.mem_singleton.1 hr']; exact put_len ho)).mono ?_
  rintro e w' (⟨k, hk, _⟩ | ⟨o', x, c, hk, he, hos, hb⟩)
  · rw [hf] at hk; simp at hk
  · rw [hf] at hk
    have : o = o' := by simpa using hk
    subst this
    exact ⟨x, c, he, hos.base (Nat.zero_le _), hb⟩

theorem find_silent {xq x1 x2 x3 : Option Addr} {lq l1 l2 cq c1 c2 c3 l b3 : Nat} (h : Hd) (rs : List Rn) (w : World) (hr : Rs w b3 x3 c3 rs) (hl : rs.length = l) (ht : telR rs = []) (l3 : rs.length * 72 ≤ 140737488355328) :
    Calls Tryd.prog 14 #[.agg #[.int .i64 h.id, .bool h.an, .int .i64 h.op, .bool h.aa, .bool h.tc, .bool h.rd, .bool h.ra, .bool h.z, .bool h.ad, .bool h.cd, .int .i64 h.code, .slice xq lq cq, .slice x1 l1 c1, .slice x2 l2 c2, .slice x3 l c3]] w fun e w' => e = .returned (.tuple #[.agg #[.int .i64 0, .int .i64 0, .int .i64 0, .bool false, .int .i64 0, .slice none 0 0], .bool false, .nilIface]) ∧ Below w.heap.size w w' := by
  subst hl
  have hf := findN_none ht
  refine (find_any h rs w hr l3 (by rw [ht]; intro r hr'; simp at hr')).mono ?_
  rintro e w' (⟨k, hk, he, hb⟩ | ⟨o', x, c, hk, _⟩)
  · rw [hf] at hk
    have : k = 0 := by simpa using hk.symm
    subst this
    exact ⟨by rw [he, errV_none], hb⟩
  · rw [hf] at hk; simp at hk

theorem set_put {xq x1 x2 x3 x : Option Addr} {cq c1 c2 c3 c bq b1 b2 b3 bo : Nat} (h : Hd) (qs : List Qn) (r1 r2 r3 rs : List Rn) (o : Ot) (w : World) (hq : Qs w bq xq cq qs) (hr1 : Rs w b1 x1 c1 r1) (hr2 : Rs w b2 x2 c2 r2) (hr3 : Rs w b3 x3 c3 r3) (l1 : r1.length * 72 ≤ 140737488355328) (l2 : r2.length * 72 ≤ 140737488355328) (l3 : (r3.length + 1) * 72 ≤ 140737488355328) (hs : Ops w bo x c o.os) (hk : otE o = 0) (hrs : silR r3 ++ [otR o] = rs) :
    Calls Tryd.prog 20 #[.agg #[.int .i64 h.id, .bool h.an, .int .i64 h.op, .bool h.aa, .bool h.tc, .bool h.rd, .bool h.ra, .bool h.z, .bool h.ad, .bool h.cd, .int .i64 h.code, .slice xq qs.length cq, .slice x1 r1.length c1, .slice x2 r2.length c2, .slice x3 r3.length c3], .agg #[.int .i64 o.size, .int .i64 o.code, .int .i64 o.ver, .bool o.dO, .int .i64 o.z, .slice x o.os.length c]] w
      fun e w' => ∃ yq dq y1 d1 y2 d2 y3 d3, e = .returned (.tuple #[.agg #[.int .i64 h.id, .bool h.an, .int .i64 h.op, .bool h.aa, .bool h.tc, .bool h.rd, .bool h.ra, .bool h.z, .bool h.ad, .bool h.cd, .int .i64 h.code, .slice yq qs.length dq, .slice y1 r1.length d1, .slice y2 r2.length d2, .slice y3 rs.length d3], .nilIface]) ∧ Qs w' 0 yq dq qs ∧ Rs w' 0 y1 d1 r1 ∧ Rs w' 0 y2 d2 r2 ∧ Rs w' 0 y3 d3 rs ∧ Below w.heap.size w w' := by
  subst hrs
  refine (set_good h qs r1 r2 r3 o w hq hr1 hr2 hr3 l1 l2 l3 hs hk).mono ?_
  rintro e w' ⟨yq, dq, y1, d1, y2, d2, y3, d3, he, k0, k1, k2, k3, hb⟩
  have := sil_len r3
  exact ⟨yq, dq, y1, d1, y2, d2, y3, d3, he, (qrow_qs k0 hq.2.1).base (Nat.zero_le _), (rrow_rs k1 hr1.2.1).base (Nat.zero_le _), (rrow_rs k2 hr2.2.1).base (Nat.zero_le _), (rrow_rs k3 (by rw [List.length_append]; simp; omega)).base (Nat.zero_le _), hb⟩

theorem drop_at {xq x1 x2 x3 : Option Addr} {cq c1 c2 c3 bq b1 b2 b3 : Nat} (h : Hd) (qs : List Qn) (r1 r2 r3 rs : List Rn) (w : World) (hq : Qs w bq xq cq qs) (hr1 : Rs w b1 x1 c1 r1) (hr2 : Rs w b2 x2 c2 r2) (hr3 : Rs w b3 x3 c3 r3) (l1 : r1.length * 72 ≤ 140737488355328) (l2 : r2.length * 72 ≤ 140737488355328) (l3 : r3.length * 72 ≤ 140737488355328) (hrs : silR r3 = rs) :
    Calls Tryd.prog 16 #[.agg #[.int .i64 h.id, .bool h.an, .int .i64 h.op, .bool h.aa, .bool h.tc, .bool h.rd, .bool h.ra, .bool h.z, .bool h.ad, .bool h.cd, .int .i64 h.code, .slice xq qs.length cq, .slice x1 r1.length c1, .slice x2 r2.length c2, .slice x3 r3.length c3]] w
      fun e w' => ∃ yq dq y1 d1 y2 d2 y3 d3, e = .returned (.agg #[.int .i64 h.id, .bool h.an, .int .i64 h.op, .bool h.aa, .bool h.tc, .bool h.rd, .bool h.ra, .bool h.z, .bool h.ad, .bool h.cd, .int .i64 h.code, .slice yq qs.length dq, .slice y1 r1.length d1, .slice y2 r2.length d2, .slice y3 rs.length d3]) ∧ Qs w' 0 yq dq qs ∧ Rs w' 0 y1 d1 r1 ∧ Rs w' 0 y2 d2 r2 ∧ Rs w' 0 y3 d3 rs ∧ Below w.heap.size w w' := by
  subst hrs
  refine (drop_any h qs r1 r2 r3 w hq hr1 hr2 hr3 l1 l2 l3).mono ?_
  rintro e w' ⟨yq, dq, y1, d1, y2, d2, y3, d3, he, k, hb⟩
  have hl := sil_len r3
  have h3 := hr3.2.1
  obtain ⟨q0, q1, q2, q3⟩ := k.rows hq.2.1 hr1.2.1 hr2.2.1 (by omega)
  exact ⟨yq, dq, y1, d1, y2, d2, y3, d3, he, q0, q1, q2, q3, hb⟩

set_option maxHeartbeats 4000000 in
set_option maxRecDepth 100000 in
theorem known_any (w : World) : Calls Tryd.prog 12 #[] w fun e w' => e = .returned (.bool true) ∧ Below w.heap.size w w' := by
  obtain ⟨rs, hrs⟩ : ∃ rs, silR [] ++ [otR ⟨1232, 0, 0, false, 0, []⟩] = rs := ⟨_, rfl⟩
  have ht : telR rs = [otR ⟨1232, 0, 0, false, 0, []⟩] := by rw [← hrs]; exact tel_put [] _
  have hl : rs.length * 72 ≤ 140737488355328 := by rw [← hrs]; simp [silR]
  go_enter Tryd.func12, Tryd.ntmps12
  go_wp2_with fail
  refine (set_put ⟨0, false, 0, false, false, false, false, false, false, false, 0⟩ [] [] [] [] rs ⟨1232, 0, 0, false, 0, []⟩ w (Qs.nil _ 0 _ _) (Rs.nil _ 0 _ _) (Rs.nil _ 0 _ _) (Rs.nil _ 0 _ _) (by simp) (by simp) (by simp) (Ops.nil _ 0 _ _) (by decide) hrs).mono ?_
  rintro e w1 ⟨yq, dq, y1, d1, y2, d2, y3, d3, rfl, _, _, _, k3, B1⟩
  have K4 := MsgB.new (w := w1) ⟨0, false, 0, false, false, false, false, false, false, false, 0⟩ (Qs.nil w1 0 yq dq) (Rs.nil w1 0 y1 d1) (Rs.nil w1 0 y2 d2) k3
  have B4 := B1.alloc B1.size (.cells #[.int .i64 0, .bool false, .int .i64 0, .bool false, .bool false, .bool false, .bool false, .bool false, .bool false, .bool false, .int .i64 0, .slice yq 0 dq, .slice y1 0 d1, .slice y2 0 d2, .slice y3 rs.length d3] 28)
  clear k3 B1
  go_upto_region 2 with fail
  simp only [List.length_nil] at K4
  generalize w1.alloc (.cells #[.int .i64 0, .bool false, .int .i64 0, .bool false, .bool false, .bool false, .bool false, .bool false, .bool false, .bool false, .int .i64 0, .slice yq 0 dq, .slice y1 0 d1, .slice y2 0 d2, .slice y3 rs.length d3] 28) = w2 at *
  generalize w1.heap.size = bx at *
  obtain ⟨xq, cq, x1, c1, x2, c2, x3, c3, kb, _, _, _, h3⟩ := K4
  obtain ⟨g0, g1, g2, g3, g4, g5, g6, g7, g8, g9, g10, g11, g12, g13, g14⟩ := kb.fifteen
  have HB4 := hid B4
  clear kb B4
  go_wp2_with fail
  refine (find_put ⟨0, false, 0, false, false, false, false, false, false, false, 0⟩ rs ⟨1232, 0, 0, false, 0, []⟩ w2 h3 rfl ht (by decide) hl).mono ?_
  rintro e w3 ⟨x, c, rfl, _, b3⟩
  have HB5 := hid ((grown_on HB4.out b3).alloc (grown_on HB4.out b3).size (.cells #[.int .i64 1232, .int .i64 0, .int .i64 0, .bool false, .int .i64 0, .slice x 0 c] 46))
  have k5 := Bl.new 46 w3 #[.int .i64 1232, .int .i64 0, .int .i64 0, .bool false, .int .i64 0, .slice x 0 c]
  clear b3 HB4 h3 g0 g1 g2 g3 g4 g5 g6 g7 g8 g9 g10 g11 g12 g13 g14
  go_upto_region 3 with fail
  generalize w3.alloc (.cells #[.int .i64 1232, .int .i64 0, .int .i64 0, .bool false, .int .i64 0, .slice x 0 c] 46) = w4 at *
  have g0 := k5.cell (i := 0) rfl
  clear k5
  go_wp2_with fail
  go_ret
  exact ⟨rfl, HB5.out⟩

end Go.Proofs.YtbbgabdiikdjpaaDoor

namespace Go.Proofs.YtbbgabdiikdjpaaDoor
open Go

inductive Tr where
  | nil : Tr
  | one (k : Nat) (t : Tr) : Tr
  | two (k1 : Nat) (t1 : Tr) (k2 : Nat) (t2 : Tr) : Tr

def Tr.depth : Tr → Nat
  | .nil => 0
  | .one _ t => t.depth + 1
  | .two _ t _ _ => t.depth + 1

section
variable {P : Program} {ops : Array Oper} {Q : Exit → Act → World → Prop} {md : Region.Mode} {S : World → Prop}

def treeB (md : Region.Mode) (ops : Array Oper) : Tr → Array Bool → Bool
  | .nil, listed => (Region.ready md ops listed).isEmpty
  | .one k t, listed => (Region.ready md ops listed == [k]) && treeB md ops t (listed.setIfInBounds k true)
  | .two k1 t1 k2 t2, listed => (Region.ready md ops listed == [k1, k2]) && (t1.depth == t2.depth) && treeB md ops t1 (listed.setIfInBounds k1 true) && treeB md ops t2 (listed.setIfInBounds k2 true)

def stepL (P : Program) (l : List Oper) (Q : Exit → Act → World → Prop) (S : World → Prop) (brk k : Nat) (K : Act → World → Prop) (a : Act) (w : World) : Prop :=
  match l[k]? with | some o => Region.wanted o (yielded l.toArray a.tmps) = true ∧ o.wp P a w (fun a' w' => (k < brk → S w') ∧ K a' w') Q | none => False

/-- What is asked of the rest, an order after the other. -/
def treeL (P : Program) (l : List Oper) (Q : Exit → Act → World → Prop) (S : World → Prop) (brk : Nat) : Tr → Act → World → Prop
  | .nil, a, w => Q .normal a w
  | .one k t, a, w => stepL P l Q S brk k (treeL P l Q S brk t) a w
  | .two k1 t1 k2 t2, a, w => stepL P l Q S brk k1 (treeL P l Q S brk t1) a w ∧ stepL P l Q S brk k2 (treeL P l Q S brk t2) a w

theorem wpOp_stepL {l : List Oper} {brk k m : Nat} {listed : Array Bool} {K : Act → World → Prop} {a : Act} {w : World} (h : stepL P l Q S brk k K a w)
    (hK : ∀ a' w', K a' w' → anyB P md l.toArray Q S brk m (listed.setIfInBounds k true) a' w') :
    wpOp P l.toArray Q k (fun a' w' => (k < brk → S w') ∧ anyB P md l.toArray Q S brk m (listed.setIfInBounds k true) a' w') a w := by
  unfold stepL at h
  unfold wpOp
  rw [List.getElem?_toArray]
  cases h0 : l[k]? with
  | none => rw [h0] at h; exact h.elim
  | some o =>
    rw [h0] at h
    obtain ⟨hwant, h⟩ := h
    simp only [hwant, if_true]
    exact .inl (Oper.wp_mono (fun a' w' hq => ⟨hq.1, hK a' w' hq.2⟩) h)

theorem anyB_tree {l : List Oper} {brk : Nat} : ∀ (t : Tr) (listed : Array Bool) (a : Act) (w : World), treeB md l.toArray t listed = true → treeL P l Q S brk t a w → anyB P md l.toArray Q S brk t.depth listed a w
  | .nil, listed, a, w, hB, h => ⟨by simpa [treeB] using hB, h⟩
  | .one k t, listed, a, w, hB, h => by
    simp only [treeB, Bool.and_eq_true] at hB
    obtain ⟨hr, hB'⟩ := hB
    have hr' : Region.ready md l.toArray listed = [k] := by simpa using hr
    refine ⟨fun q => (by rw [hr'] at q; cases q), fun i hi => ?_⟩
    rw [hr'] at hi
    obtain rfl : i = k := by simpa using hi
    exact wpOp_stepL h (fun a' w' h' => anyB_tree t _ a' w' hB' h')
  | .two k1 t1 k2 t2, listed, a, w, hB, h => by
    simp only [treeB, Bool.and_eq_true] at hB
    obtain ⟨⟨⟨hr, hd⟩, hB1⟩, hB2⟩ := hB
    have hr' : Region.ready md l.toArray listed = [k1, k2] := by simpa using hr
    have hd' : t1.depth = t2.depth := by simpa using hd
    refine ⟨fun q => (by rw [hr'] at q; cases q), fun i hi => ?_⟩
    rw [hr'] at hi
    have hi' : i = k1 ∨ i = k2 := by simpa using hi
    rcases hi' with rfl | rfl
    · exact wpOp_stepL h.1 (fun a' w' h' => anyB_tree t1 _ a' w' hB1 h')
    · exact wpOp_stepL h.2 (fun a' w' h' => by have := anyB_tree t2 _ a' w' hB2 h'; rw [← hd'] at this; exact this)

def pickT (md : Region.Mode) (ops : Array Oper) (brk : Nat) (t : Tr) : List Nat → Array Bool → Bool
  | [], listed => treeB md ops t listed
  | k :: pre, listed => decide (k < brk) && (Region.ready md ops listed).contains k && Region.free md ops listed k && (match ops[k]? with | some o => simpleOp o.op | none => false) && pickT md ops brk t pre (listed.setIfInBounds k true)

theorem anyB_pickT {l : List Oper} {brk : Nat} {K : Act → Prop} (hs : Region.noSelect l.toArray = true) (hQ : ∀ c a a' w, Q (.panic c) a w → Q (.panic c) a' w) (t : Tr)
    (hbrk : ∀ i, i < brk → ∀ (j : Nat) (oj : Oper), l.toArray[j]? = some oj → ¬ j < brk → ∃ e ∈ oj.after, Region.binds md e = true ∧ e.on = i) :
    ∀ (idx : List Nat) (pre : List Oper) (listed : Array Bool) (a : Act) (w : World), idx.map (fun k => l.toArray[k]?) = pre.map some → listed.size = l.toArray.size →
      pickT md l.toArray brk t idx listed = true → S w → wpQuiet P l.toArray S K pre a → (∀ a', K a' → treeL P l Q S brk t a' w) →
      anyB P md l.toArray Q S brk (pre.length + t.depth) listed a w
  | [], [], listed, a, w, _, _, hB, _, h, hK => by
    rw [List.length_nil, Nat.zero_add]
    exact anyB_tree t listed a w hB (hK a h)
  | [], _ :: _, _, _, _, he, _, _, _, _, _ => by simp at he
  | _ :: _, [], _, _, _, he, _, _, _, _, _ => by simp at he
  | k :: idx, o :: pre, listed, a, w, he, hls, hB, hS, h, hK => by
    simp only [List.map_cons, List.cons.injEq] at he
    obtain ⟨h0, he2⟩ := he
    simp only [pickT, Bool.and_eq_true, h0, decide_eq_true_eq] at hB
    obtain ⟨⟨⟨⟨hkb, hr⟩, hf⟩, hso⟩, hB'⟩ := hB
    have hy : ∃ v, YieldsIf P l.toArray S o v a ∧ wpQuiet P l.toArray S K pre (a.put o.dst v) := by
      unfold wpQuiet at h
      by_cases hw : Region.wanted o (yielded l.toArray a.tmps) = true
      · rw [if_pos hw] at h
        obtain ⟨v, hv, hn⟩ := h
        exact ⟨v, yieldsIf_of_quiet hso hw hv, hn⟩
      · rw [if_neg hw] at h
        exact ⟨undef, .inr ⟨by simpa using hw, rfl⟩, h⟩
    obtain ⟨v, hy, hn⟩ := hy
    rw [List.length_cons, show pre.length + 1 + t.depth = (pre.length + t.depth) + 1 from by omega]
    refine anyB_first h0 (Region.noSelect_spec hs) (fun c a' w' q => hQ c _ _ w' q) hkb (hbrk k hkb) _ listed a w hls (Region.free_spec h0 hf) (by simpa using hr) hy hS ?_
    exact anyB_pickT hs hQ t hbrk idx pre _ _ w he2 (by simp [hls]) hB' hS hn hK

/-- The last operation alone waits for all others. -/
def forksB (l : List Oper) (idx : List Nat) (t : Tr) : Bool :=
  Region.noSelect l.toArray && pickT .any l.toArray (l.length - 1) t idx (Array.replicate l.length false) && decide (idx.length + t.depth = l.length) &&
    (match l.getLast? with | some o => (List.range (l.length - 1)).all fun j => o.after.any fun e => Region.binds .any e && e.on == j | none => false)

theorem fork_any {l : List Oper} (idx : List Nat) (t : Tr) {pre : List Oper} {a : Act} {w : World} (S : World → Prop) (hpre : idx.map (fun k => l.toArray[k]?) = pre.map some)
    (hB : forksB l idx t = true) (hS : S w)
    (h : wpQuiet P l.toArray S (fun a' => treeL P l (Calm Q) S (l.length - 1) t a' w) pre a) : wpAny P .any l.toArray (Calm Q) l.length (Array.replicate l.length false) a w := by
  unfold forksB at hB
  simp only [Bool.and_eq_true, decide_eq_true_eq] at hB
  obtain ⟨⟨⟨hs, hT⟩, hlen⟩, hL⟩ := hB
  have e1 : pre.length = idx.length := by have := congrArg List.length hpre; simpa using this.symm
  have key := anyB_pickT (P := P) (l := l) (Q := Calm Q) (md := .any) (S := S) (brk := l.length - 1) (K := fun a' => treeL P l (Calm Q) S (l.length - 1) t a' w) hs (fun c a a' w q => q.elim) t
    (fun i hi j oj hj hjb => by
      have hjl : j < l.length := by
        simp only [List.getElem?_toArray] at hj
        exact (List.getElem?_eq_some_iff.1 hj).1
      obtain rfl : j = l.length - 1 := by omega
      have hlast : l.getLast? = some oj := by rw [List.getLast?_eq_getElem?]; simpa using hj
      rw [hlast] at hL
      simp only [List.all_eq_true, List.mem_range] at hL
      have := hL i hi
      rw [Array.any_eq_true'] at this
      obtain ⟨e, he, h5⟩ := this
      simp only [Bool.and_eq_true, beq_iff_eq] at h5
      exact ⟨e, he, h5.1, h5.2⟩)
    idx pre (Array.replicate l.length false) a w hpre (by simp) hT hS h (fun a' ha => ha)
  have := wpAny_of_anyB _ _ _ _ key
  rwa [e1, hlen] at this

/-- THE LAW. -/
theorem wp_region_fork {l : List Oper} (idx : List Nat) (t : Tr) {id : Nat} {a : Act} {w : World} (S : World → Prop) (hm : P.follows .mixedOrders = true) (hi : idx.all (fun k => decide (k < l.length)) = true)
    (hB : forksB l idx t = true) (hS : S w.drew)
    (h : wpQuiet P l.toArray S (fun a' => treeL P l (Calm Q) S (l.length - 1) t a' w.drew) (idx.filterMap (fun k => l[k]?)) a) : (Code.region id l.toArray true).wp P Q a w := by
  refine wp_mono ?_ calm_imp
  refine wp_region_any hm ?_
  have := fork_any (Q := Q) idx t S (pre_some hi) hB hS h
  simpa using this

/-- The same where S holds behind every operation, the last one too: nothing need wait for all others. -/
def forksA (l : List Oper) (idx : List Nat) (t : Tr) : Bool :=
  Region.noSelect l.toArray && pickT .any l.toArray l.length t idx (Array.replicate l.length false) && decide (idx.length + t.depth = l.length)

theorem fork_anyA {l : List Oper} (idx : List Nat) (t : Tr) {pre : List Oper} {a : Act} {w : World} (S : World → Prop) (hpre : idx.map (fun k => l.toArray[k]?) = pre.map some)
    (hB : forksA l idx t = true) (hS : S w)
    (h : wpQuiet P l.toArray S (fun a' => treeL P l (Calm Q) S l.length t a' w) pre a) : wpAny P .any l.toArray (Calm Q) l.length (Array.replicate l.length false) a w := by
  unfold forksA at hB
  simp only [Bool.and_eq_true, decide_eq_true_eq] at hB
  obtain ⟨⟨hs, hT⟩, hlen⟩ := hB
  have e1 : pre.length = idx.length := by have := congrArg List.length hpre; simpa using this.symm
  have key := anyB_pickT (P := P) (l := l) (Q := Calm Q) (md := .any) (S := S) (brk := l.length) (K := fun a' => treeL P l (Calm Q) S l.length t a' w) hs (fun c a a' w q => q.elim) t
    (fun i hi j oj hj hjb => by
      exfalso
      simp only [List.getElem?_toArray] at hj
      exact hjb (List.getElem?_eq_some_iff.1 hj).1)
    idx pre (Array.replicate l.length false) a w hpre (by simp) hT hS h (fun a' ha => ha)
  have := wpAny_of_anyB _ _ _ _ key
  rwa [e1, hlen] at this

theorem wp_region_forkA {l : List Oper} (idx : List Nat) (t : Tr) {id : Nat} {a : Act} {w : World} (S : World → Prop) (hm : P.follows .mixedOrders = true) (hi : idx.all (fun k => decide (k < l.length)) = true)
    (hB : forksA l idx t = true) (hS : S w.drew)
    (h : wpQuiet P l.toArray S (fun a' => treeL P l (Calm Q) S l.length t a' w.drew) (idx.filterMap (fun k => l[k]?)) a) : (Code.region id l.toArray true).wp P Q a w := by
  refine wp_mono ?_ calm_imp
  refine wp_region_any hm ?_
  have := fork_anyA (Q := Q) idx t S (pre_some hi) hB hS h
  simpa using this

theorem stepL_at {l : List Oper} {brk k : Nat} {K : Act → World → Prop} {o : Oper} {a : Act} {w : World} (h0 : l[k]? = some o)
    (h : ∀ (K' : Act → World → Prop) (Q' : Exit → Act → World → Prop), (∀ a' w', (k < brk → S w') → K a' w' → K' a' w') → o.wp P a w K' Q') (hw : Region.wanted o (yielded l.toArray a.tmps) = true := by rfl) : stepL P l Q S brk k K a w := by
  unfold stepL
  rw [h0]
  exact ⟨hw, h _ _ fun _ _ h1 h2 => ⟨h1, h2⟩⟩

theorem treeL_nil {l : List Oper} {brk : Nat} {a : Act} {w : World} (h : Q .normal a w) : treeL P l (Calm Q) S brk .nil a w := h

/-- A load whose value is known in every world of the class, in the lexical walk. -/
theorem wpQuiet_load {ops : Array Oper} {C : World → Prop} {Q : Act → Prop} {a : Act} {o : Oper} {rest : List Oper} (ty : TypeId) (x : Operand) (ho : o.op = .load ty x) (p v : Value) (hx : a.eval x = p)
    (hl : ∀ w, C w → (Instr.loadAt ty p).run P w = .ok v w) (h : wpQuiet P ops C Q rest (a.put o.dst v)) (hw : Region.wanted o (yielded ops a.tmps) = true := by rfl) : wpQuiet P ops C Q (o :: rest) a :=
  wpQuiet_step fun K hK => by
    rw [if_pos hw]
    refine ⟨v, fun w hC => ?_, hK _ h⟩
    unfold Oper.quietAt execOp
    simp only [ho, hx, Sem.run_bind, Sem.run_pure, Result.andThen_ok, hl w hC]
    exact ⟨rfl, rfl⟩

end

end Go.Proofs.YtbbgabdiikdjpaaDoor

namespace Go.Proofs.YtbbgabdiikdjpaaDoor
open Go.RowKit Go.Deep

theorem Bl.range {t : TypeId} {w : World} {b : Nat} (L : List Value) (h : Bl t w b L.toArray) : w.rangeAt b 0 L := fun j v hj => by rw [Nat.zero_add]; exact h.cell (by simpa using hj)

theorem size_message : (Tryd.prog.info? 28).map (·.size) = some 15 := by kernel_rfl

theorem size_opt : (Tryd.prog.info? 46).map (·.size) = some 6 := by kernel_rfl

/-- Worlds in which all old blocks stay. -/
structure Olds (w : World) where
  val : World
  keeps : Below w.heap.size w val

theorem load_message {w : World} {b : Nat} {L : List Value} (h : Bl 28 w b L.toArray) (hl : L.length = 15) (s : Olds w) : (Instr.loadAt 28 (.pointer (some ⟨b, 0, none⟩))).run Tryd.prog s.val = .ok (.agg L.toArray) s.val :=
  run_loadAt_mid s.val b 0 28 L _ (Bl.range L (h.below s.keeps)) Tryd.underlying28 rfl (by rw [hl]; exact size_message)

theorem load_opt {w : World} {b : Nat} {L : List Value} (h : Bl 46 w b L.toArray) (hl : L.length = 6) (s : Olds w) : (Instr.loadAt 46 (.pointer (some ⟨b, 0, none⟩))).run Tryd.prog s.val = .ok (.agg L.toArray) s.val :=
  run_loadAt_mid s.val b 0 46 L _ (Bl.range L (h.below s.keeps)) Tryd.underlying46 rfl (by rw [hl]; exact size_opt)

end Go.Proofs.YtbbgabdiikdjpaaDoor
