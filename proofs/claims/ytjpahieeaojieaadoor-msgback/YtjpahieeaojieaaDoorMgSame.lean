/-
  The walks of Records and Message of package pointsmansame at lists, and messages, that are the same: true; they write nothing that was there.
-/
import Derived.Test.YtjpahieeaojieaaDoorRrSame
import Derived.Test.YtjpahieeaojieaaDoorMgWrite
import Derived.Deep.RegionHeld3
import Derived.BigQuiet
namespace Go.Proofs.YtjpahieeaojieaaDoor
open Go.RowKit Go.Deep

set_option maxHeartbeats 2000000 in
set_option maxRecDepth 100000 in
theorem srecords_at {xa xb : Option Addr} {ca cb la lb Ba Bb : Nat} (rs : List Rn) (w : World) (ha : Rs w Ba xa ca rs) (hb : Rs w Bb xb cb rs) (hla : rs.length = la) (hlb : rs.length = lb) :
    Calls Tryd.prog 36 #[.slice xa la ca, .slice xb lb cb] w fun e w' => e = .returned (.bool true) ∧ Below w.heap.size w w' := by
  subst hla hlb
  have hlen := ha.2.1
  go_enter Tryd.func36, Tryd.ntmps36
  go_wp2_with fail
  go_loopw [5] (fun vi wr => ∃ i : Nat, i ≤ rs.length ∧ vi = .int .i64 (i : Int) ∧ Below w.heap.size w wr) (fun i _ => rs.length - (intOf i).toNat)
  case atStart => exact ⟨0, Nat.zero_le _, rfl, Below.refl _ _⟩
  case round =>
    obtain ⟨i, hi, rfl, hbel⟩ := hrel
    by_cases ci : i < rs.length
    · obtain ⟨b1, o1, y, s, z, t, rfl, hb1, e0, e1, e2, e3, e4, g1, g2, _⟩ := (ha.below hbel).at ci
      obtain ⟨b2, o2, y2, s2, z2, t2, rfl, hb2, f0, f1, f2, f3, f4, g3, g4, _⟩ := (hb.below hbel).at ci
      generalize rs[i] = r at *
      have G1 := hid g1
      have G2 := hid g2
      have G3 := hid g3
      have G4 := hid g4
      have HB := hid hbel
      have ci2 : (i : Int) < (rs.length : Int) := by omega
      clear g1 g2 g3 g4 hbel ha hb
      go_wp2_with fail
      have CR : Hid (∀ u, Below wr.heap.size wr u → Calls Tryd.prog 51 #[.agg #[.slice y r.N.length s, .int .i64 r.ty, .int .i64 r.cl, .int .i64 r.ttl, .slice z r.D.length t], .agg #[.slice y2 r.N.length s2, .int .i64 r.ty, .int .i64 r.cl, .int .i64 r.ttl, .slice z2 r.D.length t2]] u fun e u' => e = .returned (.bool true) ∧ Below u.heap.size u u') := hid (fun u hu => srecord_at r.N r.D r.ty r.cl r.ttl u (G1.out.below hu) (G3.out.below hu) (G2.out.below hu) (G4.out.below hu) rfl rfl rfl rfl)
      have PK : Hid (∀ u, Below wr.heap.size wr u → u.cell? ⟨b1, o1 + i * 5, none⟩ = some (.slice y r.N.length s) ∧ u.cell? ⟨b1, o1 + i * 5 + 1, none⟩ = some (.int .i64 r.ty) ∧ u.cell? ⟨b1, o1 + i * 5 + 2, none⟩ = some (.int .i64 r.cl) ∧ u.cell? ⟨b1, o1 + i * 5 + 3, none⟩ = some (.int .i64 r.ttl) ∧ u.cell? ⟨b1, o1 + i * 5 + 4, none⟩ = some (.slice z r.D.length t) ∧ u.cell? ⟨b2, o2 + i * 5, none⟩ = some (.slice y2 r.N.length s2) ∧ u.cell? ⟨b2, o2 + i * 5 + 1, none⟩ = some (.int .i64 r.ty) ∧ u.cell? ⟨b2, o2 + i * 5 + 2, none⟩ = some (.int .i64 r.cl) ∧ u.cell? ⟨b2, o2 + i * 5 + 3, none⟩ = some (.int .i64 r.ttl) ∧ u.cell? ⟨b2, o2 + i * 5 + 4, none⟩ = some (.slice z2 r.D.length t2) ∧ Below wr.heap.size wr u) := hid (fun u hu => ⟨(hu.cell (p := ⟨b1, o1 + i * 5, none⟩) hb1).trans e0, (hu.cell (p := ⟨b1, o1 + i * 5 + 1, none⟩) hb1).trans e1, (hu.cell (p := ⟨b1, o1 + i * 5 + 2, none⟩) hb1).trans e2, (hu.cell (p := ⟨b1, o1 + i * 5 + 3, none⟩) hb1).trans e3, (hu.cell (p := ⟨b1, o1 + i * 5 + 4, none⟩) hb1).trans e4, (hu.cell (p := ⟨b2, o2 + i * 5, none⟩) hb2).trans f0, (hu.cell (p := ⟨b2, o2 + i * 5 + 1, none⟩) hb2).trans f1, (hu.cell (p := ⟨b2, o2 + i * 5 + 2, none⟩) hb2).trans f2, (hu.cell (p := ⟨b2, o2 + i * 5 + 3, none⟩) hb2).trans f3, (hu.cell (p := ⟨b2, o2 + i * 5 + 4, none⟩) hb2).trans f4, hu⟩)
      go_region_held3 (fun u => u.cell? ⟨b1, o1 + i * 5, none⟩ = some (.slice y r.N.length s) ∧ u.cell? ⟨b1, o1 + i * 5 + 1, none⟩ = some (.int .i64 r.ty) ∧ u.cell? ⟨b1, o1 + i * 5 + 2, none⟩ = some (.int .i64 r.cl) ∧ u.cell? ⟨b1, o1 + i * 5 + 3, none⟩ = some (.int .i64 r.ttl) ∧ u.cell? ⟨b1, o1 + i * 5 + 4, none⟩ = some (.slice z r.D.length t) ∧ u.cell? ⟨b2, o2 + i * 5, none⟩ = some (.slice y2 r.N.length s2) ∧ u.cell? ⟨b2, o2 + i * 5 + 1, none⟩ = some (.int .i64 r.ty) ∧ u.cell? ⟨b2, o2 + i * 5 + 2, none⟩ = some (.int .i64 r.cl) ∧ u.cell? ⟨b2, o2 + i * 5 + 3, none⟩ = some (.int .i64 r.ttl) ∧ u.cell? ⟨b2, o2 + i * 5 + 4, none⟩ = some (.slice z2 r.D.length t2) ∧ Below wr.heap.size wr u) (with_reducible (first | assumption | exact PK.out _ (Below.drew (Below.refl _ _)) | exact PK.out _ HB3))
        (first
          | (go_at_call 51; refine (CR.out _ (Below.drew (Below.refl _ _))).mono ?_; rintro e w3 ⟨rfl, b3⟩; have HB3 : Below wr.heap.size wr w3 := grown_on (Below.drew (Below.refl _ _)) b3))
      have B5 := hid (grown_on HB.out HB3)
      clear b3 HB3 CR PK e0 e1 e2 e3 e4 f0 f1 f2 f3 f4 HB
      go_wp2_with fail
      exact ⟨⟨i + 1, by omega, by go_num, B5.out⟩, by simp [intOf]; omega⟩
    · have ci2 : ¬ (i : Int) < (rs.length : Int) := by omega
      go_wp2_with fail
      go_ret
      exact ⟨rfl, hbel⟩

set_option maxHeartbeats 4000000 in
set_option maxRecDepth 100000 in
theorem smsg_at {xq x1 x2 x3 yq y1 y2 y3 : Option Addr} {cq c1 c2 c3 dq d1 d2 d3 Ba Bb : Nat} (h : Hd) (qs : List Qn) (r1 r2 r3 : List Rn) (w : World) (hq : Qs w Ba xq cq qs) (hr1 : Rs w Ba x1 c1 r1) (hr2 : Rs w Ba x2 c2 r2) (hr3 : Rs w Ba x3 c3 r3) (hp : Qs w Bb yq dq qs) (hs1 : Rs w Bb y1 d1 r1) (hs2 : Rs w Bb y2 d2 r2) (hs3 : Rs w Bb y3 d3 r3) :
    Calls Tryd.prog 16 #[.agg #[.int .i64 h.id, .bool h.an, .int .i64 h.op, .bool h.aa, .bool h.tc, .bool h.rd, .bool h.ra, .bool h.z, .bool h.ad, .bool h.cd, .int .i64 h.code, .slice xq qs.length cq, .slice x1 r1.length c1, .slice x2 r2.length c2, .slice x3 r3.length c3], .agg #[.int .i64 h.id, .bool h.an, .int .i64 h.op, .bool h.aa, .bool h.tc, .bool h.rd, .bool h.ra, .bool h.z, .bool h.ad, .bool h.cd, .int .i64 h.code, .slice yq qs.length dq, .slice y1 r1.length d1, .slice y2 r2.length d2, .slice y3 r3.length d3]] w fun e w' => e = .returned (.bool true) ∧ Below w.heap.size w w' := by
  have hlen := hq.2.1
  go_enter Tryd.func16, Tryd.ntmps16
  go_wp2_with fail
  have B0 : Below w.heap.size w ((w.alloc (.cells #[.int .i64 h.id, .bool h.an, .int .i64 h.op, .bool h.aa, .bool h.tc, .bool h.rd, .bool h.ra, .bool h.z, .bool h.ad, .bool h.cd, .int .i64 h.code, .slice xq qs.length cq, .slice x1 r1.length c1, .slice x2 r2.length c2, .slice x3 r3.length c3] 41)).alloc (.cells #[.int .i64 h.id, .bool h.an, .int .i64 h.op, .bool h.aa, .bool h.tc, .bool h.rd, .bool h.ra, .bool h.z, .bool h.ad, .bool h.cd, .int .i64 h.code, .slice yq qs.length dq, .slice y1 r1.length d1, .slice y2 r2.length d2, .slice y3 r3.length d3] 41)) := ((Below.refl _ w).alloc (Nat.le_refl _) _).alloc (by simp) _
  have KA := (Bl.new 41 w #[.int .i64 h.id, .bool h.an, .int .i64 h.op, .bool h.aa, .bool h.tc, .bool h.rd, .bool h.ra, .bool h.z, .bool h.ad, .bool h.cd, .int .i64 h.code, .slice xq qs.length cq, .slice x1 r1.length c1, .slice x2 r2.length c2, .slice x3 r3.length c3]).below ((Below.refl _ _).alloc (Nat.le_refl _) (.cells #[.int .i64 h.id, .bool h.an, .int .i64 h.op, .bool h.aa, .bool h.tc, .bool h.rd, .bool h.ra, .bool h.z, .bool h.ad, .bool h.cd, .int .i64 h.code, .slice yq qs.length dq, .slice y1 r1.length d1, .slice y2 r2.length d2, .slice y3 r3.length d3] 41))
  have KB := Bl.new2 41 w (.cells #[.int .i64 h.id, .bool h.an, .int .i64 h.op, .bool h.aa, .bool h.tc, .bool h.rd, .bool h.ra, .bool h.z, .bool h.ad, .bool h.cd, .int .i64 h.code, .slice xq qs.length cq, .slice x1 r1.length c1, .slice x2 r2.length c2, .slice x3 r3.length c3] 41) #[.int .i64 h.id, .bool h.an, .int .i64 h.op, .bool h.aa, .bool h.tc, .bool h.rd, .bool h.ra, .bool h.z, .bool h.ad, .bool h.cd, .int .i64 h.code, .slice yq qs.length dq, .slice y1 r1.length d1, .slice y2 r2.length d2, .slice y3 r3.length d3]
  go_loopw [5] (fun vi wr => ∃ i : Nat, i ≤ qs.length ∧ vi = .int .i64 (i : Int) ∧ Below w.heap.size w wr ∧ Bl 41 wr w.heap.size #[.int .i64 h.id, .bool h.an, .int .i64 h.op, .bool h.aa, .bool h.tc, .bool h.rd, .bool h.ra, .bool h.z, .bool h.ad, .bool h.cd, .int .i64 h.code, .slice xq qs.length cq, .slice x1 r1.length c1, .slice x2 r2.length c2, .slice x3 r3.length c3] ∧ Bl 41 wr (w.heap.size + 1) #[.int .i64 h.id, .bool h.an, .int .i64 h.op, .bool h.aa, .bool h.tc, .bool h.rd, .bool h.ra, .bool h.z, .bool h.ad, .bool h.cd, .int .i64 h.code, .slice yq qs.length dq, .slice y1 r1.length d1, .slice y2 r2.length d2, .slice y3 r3.length d3]) (fun i _ => qs.length - (intOf i).toNat)
  case atStart => exact ⟨0, Nat.zero_le _, rfl, B0, KA, KB⟩
  case round =>
    clear B0 KA KB
    obtain ⟨i, hi, rfl, hbel, ka, kb⟩ := hrel
    have a11 := ka.cell (i := 11) rfl
    have b11 := kb.cell (i := 11) rfl
    have hla := ka.lt
    have hlb := kb.lt
    have KA := hid ka
    have KB := hid kb
    have HB := hid hbel
    by_cases ci : i < qs.length
    · obtain ⟨b1, o1, y, s, rfl, hb1, e0, e1, e2, g1⟩ := (hq.below hbel).at ci
      obtain ⟨b2, o2, z, t, rfl, hb2, f0, f1, f2, g2⟩ := (hp.below hbel).at ci
      generalize qs[i] = q at *
      have G1 := hid g1
      have G2 := hid g2
      have ci2 : (i : Int) < (qs.length : Int) := by omega
      have E1 := hid e1
      have E2 := hid e2
      have F1 := hid f1
      have F2 := hid f2
      clear g1 g2 hbel ka kb hq hp e1 e2 f1 f2
      go_wp2_with fail
      have CR : Hid (∀ u, Below wr.heap.size wr u → Calls Tryd.prog 35 #[.slice y q.N.length s, .slice z q.N.length t] u fun e u' => e = .returned (.bool true) ∧ Below u.heap.size u u') := hid (fun u hu => texts_here true q.N q.N u (G1.out.below hu) (G2.out.below hu) rfl rfl (by simp))
      have PK : Hid (∀ u, Below wr.heap.size wr u → u.cell? ⟨w.heap.size, 11, none⟩ = some (.slice (some ⟨b1, o1, none⟩) qs.length cq) ∧ u.cell? ⟨w.heap.size + 1, 11, none⟩ = some (.slice (some ⟨b2, o2, none⟩) qs.length dq) ∧ u.cell? ⟨b1, o1 + i * 3, none⟩ = some (.slice y q.N.length s) ∧ u.cell? ⟨b2, o2 + i * 3, none⟩ = some (.slice z q.N.length t) ∧ Below wr.heap.size wr u) := hid (fun u hu => ⟨(hu.cell (p := ⟨w.heap.size, 11, none⟩) hla).trans a11, (hu.cell (p := ⟨w.heap.size + 1, 11, none⟩) hlb).trans b11, (hu.cell (p := ⟨b1, o1 + i * 3, none⟩) hb1).trans e0, (hu.cell (p := ⟨b2, o2 + i * 3, none⟩) hb2).trans f0, hu⟩)
      go_region_held3 (fun u => u.cell? ⟨w.heap.size, 11, none⟩ = some (.slice (some ⟨b1, o1, none⟩) qs.length cq) ∧ u.cell? ⟨w.heap.size + 1, 11, none⟩ = some (.slice (some ⟨b2, o2, none⟩) qs.length dq) ∧ u.cell? ⟨b1, o1 + i * 3, none⟩ = some (.slice y q.N.length s) ∧ u.cell? ⟨b2, o2 + i * 3, none⟩ = some (.slice z q.N.length t) ∧ Below wr.heap.size wr u) (with_reducible (first | assumption | exact PK.out _ (Below.drew (Below.refl _ _)) | exact PK.out _ HB3))
        (first
          | (go_at_call 35; refine (CR.out _ (Below.drew (Below.refl _ _))).mono ?_; rintro e w3 ⟨rfl, b3⟩; have HB3 : Below wr.heap.size wr w3 := grown_on (Below.drew (Below.refl _ _)) b3))
      have B5 := hid (grown_on HB.out HB3)
      have KA5 := hid (KA.out.below HB3)
      have KB5 := hid (KB.out.below HB3)
      obtain ⟨m1, m2, _, _, _⟩ := PK.out w3 HB3
      have n1 := (HB3.cell (p := ⟨b1, o1 + i * 3 + 1, none⟩) hb1).trans E1.out
      have n2 := (HB3.cell (p := ⟨b1, o1 + i * 3 + 2, none⟩) hb1).trans E2.out
      have n3 := (HB3.cell (p := ⟨b2, o2 + i * 3 + 1, none⟩) hb2).trans F1.out
      have n4 := (HB3.cell (p := ⟨b2, o2 + i * 3 + 2, none⟩) hb2).trans F2.out
      clear b3 HB3 CR PK e0 f0 a11 b11 HB KA KB E1 E2 F1 F2
      go_wp2_with fail
      go_quiet (fail)
      have BD : Below w3.heap.size w3 (w3.drewN nq) := ((Drawn.refl _).more nq).below _
      have B6 := hid (grown_on B5.out BD)
      have KA6 := hid (KA5.out.below BD)
      have KB6 := hid (KB5.out.below BD)
      clear m1 m2 n1 n2 n3 n4 BD
      go_wp2_with fail
      exact ⟨⟨i + 1, by omega, by go_num, B6.out, KA6.out, KB6.out⟩, by simp [intOf]; omega⟩
    · have ci2 : ¬ (i : Int) < (qs.length : Int) := by omega
      have a12 := ka.cell (i := 12) rfl
      have b12 := kb.cell (i := 12) rfl
      clear hbel ka kb
      go_wp2_with fail
      refine (srecords_at r1 _ (hr1.below HB.out) (hs1.below HB.out) rfl rfl).mono ?_
      rintro e w4 ⟨rfl, b4⟩
      have a13 : w4.cell? ⟨w.heap.size, 13, none⟩ = _ := (KA.out.below b4).cell (i := 13) rfl
      have b13 : w4.cell? ⟨w.heap.size + 1, 13, none⟩ = _ := (KB.out.below b4).cell (i := 13) rfl
      have HB4 := hid (grown_on HB.out b4)
      have KA4 := hid (KA.out.below b4)
      have KB4 := hid (KB.out.below b4)
      clear b4 a11 b11 a12 b12 HB KA KB
      go_wp2_with fail
      refine (srecords_at r2 _ (hr2.below HB4.out) (hs2.below HB4.out) rfl rfl).mono ?_
      rintro e w5 ⟨rfl, b5⟩
      have a14 : w5.cell? ⟨w.heap.size, 14, none⟩ = _ := (KA4.out.below b5).cell (i := 14) rfl
      have b14 : w5.cell? ⟨w.heap.size + 1, 14, none⟩ = _ := (KB4.out.below b5).cell (i := 14) rfl
      have HB5 := hid (grown_on HB4.out b5)
      clear b5 a13 b13 HB4 KA4 KB4
      go_wp2_with fail
      refine (srecords_at r3 _ (hr3.below HB5.out) (hs3.below HB5.out) rfl rfl).mono ?_
      rintro e w6 ⟨rfl, b6⟩
      have HB6 := hid (grown_on HB5.out b6)
      clear b6 a14 b14 HB5
      go_wp2_with fail
      go_ret
      exact ⟨rfl, HB6.out⟩

end Go.Proofs.YtjpahieeaojieaaDoor
