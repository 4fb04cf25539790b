/-
  The walk of the law TopTTL over its callees' contracts: for any message and any TTL it hands back true, and writes nothing that was there.
-/
import Derived.Test.YtjpahieeaojieabTtl
import Derived.Test.YtjpahieeaojieabRefNat
import Derived.Test.YtjpahieeaojieabRrSame
import Derived.Test.YtjpahieeaojieabMsgInts
import Derived.Deep.Cut
import Derived.Deep.RegionHeld3
namespace Go.Proofs.Ytjpahieeaojieab
open Go.RowKit Go.Deep

set_option maxHeartbeats 4000000 in
set_option maxRecDepth 100000 in
theorem ttl_walk {xq x1 x2 x3 : Option Addr} {cq c1 c2 c3 : Nat} (h : Hd) (qs : List Qn) (r1 r2 r3 : List Rn) (t : Int) (w : World) (hq : Qs w 0 xq cq qs) (hr1 : Rs w 0 x1 c1 r1) (hr2 : Rs w 0 x2 c2 r2) (hr3 : Rs w 0 x3 c3 r3) :
    Calls Try.prog 4 #[.agg #[.int .i64 h.id, .bool h.an, .int .i64 h.op, .bool h.aa, .bool h.tc, .bool h.rd, .bool h.ra, .bool h.z, .bool h.ad, .bool h.cd, .int .i64 h.code, .slice xq qs.length cq, .slice x1 r1.length c1, .slice x2 r2.length c2, .slice x3 r3.length c3], .int .i64 t] w fun e w' => e = .returned (.bool true) ∧ Below w.heap.size w w' := by
  have Q := hid hq
  have R1 := hid hr1
  have R2 := hid hr2
  have R3 := hid hr3
  have hD : ∀ r ∈ r1 ++ r2 ++ r3, ∀ b ∈ r.D, 0 ≤ b ∧ b ≤ 255 := by
    intro r hr
    simp only [List.mem_append] at hr
    rcases hr with (hr | hr) | hr
    · exact hr1.data r hr
    · exact hr2.data r hr
    · exact hr3.data r hr
  have HD := hid hD
  have B0 := (Below.refl _ w).alloc (Nat.le_refl _) (.cells #[.int .i64 h.id, .bool h.an, .int .i64 h.op, .bool h.aa, .bool h.tc, .bool h.rd, .bool h.ra, .bool h.z, .bool h.ad, .bool h.cd, .int .i64 h.code, .slice xq qs.length cq, .slice x1 r1.length c1, .slice x2 r2.length c2, .slice x3 r3.length c3] 27)
  have K0 := Bl.new 27 w #[.int .i64 h.id, .bool h.an, .int .i64 h.op, .bool h.aa, .bool h.tc, .bool h.rd, .bool h.ra, .bool h.z, .bool h.ad, .bool h.cd, .int .i64 h.code, .slice xq qs.length cq, .slice x1 r1.length c1, .slice x2 r2.length c2, .slice x3 r3.length c3]
  clear hq hr1 hr2 hr3 hD
  go_enter Try.func4, Try.ntmps4
  go_wp2_with fail
  refine (tsent_any _).mono ?_
  rintro e w1 ⟨rfl, b1⟩
  have B1 := hid (grown_on B0 b1)
  have K1 := K0.below b1
  clear b1 B0 K0
  have e0 := K1.cell (i := 0) rfl
  have e1 := K1.cell (i := 1) rfl
  have e2 := K1.cell (i := 2) rfl
  have e3 := K1.cell (i := 3) rfl
  have e4 := K1.cell (i := 4) rfl
  have e5 := K1.cell (i := 5) rfl
  have e6 := K1.cell (i := 6) rfl
  have e7 := K1.cell (i := 7) rfl
  have e8 := K1.cell (i := 8) rfl
  have e9 := K1.cell (i := 9) rfl
  have e10 := K1.cell (i := 10) rfl
  have e11 := K1.cell (i := 11) rfl
  have e12 := K1.cell (i := 12) rfl
  have e13 := K1.cell (i := 13) rfl
  have e14 := K1.cell (i := 14) rfl
  have HK := hid K1
  clear K1
  go_wp2_with fail
  by_cases hE : msgE h qs r1 r2 r3 = 0
  case neg =>
    refine (gw_no h qs r1 r2 r3 _ (Q.out.below B1.out) (R1.out.below B1.out) (R2.out.below B1.out) (R3.out.below B1.out) hE).mono ?_
    rintro e w2 ⟨k, rfl, b2⟩
    have B2 := hid (grown_on B1.out b2)
    clear b2 e0 e1 e2 e3 e4 e5 e6 e7 e8 e9 e10 e11 e12 e13 e14 hE
    go_wp2_with fail
    go_ret
    exact ⟨rfl, B2.out⟩
  obtain ⟨F, hF⟩ : ∃ F, (endS h qs r1 r2 r3).1 = F := ⟨_, rfl⟩
  refine (gw_own h qs r1 r2 r3 F _ (Q.out.below B1.out) (R1.out.below B1.out) (R2.out.below B1.out) (R3.out.below B1.out) hE hF).mono ?_
  rintro e w2 ⟨g, cb, C, rfl, hby, hC, hg, b2⟩
  have HE := hid hE
  have HF := hid hF
  have MZ := hid (msgE_zero hE)
  have hFl : F.length ≤ 65535 := by rw [← hF]; exact MZ.out.2.2.2.2
  have hcb : F.length ≤ cb := hby.1
  have hw1 : w.heap.size < w1.heap.size := HK.out.lt
  have hgw : w.heap.size < g := by omega
  have Y2 := hid hby
  have C2 := hid hC
  have B2 := hid (grown_on B1.out b2)
  have K2 := hid (HK.out.below b2)
  have hg2 : g < w2.heap.size := hC.lt
  clear hE hF hby hC b2 B1 HK e0 e1 e2 e3 e4 e5 e6 e7 e8 e9 e10 e11 e12 e13 e14 hg hw1
  by_cases t0 : t < 0
  · go_wp2_with fail
    go_ret
    exact ⟨rfl, B2.out⟩
  by_cases t1 : 4294967295 < t
  · go_wp2_with fail
    go_ret
    exact ⟨rfl, B2.out⟩
  have q65 : qs.length ≤ 65535 := MZ.out.2.1.1
  obtain ⟨s0, hs0⟩ : ∃ s, (aheadN h qs.length r1.length r2.length r3.length, ([] : List (Int × List ByteArray))) = s := ⟨_, rfl⟩
  obtain ⟨s1, hs1⟩ : ∃ s, qs.foldl stepQ s0 = s := ⟨_, rfl⟩
  obtain ⟨rs, hrs⟩ : ∃ l, l = r1 ++ r2 ++ r3 := ⟨_, rfl⟩
  have hF2 : (rs.foldl stepR s1).1 = F := by rw [← HF.out, ← hs1, ← hs0, hrs]; rfl
  have g0 : Good s0 := by rw [← hs0]; exact good_start MZ.out.1 _ _ _ _
  have g1 : Good s1 := by rw [← hs1]; exact good_qs g0 MZ.out.2.2.1
  have l0 : s0.1.length = 12 := by rw [← hs0]; exact ahead_len _ _ _ _ _
  have rl : rs.length ≤ 196605 := by have q := MZ.out.2.1; rw [hrs, List.length_append, List.length_append]; omega
  have HR : Hid (∀ r ∈ rs, rE r = 0) := hid (fun r hr => MZ.out.2.2.2.1 r (by rw [← hrs]; exact hr))
  have HDR : Hid (∀ r ∈ rs, ∀ b ∈ r.D, 0 ≤ b ∧ b ≤ 255) := hid (fun r hr => HD.out r (by rw [← hrs]; exact hr))
  have HS0 := hid hs0
  have HS1 := hid hs1
  have HRS := hid hrs
  have HF2 := hid hF2
  have G0 := hid g0
  have G1 := hid g1
  have L0 := hid l0
  clear hs0 hs1 hrs hF2 g0 g1 l0 HD HF
  go_wp2_with fail
  go_loopw [8, 9] (fun va vi wr => ∃ i : Nat, i ≤ qs.length ∧ va = .int .i64 ((sqK s0 qs i).1.length : Int) ∧ vi = .int .i64 (i : Int) ∧ Below w2.heap.size w2 wr) (fun _ i _ => qs.length - (intOf i).toNat)
  case atStart => exact ⟨0, Nat.zero_le _, by simp [sqK, L0.out], rfl, Below.refl _ _⟩
  case round =>
    obtain ⟨i, hi, rfl, rfl, hbel⟩ := hrel
    by_cases ci : i < qs.length
    · have m11 := (K2.out.below hbel).cell (i := 11) rfl
      obtain ⟨more, hm⟩ := fold_r rs s1
      rw [HF2.out, ← HS1.out] at hm
      obtain ⟨L, n, hL, hn⟩ := ask_found G0.out MZ.out.2.2.1 i ci more
      rw [← hm] at hL
      obtain ⟨_, m1, m2, _⟩ := readW_may Y2.out.2.2.1 hL
      have HL := hid hL
      have HN := hid hn
      have HBL := hid hbel
      clear hL hn hm hbel
      generalize (sqK s0 qs i).1.length = a at *
      have ci2 : (i : Int) < (qs.length : Int) := by omega
      go_wp2_with fail
      refine (nameAt_at 0 L n F _ _ (Y2.out.below HBL.out) rfl (by omega) HL.out).mono ?_
      rintro e w3 ⟨y3, q3, rfl, _, b3⟩
      have B3 := hid (grown_on (grown_on HBL.out b3) ((Below.refl _ w3).alloc (Nat.le_refl _) (.cells #[.slice y3 L.length q3, .int .i64 (n : Int), .int .i64 0] 45)))
      clear b3 HBL HL m11
      go_wp2_with fail
      refine ⟨⟨i + 1, by omega, ?_, by go_num, B3.out⟩, by simp [intOf]; omega⟩
      rw [← HN.out]; go_num
    · have ei : i = qs.length := by omega
      subst ei
      have ci2 : ¬ (qs.length : Int) < (qs.length : Int) := by omega
      obtain ⟨w3, hw3⟩ : ∃ u, u = wr := ⟨_, rfl⟩
      subst hw3
      have ea : (sqK s0 qs qs.length).1.length = s1.1.length := by rw [← HS1.out]; unfold sqK; rw [List.take_length]
      have hs1l : s1.1.length ≤ F.length := by
        obtain ⟨more, hm⟩ := fold_r rs s1
        rw [← HF2.out, hm, List.length_append]; omega
      rw [ea]
      clear ea
      have K3 := K2.out.below hbel
      have B3 := hid (wp_on B2.out hbel)
      have Y3 := hid (Y2.out.below hbel)
      have C3 := hid (C2.out.below hbel)
      have hs3 := hbel.size
      have e0 := K3.cell (i := 0) rfl
      have e1 := K3.cell (i := 1) rfl
      have e2 := K3.cell (i := 2) rfl
      have e3 := K3.cell (i := 3) rfl
      have e4 := K3.cell (i := 4) rfl
      have e5 := K3.cell (i := 5) rfl
      have e6 := K3.cell (i := 6) rfl
      have e7 := K3.cell (i := 7) rfl
      have e8 := K3.cell (i := 8) rfl
      have e9 := K3.cell (i := 9) rfl
      have e10 := K3.cell (i := 10) rfl
      have e11 := K3.cell (i := 11) rfl
      have e12 := K3.cell (i := 12) rfl
      have e13 := K3.cell (i := 13) rfl
      have e14 := K3.cell (i := 14) rfl
      have HK3 := hid K3
      clear K3 hbel K2 B2 Y2 C2
      go_wp2_with fail
      refine (all_kept h r1 r2 r3 rs HRS w _ B3.out R1.out R2.out R3.out (by have := MZ.out.2.1; omega) (by have := MZ.out.2.1; omega) (by have := MZ.out.2.1; omega)).mono ?_
      rintro e w4 ⟨xr, cr, rfl, gr⟩
      have OR := hid (gr.row B3.out)
      have b4 := gr.2
      have B4 := hid (wp_on B3.out b4)
      have K4 := hid (HK3.out.below b4)
      have Y4 := hid (Y3.out.below b4)
      have C4 := hid (C3.out.below b4)
      have hs4 := b4.size
      clear gr b4 HK3 Y3 C3 e0 e1 e2 e3 e4 e5 e6 e7 e8 e9 e10 e11 e12 e13 e14
      have hgr : g < w3.heap.size := by omega
      go_wp2_with fail
      go_loopw [8, 12, 13] (fun va vp vi wr2 => ∃ i : Nat, i ≤ rs.length ∧ va = .int .i64 ((stK s1 rs i).1.length : Int) ∧ vi = .int .i64 (i : Int) ∧ Rowi wr2 w4.heap.size vp ((List.range i).map (fun j => (placeK s1 rs j : Int))) ∧ Below w4.heap.size w4 wr2) (fun _ _ i _ => rs.length - (intOf i).toNat)
      case atStart => exact ⟨0, Nat.zero_le _, by simp [stK], rfl, World.ownsRow_nil _ _ _ _, Below.refl _ _⟩
      case round =>
        obtain ⟨j, hj, rfl, rfl, hrow, hbel⟩ := hrel
        by_cases cj : j < rs.length
        · obtain ⟨n, hn, hp, hpl⟩ := skip_found G1.out HR.out HDR.out j cj
          rw [HF2.out] at hn hpl
          obtain ⟨_, m1, m2, _⟩ := readW_may Y4.out.2.2.1 (recW_ok hn).1
          have hfar := (recW_ok hn).2.2
          have HN := hid hn
          have HP := hid hp
          have HBL := hid hbel
          have HRW := hid hrow
          have hB5 := hbel.size
          clear hn hp hbel hrow
          generalize (stK s1 rs j).1.length = a at *
          generalize hnx : (stK s1 rs (j + 1)).1.length = nx at *
          have HNX := hid hnx
          clear hnx
          have cj2 : (j : Int) < (rs.length : Int) := by omega
          obtain ⟨i0, hi0, hz0, hz1, hz2⟩ := info_of_int
          have hrl : ((List.range j).map (fun j => (placeK s1 rs j : Int))).length = j := by rw [List.length_map, List.length_range]
          have HRL := hid hrl
          clear hrl
          go_wp2_with fail
          refine (rskip_at _ n nx F _ _ (Y4.out.below HBL.out) rfl (by omega) HN.out).mono ?_
          rintro e w5 ⟨rfl, b5⟩
          have B5 := hid (grown_on HBL.out b5)
          have hown : World.ownsRow w5 w4.heap.size 3 1 _ ((List.range j).map (fun j => (placeK s1 rs j : Int))).length _ := HRW.out.stay b5
          have hB6 := B5.out.size
          have OW := hid hown
          rw [HRL.out] at hown
          clear b5 HBL HN HRW
          go_wp2_with (at_builtin; refine wpList_append_own _ rfl _ _ 47 rfl w4.heap.size 3 i0 (.int .i64 0) 1 8 Try.underlying47 hi0 hz0 hz1 hz2 rfl (by decide) _ _ _ rfl (hown.alloc _) ⟨_, 0, none⟩ 1 1 [.int .i64 ((n : Int) + 4)] rfl rfl (cells_new _ [.int .i64 ((n : Int) + 4)] 3) (one_ints [(n : Int) + 4]) (by unfold maxLen; omega) (by omega) (by simp; omega) ?_)
          intro v6 w6 hown6 hgrow6 _
          have hrow6 : Rowi w6 w4.heap.size v6 ((List.range (j + 1)).map (fun j => (placeK s1 rs j : Int))) := Rowi.of hown6 (by simp) (by rw [List.range_succ, List.map_append, List.map_append, List.map_cons, List.map_nil, List.map_cons, List.map_nil, ← HP.out]; simp)
          have hbel6 := grown_below (w := w4) OW.out B5.out hB6 (grown_alloc hgrow6)
          have H6 := hid hrow6
          have HB6 := hid hbel6
          clear hown hown6 hgrow6 hrow6 hbel6 OW B5
          go_wp2_with fail
          exact ⟨⟨j + 1, by omega, by rw [HNX.out], by go_num, H6.out, HB6.out⟩, by simp [intOf]; omega⟩
        · have ej : j = rs.length := by omega
          subst ej
          have cj2 : ¬ (rs.length : Int) < (rs.length : Int) := by omega
          obtain ⟨w7, hw7⟩ : ∃ u, u = wr := ⟨_, rfl⟩
          subst hw7
          rw [stK_end, HF2.out]
          obtain ⟨P, hP⟩ : ∃ P, (List.range rs.length).map (fun j => (placeK s1 rs j : Int)) = P := ⟨_, rfl⟩
          rw [hP] at hrow
          have hPl : P.length = rs.length := by rw [← hP, List.length_map, List.length_range]
          have HPL := hid hPl
          have hPk : ∀ k, k < rs.length → P.getD k 0 = (placeK s1 rs k : Int) := by
            intro k hk
            rw [← hP, List.getD_eq_getElem?_getD, List.getElem?_map, List.getElem?_range hk]
            rfl
          have HPK := hid hPk
          have hPb : ∀ k, k < rs.length → placeK s1 rs k + 4 ≤ F.length := by
            intro k hk
            obtain ⟨_, _, _, q⟩ := skip_found G1.out HR.out HDR.out k hk
            rw [HF2.out] at q
            exact q
          have HPB := hid hPb
          obtain ⟨xp, cp, hvp, _⟩ := rowi_ints hrow (by omega) (fun z hz => by
            rw [← hP] at hz
            obtain ⟨k, hk, rfl⟩ := List.mem_map.1 hz
            have := hPb k (List.mem_range.1 hk)
            omega)
          rw [hPl] at hvp
          subst hvp
          have T0 : Hid (TSt w #[.int .i64 h.id, .bool h.an, .int .i64 h.op, .bool h.aa, .bool h.tc, .bool h.rd, .bool h.ra, .bool h.z, .bool h.ad, .bool h.cd, .int .i64 h.code, .slice xq qs.length cq, .slice x1 r1.length c1, .slice x2 r2.length c2, .slice x3 r3.length c3] g cb w3.heap.size (.slice xr rs.length cr) rs w4.heap.size (.slice xp rs.length cp) P (laidK s1 rs t 0) w7) :=
            hid ⟨by rw [laid_zero, HF2.out]; exact Y4.out.below hbel, ⟨_, C4.out.below hbel⟩, K4.out.below hbel, OR.out.below hbel, hrow, wp_on B4.out hbel, hbel.size⟩
          have HP := hid hP
          clear hP hPl hPk hPb hrow hbel Y4 C4 K4 OR B4 B3
          go_wp2_with fail
          go_loopw [17] (fun vi wr3 => ∃ k : Nat, k ≤ rs.length ∧ vi = .int .i64 (k : Int) ∧ TSt w #[.int .i64 h.id, .bool h.an, .int .i64 h.op, .bool h.aa, .bool h.tc, .bool h.rd, .bool h.ra, .bool h.z, .bool h.ad, .bool h.cd, .int .i64 h.code, .slice xq qs.length cq, .slice x1 r1.length c1, .slice x2 r2.length c2, .slice x3 r3.length c3] g cb w3.heap.size (.slice xr rs.length cr) rs w4.heap.size (.slice xp rs.length cp) P (laidK s1 rs t k) wr3) (fun i _ => rs.length - (intOf i).toNat)
          case atStart => exact ⟨0, Nat.zero_le _, rfl, T0.out⟩
          case round =>
            obtain ⟨k, hk, rfl, T⟩ := hrel
            by_cases ck : k < rs.length
            · obtain ⟨gp, rfl⟩ := rowi_at T.2.2.2.2.1 (by rw [HPL.out]; omega)
              have hkP : k < P.length := by rw [HPL.out]; exact ck
              have pk := HPK.out k ck
              have hpb := HPB.out k ck
              have LN := hid (laid_next s1 rs t k ck (by omega) (by omega))
              have hXl : (laidK s1 rs t k).length = F.length := by rw [laid_len, HF2.out]
              generalize placeK s1 rs k = p at *
              generalize laidK s1 rs t k = X at *
              have HXL := hid hXl
              have PK := hid pk
              have TT := hid T
              clear T hXl pk
              have ck2 : (k : Int) < (rs.length : Int) := by omega
              have i0 : (p : Int) < (F.length : Int) := by omega
              have i1 : (p : Int) + 1 < (F.length : Int) := by omega
              have i2 : (p : Int) + 2 < (F.length : Int) := by omega
              have i3 : (p : Int) + 3 < (F.length : Int) := by omega
              have p0 := TT.out.place k hkP
              rw [PK.out] at p0
              obtain ⟨⟨v0, h0⟩, f0⟩ := TT.out.here p (by rw [HXL.out]; omega)
              go_upto_region 31 with fail
              have T1 := hid (TT.out.put hgw hgr hs4 p (t / 16777216) (by omega) (by omega))
              clear h0 f0 p0 TT
              generalize wr.setCell ⟨g, p, none⟩ (.int .u8 (t / 16777216)) = u1 at *
              have p1 := T1.out.place k hkP
              rw [PK.out] at p1
              obtain ⟨⟨v1, h1⟩, f1⟩ := T1.out.here (p + 1) (by rw [List.length_set, HXL.out]; omega)
              go_upto_region 32 with fail
              have T2 := hid (T1.out.put hgw hgr hs4 (p + 1) (t / 65536 % 256) (by omega) (by omega))
              clear h1 f1 p1 T1
              generalize u1.setCell ⟨g, p + 1, none⟩ (.int .u8 (t / 65536 % 256)) = u2 at *
              have p2 := T2.out.place k hkP
              rw [PK.out] at p2
              obtain ⟨⟨v2, h2⟩, f2⟩ := T2.out.here (p + 2) (by rw [List.length_set, List.length_set, HXL.out]; omega)
              go_upto_region 33 with fail
              have T3 := hid (T2.out.put hgw hgr hs4 (p + 2) (t / 256 % 256) (by omega) (by omega))
              clear h2 f2 p2 T2
              generalize u2.setCell ⟨g, p + 2, none⟩ (.int .u8 (t / 256 % 256)) = u3 at *
              have p3 := T3.out.place k hkP
              rw [PK.out] at p3
              obtain ⟨⟨v3, h3⟩, f3⟩ := T3.out.here (p + 3) (by rw [List.length_set, List.length_set, List.length_set, HXL.out]; omega)
              have T4 := hid (T3.out.put hgw hgr hs4 (p + 3) (t % 256) (by omega) (by omega))
              go_wp2_with fail
              refine ⟨⟨k + 1, by omega, by go_num, ?_⟩, by simp [intOf]; omega⟩
              rw [← LN.out]
              exact T4.out
            · have ek : k = rs.length := by omega
              subst ek
              have ck2 : ¬ (rs.length : Int) < (rs.length : Int) := by omega
              obtain ⟨w8, hw8⟩ : ∃ u, u = wr := ⟨_, rfl⟩
              subst hw8
              obtain ⟨TE, EF⟩ := ttl_msg HE.out (t := t) (by omega) (by omega)
              rw [← HRS.out, HS0.out, HS1.out] at EF
              have HDt : ∀ r ∈ r1.map (setT t) ++ r2.map (setT t) ++ r3.map (setT t), ∀ b ∈ r.D, 0 ≤ b ∧ b ≤ 255 := by
                intro r hr
                rw [← List.map_append, ← List.map_append, ← HRS.out] at hr
                obtain ⟨r0, hm, rfl⟩ := List.mem_map.1 hr
                exact HDR.out r0 hm
              obtain ⟨MB1, MB2, _⟩ := msg_back TE HDt
              rw [EF] at MB1 MB2
              have hXl : (laidK s1 rs t rs.length).length = F.length := by rw [laid_len, HF2.out]
              generalize laidK s1 rs t rs.length = X at *
              have hrs' : Hid (rs.map (setT t) = r1.map (setT t) ++ r2.map (setT t) ++ r3.map (setT t)) := hid (by rw [← List.map_append, ← List.map_append, ← HRS.out])
              have ll1 : (r1.map (setT t)).length ≤ 65535 := by rw [List.length_map]; exact MZ.out.2.1.2.1
              have ll2 : (r2.map (setT t)).length ≤ 65535 := by rw [List.length_map]; exact MZ.out.2.1.2.2.1
              have ll3 : (r3.map (setT t)).length ≤ 65535 := by rw [List.length_map]; exact MZ.out.2.1.2.2.2
              clear TE EF HDt
              generalize r1.map (setT t) = p1 at *
              generalize r2.map (setT t) = p2 at *
              generalize r3.map (setT t) = p3 at *
              have HM1 := hid MB1
              have HM2 := hid MB2
              have HXL := hid hXl
              have TT := hid T
              clear T MB1 MB2 hXl
              go_wp2_with fail
              refine (mread_hd h X _ TT.out.1 HXL.out HM1.out HM2.out).mono ?_
              rintro e w9 ⟨xa, ca, xb, cc, xd, cd, xe, ce, rfl, _, ha1, ha2, ha3, b9⟩
              have A9 := (Below.refl _ w9).alloc (Nat.le_refl _) (.cells #[.int .i64 h.id, .bool h.an, .int .i64 h.op, .bool h.aa, .bool h.tc, .bool h.rd, .bool h.ra, .bool h.z, .bool h.ad, .bool h.cd, .int .i64 h.code, .slice xa qs.length ca, .slice xb p1.length cc, .slice xd p2.length cd, .slice xe p3.length ce] 27)
              have N9 := Bl.new 27 w9 #[.int .i64 h.id, .bool h.an, .int .i64 h.op, .bool h.aa, .bool h.tc, .bool h.rd, .bool h.ra, .bool h.z, .bool h.ad, .bool h.cd, .int .i64 h.code, .slice xa qs.length ca, .slice xb p1.length cc, .slice xd p2.length cd, .slice xe p3.length ce]
              have R91 := hid (ha1.below A9)
              have R92 := hid (ha2.below A9)
              have R93 := hid (ha3.below A9)
              have B9 := hid (wp_on (wp_on TT.out.2.2.2.2.2.1 b9) A9)
              have K9 := (TT.out.2.2.1.below b9).below A9
              have O9 := hid ((TT.out.2.2.2.1.below b9).below A9)
              have HA9 := hid A9
              have HN9 := hid N9
              have HK9 := hid K9
              clear ha1 ha2 ha3 b9 A9 N9 K9 TT HM1 HM2 HXL
              go_upto_region 35 with fail
              clear HA9
              have e0 := HN9.out.cell (i := 0) rfl
              have e1 := HN9.out.cell (i := 1) rfl
              have e2 := HN9.out.cell (i := 2) rfl
              have e3 := HN9.out.cell (i := 3) rfl
              have e4 := HN9.out.cell (i := 4) rfl
              have e5 := HN9.out.cell (i := 5) rfl
              have e6 := HN9.out.cell (i := 6) rfl
              have e7 := HN9.out.cell (i := 7) rfl
              have e8 := HN9.out.cell (i := 8) rfl
              have e9 := HN9.out.cell (i := 9) rfl
              have e10 := HN9.out.cell (i := 10) rfl
              have e11 := HN9.out.cell (i := 11) rfl
              have e12 := HN9.out.cell (i := 12) rfl
              have e13 := HN9.out.cell (i := 13) rfl
              have e14 := HN9.out.cell (i := 14) rfl
              generalize w9.heap.size = M at *
              generalize w9.alloc (.cells #[.int .i64 h.id, .bool h.an, .int .i64 h.op, .bool h.aa, .bool h.tc, .bool h.rd, .bool h.ra, .bool h.z, .bool h.ad, .bool h.cd, .int .i64 h.code, .slice xa qs.length ca, .slice xb p1.length cc, .slice xd p2.length cd, .slice xe p3.length ce] 27) = w10 at *
              go_wp2_with fail
              refine (all_any h p1 p2 p3 (rs.map (setT t)) hrs' _ R91.out R92.out R93.out (by omega) (by omega) (by omega)).mono ?_
              rintro e w11 ⟨xg, cg, rfl, hRg, b11⟩
              have hml : (rs.map (setT t)).length = rs.length := List.length_map _
              rw [hml]
              have RG := hid hRg
              have B11 := hid (wp_on B9.out b11)
              have O11 := hid (O9.out.below b11)
              have K11 := HK9.out.below b11
              have N11 := HN9.out.below b11
              clear hRg b11 hml R91 R92 R93 B9 O9 HK9 HN9 e0 e1 e2 e3 e4 e5 e6 e7 e8 e9 e10 e11 e12 e13 e14
              have e0 := N11.cell (i := 0) rfl
              have e1 := N11.cell (i := 1) rfl
              have e2 := N11.cell (i := 2) rfl
              have e3 := N11.cell (i := 3) rfl
              have e4 := N11.cell (i := 4) rfl
              have e5 := N11.cell (i := 5) rfl
              have e6 := N11.cell (i := 6) rfl
              have e7 := N11.cell (i := 7) rfl
              have e8 := N11.cell (i := 8) rfl
              have e9 := N11.cell (i := 9) rfl
              have e10 := N11.cell (i := 10) rfl
              have f0 := K11.cell (i := 0) rfl
              have f1 := K11.cell (i := 1) rfl
              have f2 := K11.cell (i := 2) rfl
              have f3 := K11.cell (i := 3) rfl
              have f4 := K11.cell (i := 4) rfl
              have f5 := K11.cell (i := 5) rfl
              have f6 := K11.cell (i := 6) rfl
              have f7 := K11.cell (i := 7) rfl
              have f8 := K11.cell (i := 8) rfl
              have f9 := K11.cell (i := 9) rfl
              have f10 := K11.cell (i := 10) rfl
              clear K11 N11
              go_wp2_with fail
              clear e0 e1 e2 e3 e4 e5 e6 e7 e8 e9 e10 f0 f1 f2 f3 f4 f5 f6 f7 f8 f9 f10
              go_loopw [20] (fun vi wr5 => ∃ i : Nat, i ≤ rs.length ∧ vi = .int .i64 (i : Int) ∧ Below w11.heap.size w11 wr5) (fun i _ => rs.length - (intOf i).toNat)
              case atStart => exact ⟨0, Nat.zero_le _, rfl, Below.refl _ _⟩
              case round =>
                obtain ⟨i, hi, rfl, hbel⟩ := hrel
                by_cases ci : i < rs.length
                · have ci2 : (i : Int) < (rs.length : Int) := by omega
                  have ci3 : i < (rs.map (setT t)).length := by rw [List.length_map]; exact ci
                  obtain ⟨b0, o0, y, s, z, q, exr, hb0, e0, e1, e2, e3, e4, hS, hZ, _⟩ := ((O11.out.below hbel).rs (by omega)).at ci
                  obtain ⟨b5, o5, y5, s5, z5, q5, exg, hb5, k0, k1, k2, k3, k4, hS5, hZ5, _⟩ := (RG.out.below hbel).at ci3
                  rw [List.getElem_map] at k0 k1 k2 k3 k4 hS5 hZ5
                  generalize rs[i] = r at *
                  subst exr exg
                  have HBL := hid hbel
                  have BX0 := (Below.refl _ wr).alloc (Nat.le_refl _) (.cells #[.slice y r.N.length s, .int .i64 r.ty, .int .i64 r.cl, .int .i64 r.ttl, .slice z r.D.length q] 31)
                  have NX0 := Bl.new 31 wr #[.slice y r.N.length s, .int .i64 r.ty, .int .i64 r.cl, .int .i64 r.ttl, .slice z r.D.length q]
                  have BX := hid BX0
                  have NX := hid NX0
                  clear hbel BX0 NX0
                  go_upto_region 42 with fail
                  have fr3 := NX.out.frozen 3
                  have u3 := NX.out.cell (i := 3) rfl
                  have NS : Bl 31 ((wr.alloc (.cells #[.slice y r.N.length s, .int .i64 r.ty, .int .i64 r.cl, .int .i64 r.ttl, .slice z r.D.length q] 31)).setCell ⟨wr.heap.size, 3, none⟩ (.int .i64 t)) wr.heap.size #[.slice y r.N.length s, .int .i64 r.ty, .int .i64 r.cl, .int .i64 t, .slice z r.D.length q] := by simpa using NX.out.set 3 (.int .i64 t)
                  have BS := hid (BX.out.setCell (p := ⟨wr.heap.size, 3, none⟩) (Nat.le_refl _) (.int .i64 t))
                  have HNS := hid NS
                  clear NS BX NX
                  generalize wr.alloc (.cells #[.slice y r.N.length s, .int .i64 r.ty, .int .i64 r.cl, .int .i64 r.ttl, .slice z r.D.length q] 31) = U1 at *
                  go_upto_region 43 with fail
                  clear fr3 u3 e0 e1 e2 e3 e4
                  generalize U1.setCell ⟨wr.heap.size, 3, none⟩ (.int .i64 t) = U at *
                  have g0 := (BS.out.cell (p := ⟨b5, o5 + i * 5, none⟩) hb5).trans k0
                  have g1 := (BS.out.cell (p := ⟨b5, o5 + i * 5 + 1, none⟩) hb5).trans k1
                  have g2 := (BS.out.cell (p := ⟨b5, o5 + i * 5 + 2, none⟩) hb5).trans k2
                  have g3 := (BS.out.cell (p := ⟨b5, o5 + i * 5 + 3, none⟩) hb5).trans k3
                  have g4 := (BS.out.cell (p := ⟨b5, o5 + i * 5 + 4, none⟩) hb5).trans k4
                  simp only [setT] at g0 g1 g2 g3 g4 hS5 hZ5
                  have hb6 : b5 < U.heap.size := Nat.lt_of_lt_of_le hb5 BS.out.size
                  have hM : wr.heap.size < U.heap.size := HNS.out.lt
                  have S1 := hid (hS.below BS.out)
                  have Z1 := hid (hZ.below BS.out)
                  have S2 := hid (hS5.below BS.out)
                  have Z2 := hid (hZ5.below BS.out)
                  have BU := hid (wp_on HBL.out BS.out)
                  have j0 := HNS.out.cell (i := 0) rfl
                  have j1 := HNS.out.cell (i := 1) rfl
                  have j2 := HNS.out.cell (i := 2) rfl
                  have j3 := HNS.out.cell (i := 3) rfl
                  have j4 := HNS.out.cell (i := 4) rfl
                  clear k0 k1 k2 k3 k4 hS hZ hS5 hZ5 HBL BS HNS
                  generalize wr.heap.size = M2 at *
                  have CR : Hid (∀ u, Below U.heap.size U u → Calls Try.prog 13 #[.agg #[.slice y5 r.N.length s5, .int .i64 r.ty, .int .i64 r.cl, .int .i64 t, .slice z5 r.D.length q5], .agg #[.slice y r.N.length s, .int .i64 r.ty, .int .i64 r.cl, .int .i64 t, .slice z r.D.length q]] u fun e u' => e = .returned (.bool true) ∧ Below u.heap.size u u') := hid (fun u hu => srecord_at r.N r.D r.ty r.cl t u (S2.out.below hu) (S1.out.below hu) (Z2.out.below hu) (Z1.out.below hu) rfl rfl rfl rfl)
                  have PK : Hid (∀ u, Below U.heap.size U u → u.cell? ⟨b5, o5 + i * 5, none⟩ = some (.slice y5 r.N.length s5) ∧ u.cell? ⟨b5, o5 + i * 5 + 1, none⟩ = some (.int .i64 r.ty) ∧ u.cell? ⟨b5, o5 + i * 5 + 2, none⟩ = some (.int .i64 r.cl) ∧ u.cell? ⟨b5, o5 + i * 5 + 3, none⟩ = some (.int .i64 t) ∧ u.cell? ⟨b5, o5 + i * 5 + 4, none⟩ = some (.slice z5 r.D.length q5) ∧ u.cell? ⟨M2, 0, none⟩ = some (.slice y r.N.length s) ∧ u.cell? ⟨M2, 1, none⟩ = some (.int .i64 r.ty) ∧ u.cell? ⟨M2, 2, none⟩ = some (.int .i64 r.cl) ∧ u.cell? ⟨M2, 3, none⟩ = some (.int .i64 t) ∧ u.cell? ⟨M2, 4, none⟩ = some (.slice z r.D.length q) ∧ Below U.heap.size U u) :=
                    hid (fun u hu => ⟨(hu.cell (p := ⟨b5, o5 + i * 5, none⟩) hb6).trans g0, (hu.cell (p := ⟨b5, o5 + i * 5 + 1, none⟩) hb6).trans g1, (hu.cell (p := ⟨b5, o5 + i * 5 + 2, none⟩) hb6).trans g2, (hu.cell (p := ⟨b5, o5 + i * 5 + 3, none⟩) hb6).trans g3, (hu.cell (p := ⟨b5, o5 + i * 5 + 4, none⟩) hb6).trans g4, (hu.cell (p := ⟨M2, 0, none⟩) hM).trans j0, (hu.cell (p := ⟨M2, 1, none⟩) hM).trans j1, (hu.cell (p := ⟨M2, 2, none⟩) hM).trans j2, (hu.cell (p := ⟨M2, 3, none⟩) hM).trans j3, (hu.cell (p := ⟨M2, 4, none⟩) hM).trans j4, hu⟩)
                  go_region_held3 (fun u => u.cell? ⟨b5, o5 + i * 5, none⟩ = some (.slice y5 r.N.length s5) ∧ u.cell? ⟨b5, o5 + i * 5 + 1, none⟩ = some (.int .i64 r.ty) ∧ u.cell? ⟨b5, o5 + i * 5 + 2, none⟩ = some (.int .i64 r.cl) ∧ u.cell? ⟨b5, o5 + i * 5 + 3, none⟩ = some (.int .i64 t) ∧ u.cell? ⟨b5, o5 + i * 5 + 4, none⟩ = some (.slice z5 r.D.length q5) ∧ u.cell? ⟨M2, 0, none⟩ = some (.slice y r.N.length s) ∧ u.cell? ⟨M2, 1, none⟩ = some (.int .i64 r.ty) ∧ u.cell? ⟨M2, 2, none⟩ = some (.int .i64 r.cl) ∧ u.cell? ⟨M2, 3, none⟩ = some (.int .i64 t) ∧ u.cell? ⟨M2, 4, none⟩ = some (.slice z r.D.length q) ∧ Below U.heap.size U u) (with_reducible (first | assumption | exact PK.out _ (Below.drew (Below.refl _ _)) | exact PK.out _ HB3))
                    (first
                      | (go_at_call 13; refine (CR.out _ (Below.drew (Below.refl _ _))).mono ?_; rintro e w13 ⟨rfl, b13⟩; have HB3 : Below U.heap.size U w13 := grown_on (Below.drew (Below.refl _ _)) b13))
                  have BE := hid (wp_on BU.out HB3)
                  clear b13 HB3 CR PK g0 g1 g2 g3 g4 j0 j1 j2 j3 j4 BU S1 S2 Z1 Z2
                  go_wp2_with fail
                  exact ⟨⟨i + 1, by omega, by go_num, BE.out⟩, by simp [intOf]; omega⟩
                · have ei : i = rs.length := by omega
                  subst ei
                  have ci2 : ¬ (rs.length : Int) < (rs.length : Int) := by omega
                  have BF := hid (wp_on B11.out hbel)
                  clear hbel
                  go_wp2_with fail
                  go_ret
                  exact ⟨rfl, BF.out⟩
end Go.Proofs.Ytjpahieeaojieab
