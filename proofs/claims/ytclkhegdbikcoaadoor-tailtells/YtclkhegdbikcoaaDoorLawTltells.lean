/-
  The law TailTells: its walk.
-/
import Derived.Test.YtclkhegdbikcoaaDoorTlLast
import Derived.Test.YtclkhegdbikcoaaDoorTlLen
import Derived.Test.YtclkhegdbikcoaaDoorRefFault
namespace Go.Proofs.YtclkhegdbikcoaaDoor.Tl
open Go.RowKit Go.Deep Go.Maps

theorem info_end : (Tryd.prog.info? 30).map (fun i => (i.zero, i.size, i.bytes)) = some (some (.agg #[.slice none 0 0, .int .i64 0]), 2, 32) := by kernel_rfl

theorem info_of_end : ∃ i, Tryd.prog.info? 30 = some i ∧ i.zero = some (.agg #[.slice none 0 0, .int .i64 0]) ∧ i.size = 2 ∧ i.bytes = 32 := info_parts info_end

/-- What the law's first loop keeps. -/
def TellRel (w : World) (tb mb : Nat) (L : List Sv) (v vi : Value) (wr : World) : Prop :=
  ∃ (j : Nat) (P : List En), j ≤ L.length ∧ vi = .int .i64 (j : Int) ∧ TailL w wr tb mb (P.map En.p) ∧ ERow wr w.heap.size v P ∧ (∀ b ∈ P, b.e ∈ L) ∧ P.length ≤ j

theorem ends_map_len (P : List En) : (P.map En.p).length = P.length := List.length_map _

set_option maxHeartbeats 8000000 in
set_option maxRecDepth 100000 in
theorem tltells_walk {xa xd : Option Addr} {ca la cd ld : Nat} (L D : List Sv) (w : World) (hL : Strss w xa ca L) (hD : Strss w xd cd D) (jl : L.length = la) (jd : D.length = ld) (hg : Glob w) :
    Calls Tryd.prog 3 #[.slice xa la ca, .slice xd ld cd] w fun e w' => e = .returned (.bool true) ∧ Below w.heap.size w w' := by
  subst jl jd
  have HL := hid hL
  have HD := hid hD
  have hll : L.length ≤ 6000000000000 := hL.2.1
  have hdl : D.length ≤ 6000000000000 := hD.2.1
  clear hL hD
  go_enter Tryd.func3, Tryd.ntmps3
  by_cases cl : 60 < L.length
  · have cl' : (60 : Int) < (L.length : Int) := by omega
    go_wp2
    go_ret
    exact ⟨rfl, Below.refl _ _⟩
  by_cases cd' : 60 < D.length
  · have cl' : (L.length : Int) ≤ 60 := by omega
    have cd'' : (60 : Int) < (D.length : Int) := by omega
    go_wp2
    go_ret
    exact ⟨rfl, Below.refl _ _⟩
  have cl' : (L.length : Int) ≤ 60 := by omega
  have cd'' : (D.length : Int) ≤ 60 := by omega
  go_wp2_with fail
  refine (tnew_any w).mono ?_
  rintro e w2 ⟨tb, rfl, htb, hT, b2⟩
  obtain ⟨mb, hmb⟩ : ∃ mb, w.heap.size = mb := ⟨_, rfl⟩
  have HMB := hid hmb
  rw [hmb] at hT htb
  have HT : Hid (TailL w w2 tb mb []) := hid ⟨hT, by omega, b2⟩
  clear hT b2 hmb
  go_wp2_with fail
  go_loopw [6, 7] (fun v vi wr => TellRel w tb mb L v vi wr) (fun _ vi _ => L.length - (intOf vi).toNat)
  case atStart => exact ⟨0, [], Nat.zero_le _, rfl, HT.out, World.ownsRow_nil _ _ _ _, fun b hb => (by cases hb), Nat.le_refl _⟩
  case round =>
    clear HT
    obtain ⟨j, P, hj, rfl, hT, hrow, hPin, hPl⟩ := hrel
    have HT := hid hT
    have HROW := hid hrow
    have HPin := hid hPin
    clear hT hrow hPin
    by_cases cj : j < L.length
    · have cj' : (j : Int) < (L.length : Int) := by omega
      obtain ⟨_, _, hin, hcell⟩ := HL.out
      obtain ⟨b0, o0, rfl, hb0, q0⟩ : ∃ b off, xa = some ⟨b, off, none⟩ ∧ b < w.heap.size ∧ ∀ i (h : i < L.length), w.cell? ⟨b, off + i, none⟩ = some (L[i]).v := by
        rcases hcell with q | q
        · rw [q] at cj; simp at cj
        · exact q
      have q1 := q0 j cj
      have hIN := hin _ (List.getElem_mem cj)
      have HMEM := hid (List.getElem_mem cj)
      clear hin hcell q0
      generalize L[j] = S at *
      obtain ⟨sx, sc, m⟩ := S
      have HIN : Hid (Strs w sx sc m) := hid hIN
      have HQ : Hid (w.cell? ⟨b0, o0 + j, none⟩ = some (.slice sx m.length sc)) := hid q1
      have q2 : wr.cell? ⟨b0, o0 + j, none⟩ = some (.slice sx m.length sc) := by rw [HT.out.old.cell (p := ⟨b0, o0 + j, none⟩) hb0]; exact HQ.out
      clear q1 hIN
      go_wp2_with fail
      refine (fault_at (Nm.checkN (m.map Nm.bs)) m wr (HIN.out.below HT.out.old) rfl rfl).mono ?_
      rintro e w3 ⟨rfl, rfl⟩
      by_cases hk : Nm.checkN (m.map Nm.bs) = 0
      · have HK := hid hk
        rw [hk]
        clear hk
        obtain ⟨i0, hi, hz0, hz1, hz2⟩ := info_of_end
        have hw1 : w.heap.size ≤ wr.heap.size := HT.out.old.size
        have hal : ERow (wr.alloc (.cells #[.slice sx m.length sc, .int .i64 (j : Int)] 30)) w.heap.size u6 P := HROW.out.below ((Below.refl _ _).alloc (Nat.le_refl _) _)
        have HAL := hid hal
        clear hal
        go_upto_region 13 with (at_builtin; refine wpList_append_own_wide _ rfl _ _ 25 rfl w.heap.size 30 i0 _ 2 32 Tryd.underlying25 hi hz0 hz1 hz2 rfl (by decide) u6 P.length _ rfl HAL.out ⟨wr.heap.size, 0, none⟩ 1 1 [.slice sx m.length sc, .int .i64 (j : Int)] rfl rfl (cells_new wr [.slice sx m.length sc, .int .i64 (j : Int)] 30) (by simp [Value.oneCell']) (by unfold maxLen; omega) (by omega) (by simp; omega) ?_; intro v5 w5 hown5 hgr5 _)
        have HROWX : Hid (ERow w5 w.heap.size v5 (P ++ [(⟨⟨sx, sc, m⟩, (j : Int)⟩ : En)])) := hid (by
          unfold ERow
          rw [List.length_append, List.flatMap_append]
          exact hown5)
        have HTX := hid ((HT.out.below ((Below.refl _ _).alloc (Nat.le_refl _) (.cells #[.slice sx m.length sc, .int .i64 (j : Int)] 30))).append HAL.out hgr5 (Nat.le_refl _))
        have HPin2 : Hid (∀ b ∈ P ++ [(⟨⟨sx, sc, m⟩, (j : Int)⟩ : En)], b.e ∈ L) := hid (fun b hb => by
          rcases List.mem_append.1 hb with q | q
          · exact HPin.out b q
          · have : b = (⟨⟨sx, sc, m⟩, (j : Int)⟩ : En) := (by simpa using q)
            rw [this]; exact HMEM.out)
        have HPL2 : Hid ((P ++ [(⟨⟨sx, sc, m⟩, (j : Int)⟩ : En)]).length ≤ j + 1) := hid (by simp; omega)
        have HPT : Hid (putT (P.map En.p) m (j : Int) = (P ++ [(⟨⟨sx, sc, m⟩, (j : Int)⟩ : En)]).map En.p) := hid (by unfold putT; rw [if_pos HK.out, List.map_append]; rfl)
        have HKE : Hid (errV (Nm.checkN (m.map Nm.bs)) = .nilIface) := hid (by rw [HK.out]; rfl)
        have HKV : Hid (errV 0 = .nilIface) := hid rfl
        clear hown5 hgr5 q2 hi hz0 hz1 hz2 i0 HAL HT HROW
        -- the tails at w5 hold what P says; the row v5 holds P ++ [(⟨⟨sx, sc, m⟩, (j : Int)⟩ : En)]
        have HINX := hid (HIN.out.below HTX.out.old)
        have q3 : w5.cell? ⟨b0, o0 + j, none⟩ = some (.slice sx m.length sc) := by rw [HTX.out.old.cell (p := ⟨b0, o0 + j, none⟩) hb0]; exact HQ.out
        have CP := hid (tput_any tb mb (P.map En.p) m (j : Int) w5 HTX.out HINX.out rfl (by rw [ends_map_len]; omega) (by omega) (by omega))
        rw [HPT.out, HKE.out] at CP
        go_upto_region 14 with fail
        refine CP.out.mono ?_
        rintro e w6 ⟨rfl, hT6, g6⟩
        have HT6 := hid hT6
        have HROW6 := hid (HROWX.out.put HTX.out.st.mp g6)
        clear hT6 g6
        go_upto_region 14 with fail
        refine (error_at 0 0 _ w6 (hg.below HT6.out.old) HKV.out rfl).mono ?_
        rintro e w7 ⟨rfl, d7⟩
        have HT7 := hid (HT6.out.below d7)
        have HROW7 := hid (HROW6.out.below d7)
        clear d7
        go_upto_region 14 with fail
        clear q3 CP HT6 HROW6
        obtain ⟨xp, cp, hve, hbp⟩ := HROW7.out.ens
        obtain ⟨PL, hPL⟩ : ∃ PL, (P ++ [(⟨⟨sx, sc, m⟩, (j : Int)⟩ : En)]).length = PL := ⟨_, rfl⟩
        have hpl2 : (P ++ [(⟨⟨sx, sc, m⟩, (j : Int)⟩ : En)]).length ≤ j + 1 := HPL2.out
        rw [hPL] at hve hpl2
        have CLn := hid (tlen_any tb mb _ w7 HT7.out.st)
        have CKn := hid (ends_any (l := PL) (P ++ [(⟨⟨sx, sc, m⟩, (j : Int)⟩ : En)]) w7 hbp (fun b hb => Strs.below (HL.out.2.2.1 _ (HPin2.out b hb)) HT7.out.old) hPL (by omega))
        have HVE := hid hve
        rw [hve]
        obtain ⟨kk, hkk⟩ : ∃ kk, endsT [] ((P ++ [(⟨⟨sx, sc, m⟩, (j : Int)⟩ : En)]).map En.p) = kk := ⟨_, rfl⟩
        have hkb : kk ≤ 61 := by have := endsT_le ((P ++ [(⟨⟨sx, sc, m⟩, (j : Int)⟩ : En)]).map En.p) []; rw [ends_map_len] at this; omega
        rw [hkk] at CLn CKn
        clear hve hbp hkk hPL
        go_wp2_with (first | (go_at_call 8; refine CLn.out.mono ?_; rintro e w8 ⟨rfl, rfl⟩) | (go_at_call 9; refine CKn.out.mono ?_; rintro e w9 ⟨rfl, d9⟩))
        go_roundw
        case rel =>
          refine ⟨j + 1, P ++ [(⟨⟨sx, sc, m⟩, (j : Int)⟩ : En)], by omega, by go_num, HT7.out.below (d9.below _), ?_, HPin2.out, HPL2.out⟩
          rw [← HVE.out]
          exact HROW7.out.below (d9.below _)
        case measure => simp [intOf]; omega
      · have HTX := HT
        have HPin2 := HPin
        have HPL2 : Hid (P.length ≤ j + 1) := hid (by omega)
        have HPT : Hid (putT (P.map En.p) m (j : Int) = P.map En.p) := hid (by unfold putT; rw [if_neg hk])
        have HKE := hid (errV_some hk)
        have HKV := HKE
        have hk' : (Nm.checkN (m.map Nm.bs) == 0) = false := by simpa using hk
        -- the tails at wr hold what P says; the row u6 holds P
        have HINX := hid (HIN.out.below HTX.out.old)
        have CP := hid (tput_any tb mb (P.map En.p) m (j : Int) wr HTX.out HINX.out rfl (by rw [ends_map_len]; omega) (by omega) (by omega))
        rw [HPT.out, HKE.out] at CP
        go_upto_region 14 with fail
        refine CP.out.mono ?_
        rintro e w6 ⟨rfl, hT6, g6⟩
        have HT6 := hid hT6
        have HROW6 := hid (HROW.out.put HTX.out.st.mp g6)
        clear hT6 g6
        go_upto_region 14 with fail
        refine (error_at (Nm.checkN (m.map Nm.bs)) (Nm.checkN (m.map Nm.bs)) _ w6 (hg.below HT6.out.old) HKV.out rfl).mono ?_
        rintro e w7 ⟨rfl, d7⟩
        have HT7 := hid (HT6.out.below d7)
        have HROW7 := hid (HROW6.out.below d7)
        clear d7
        go_upto_region 14 with fail
        clear CP HT6 HROW6
        obtain ⟨xp, cp, hve, hbp⟩ := HROW7.out.ens
        obtain ⟨PL, hPL⟩ : ∃ PL, P.length = PL := ⟨_, rfl⟩
        have hpl2 : P.length ≤ j + 1 := HPL2.out
        rw [hPL] at hve hpl2
        have CLn := hid (tlen_any tb mb _ w7 HT7.out.st)
        have CKn := hid (ends_any (l := PL) P w7 hbp (fun b hb => Strs.below (HL.out.2.2.1 _ (HPin2.out b hb)) HT7.out.old) hPL (by omega))
        have HVE := hid hve
        rw [hve]
        obtain ⟨kk, hkk⟩ : ∃ kk, endsT [] (P.map En.p) = kk := ⟨_, rfl⟩
        have hkb : kk ≤ 61 := by have := endsT_le (P.map En.p) []; rw [ends_map_len] at this; omega
        rw [hkk] at CLn CKn
        clear hve hbp hkk hPL
        go_wp2_with (first | (go_at_call 8; refine CLn.out.mono ?_; rintro e w8 ⟨rfl, rfl⟩) | (go_at_call 9; refine CKn.out.mono ?_; rintro e w9 ⟨rfl, d9⟩))
        go_roundw
        case rel =>
          refine ⟨j + 1, P, by omega, by go_num, HT7.out.below (d9.below _), ?_, HPin2.out, HPL2.out⟩
          rw [← HVE.out]
          exact HROW7.out.below (d9.below _)
        case measure => simp [intOf]; omega
    · have cj' : ¬ (j : Int) < (L.length : Int) := by omega
      obtain ⟨xp, cp, rfl, _⟩ := HROW.out.ens
      have hpl60 : P.length ≤ 60 := by omega
      clear cj hj
      go_wp2_with fail
      go_loopw [10] (fun vi wr => ∃ i : Nat, i ≤ D.length ∧ vi = .int .i64 (i : Int) ∧ TailL w wr tb mb (P.map En.p) ∧ ERow wr w.heap.size (.slice xp P.length cp) P) (fun vi _ => D.length - (intOf vi).toNat)
      case atStart => exact ⟨0, Nat.zero_le _, rfl, HT.out, HROW.out⟩
      case round =>
        clear HT HROW
        obtain ⟨i, hi, rfl, hT, hrow⟩ := hrel
        have HT := hid hT
        have HROW := hid hrow
        clear hT hrow
        by_cases ci : i < D.length
        · have ci' : (i : Int) < (D.length : Int) := by omega
          obtain ⟨_, _, hin, hcell⟩ := HD.out
          obtain ⟨b0, o0, rfl, hb0, q0⟩ : ∃ b off, xd = some ⟨b, off, none⟩ ∧ b < w.heap.size ∧ ∀ i (h : i < D.length), w.cell? ⟨b, off + i, none⟩ = some (D[i]).v := by
            rcases hcell with q | q
            · rw [q] at ci; simp at ci
            · exact q
          have q1 := q0 i ci
          have hIN := hin _ (List.getElem_mem ci)
          clear hin hcell q0
          generalize D[i] = S at *
          obtain ⟨sx, sc, m⟩ := S
          have HIN : Hid (Strs w sx sc m) := hid hIN
          have HQ : Hid (w.cell? ⟨b0, o0 + i, none⟩ = some (.slice sx m.length sc)) := hid q1
          have q2 : wr.cell? ⟨b0, o0 + i, none⟩ = some (.slice sx m.length sc) := by rw [HT.out.old.cell (p := ⟨b0, o0 + i, none⟩) hb0]; exact HQ.out
          clear q1 hIN
          go_upto_region 20 with fail
          refine (tget_any tb mb _ m wr HT.out.st (HIN.out.below HT.out.old) rfl).mono ?_
          rintro e w3 ⟨rfl, b3⟩
          have HT3 := hid (HT.out.below b3)
          have HROW3 := hid (HROW.out.below b3)
          have q3 : w3.cell? ⟨b0, o0 + i, none⟩ = some (.slice sx m.length sc) := by rw [HT3.out.old.cell (p := ⟨b0, o0 + i, none⟩) hb0]; exact HQ.out
          obtain ⟨xp', cp', he, hens⟩ := HROW3.out.ens
          simp only [Value.slice.injEq, true_and] at he
          obtain ⟨rfl, rfl⟩ := he
          have HENS := hid hens
          clear b3 q2 HT HROW hens
          obtain ⟨G, hG⟩ : ∃ G, getT (P.map En.p) m = G := ⟨_, rfl⟩
          rw [hG]
          have HG := hid hG
          clear hG
          unfold getV
          go_upto_region 20 with fail
          go_upto_region 21 with fail
          refine (last_any P m w3 HENS.out (fun b hb => Strs.below (HL.out.2.2.1 _ (HPin.out b hb)) HT3.out.old) rfl (by omega) (HIN.out.below HT3.out.old) rfl).mono ?_
          rintro e w4 ⟨b, rfl, hla, d4⟩
          have HT4 := hid (HT3.out.below (d4.below _))
          have HROW4 := hid (HROW3.out.below (d4.below _))
          have HENS4 := hid (HENS.out.below (d4.below _))
          clear d4 q3 HT3 HROW3
          have e1 : (P.map En.p).take P.length = P.map En.p := List.take_of_length_le (by rw [List.length_map]; omega)
          unfold LastAt at hla
          rw [e1, HG.out] at hla
          clear e1
          rcases hla with ⟨rfl, rfl⟩ | ⟨t, ht, _, rfl, rfl⟩
          · unfold gv gn gh
            go_wp2
            go_roundw
            case rel => exact ⟨i + 1, by omega, by go_num, HT4.out, HROW4.out⟩
            case measure => simp [intOf]; omega
          · obtain ⟨g, rfl, hgl, x0, x1⟩ := HENS4.out.at ht
            have ht' : (t : Int) < (P.length : Int) := by omega
            have ht0 : (0 : Int) ≤ (t : Int) := by omega
            have ht1 : ¬ (t : Int) < 0 := by omega
            generalize P[t] = F at *
            unfold gv gn gh
            go_wp2
            go_roundw
            case rel => exact ⟨i + 1, by omega, by go_num, HT4.out, HROW4.out⟩
            case measure => simp [intOf]; omega
        · have ci' : ¬ (i : Int) < (D.length : Int) := by omega
          go_wp2_with fail
          refine (ended_any wr).mono ?_
          rintro e w3 ⟨rfl, b3⟩
          have HT3 := hid (HT.out.below b3)
          clear b3
          go_wp2_with fail
          go_ret
          exact ⟨rfl, HT3.out.old⟩

end Go.Proofs.YtclkhegdbikcoaaDoor.Tl
