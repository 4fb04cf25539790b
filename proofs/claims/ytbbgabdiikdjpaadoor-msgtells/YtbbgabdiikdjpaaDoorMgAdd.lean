/-
  The walks of addQuestion and addRecord over their callees' contracts.
-/
import Derived.Test.YtbbgabdiikdjpaaDoorMgKeep
import Derived.Test.YtbbgabdiikdjpaaDoorRrFacts
import Derived.Deep.RegionHeld3
namespace Go.Proofs.YtbbgabdiikdjpaaDoor
open Go.RowKit Go.Deep Go.Maps

/-- What startsFor is to hand back. -/
def StartsAt (g : Nat) (n : List ByteArray) (st : List Int) (w : World) : Prop :=
  ∀ u z s, Below w.heap.size w u → Strs u z s (endsL n) → Calls Tryd.prog 65 #[.pointer (some ⟨g, 0, none⟩), .slice z n.length s] u fun e u' => ∃ z' s', e = .returned (.slice z' st.length s') ∧ Ints u' z' s' st ∧ Below u.heap.size u u'

/-- What keep is to do. -/
def KeepAt (g : Nat) (n : List ByteArray) (out new : List Int) (R : World → Prop) (w : World) : Prop :=
  ∀ u x c z s y t, Below w.heap.size w u → Rowb u w.heap.size (.slice x out.length c) out → Strs u z s (endsL n) → Ints u y t new → Calls Tryd.prog 68 #[.pointer (some ⟨g, 0, none⟩), .slice x out.length c, .slice z n.length s, .slice y new.length t] u fun e u' => e = .returned (.tuple #[]) ∧ R u'

theorem ints_drop {w : World} {b off t k : Nat} {zs : List Int} (h : Ints w (some ⟨b, off, none⟩) t zs) (hk : k ≤ zs.length) : Ints w (some ⟨b, off + k, none⟩) (t - k) (zs.drop k) := by
  obtain ⟨h1, h2, h3, h4⟩ := h
  refine ⟨by rw [List.length_drop]; omega, by rw [List.length_drop]; omega, fun z hz => h3 z (List.mem_of_mem_drop hz), ?_⟩
  rcases h4 with h4 | ⟨b', off', hx, hb, hc⟩
  · left; rw [h4]; simp
  · cases hx
    refine Or.inr ⟨b, off + k, rfl, hb, fun i hi => ?_⟩
    rw [List.length_drop] at hi
    rw [Nat.add_assoc, hc (k + i) (by omega), List.getD_eq_getElem?_getD, List.getD_eq_getElem?_getD, List.getElem?_drop]

set_option maxHeartbeats 2000000 in
set_option maxRecDepth 100000 in
theorem addq_core {y x0 : Option Addr} {d l0 cp0 : Nat} (g : Nat) (vm vf : Value) (q : Qn) (out0 out1 st new : List Int) (R : World → Prop) (w : World) (hn : Strs w y d q.N) (hk : Nm.checkN (q.N.map Nm.bs) = 0) (hq1 : 0 ≤ q.ty ∧ q.ty ≤ 65535) (hq2 : 0 ≤ q.cl ∧ q.cl ≤ 65535)
    (hg : Bl 104 w g #[.slice x0 l0 cp0, vm, vf]) (hs : Bys w x0 cp0 out0) (hl0 : out0.length = l0) (hm : out0.length ≤ 65535) (hst : st.length ≤ 1) (HS : StartsAt g q.N st w) (HP : packTold out0 q.N st = st ++ new) (HO : packOut out0 q.N st ++ twoN q.ty ++ twoN q.cl = out1) (HK : KeepAt g q.N out1 new R w) :
    Calls Tryd.prog 45 #[.pointer (some ⟨g, 0, none⟩), .agg #[.slice y q.N.length d, .int .i64 q.ty, .int .i64 q.cl]] w fun e w' => e = .returned .nilIface ∧ R w' := by
  have K := hid hk
  have F1 := hid (decide_eq_true hq1)
  have F2 := hid (decide_eq_true hq2)
  have HS' := hid HS
  have HP' := hid HP
  have HO' := hid HO
  have HK' := hid HK
  clear hk hq1 hq2 HS HP HO HK
  go_enter Tryd.func45, Tryd.ntmps45
  go_wp2_with fail
  have B0 : Below w.heap.size w _ := (Below.refl _ w).alloc (Nat.le_refl _) (.cells #[.slice y q.N.length d, .int .i64 q.ty, .int .i64 q.cl] 65)
  have K0 := Bl.new 65 w #[.slice y q.N.length d, .int .i64 q.ty, .int .i64 q.cl]
  refine (ends_good q.N _ (hn.below B0) rfl K.out).mono ?_
  rintro e w1 ⟨z, s, rfl, hz1, b1⟩
  have B1 := grown_on B0 b1
  have K1 := K0.below b1
  clear B0 K0 b1
  go_wp2_with fail
  refine (HS'.out w1 z s B1 hz1).mono ?_
  rintro e w2 ⟨z2, s2, rfl, hz2, b2⟩
  have B2 := grown_on B1 b2
  have K2 := K1.below b2
  have E2 := hid (hz1.below b2)
  have D2 := hg.below B2
  have N2 := hid (hn.below B2)
  have S2 := hid (hs.below B2)
  have d0 := D2.cell (i := 0) rfl
  have k0 : w2.cell? ⟨w.heap.size, 0, none⟩ = some (.slice y q.N.length d) := K2.cell (i := 0) rfl
  have HB := hid B2
  have HKK := hid K2
  have hgl : g < w2.heap.size := D2.lt
  have hwl : w.heap.size < w2.heap.size := K2.lt
  have I2 := hid hz2
  clear B1 K1 b2 hz1 hz2 B2 K2 D2 hs hn hg
  go_wp2_with fail
  have CP : Hid (∀ u, Below w2.heap.size w2 u → Calls Tryd.prog 66 #[.slice x0 l0 cp0, .slice z2 st.length s2, .slice y q.N.length d] u (PackOwn (packOut out0 q.N st) (st ++ new) u)) := hid (fun u hu => pack_own _ _ out0 st q.N u (S2.out.below hu) (I2.out.below hu) (N2.out.below hu) hl0 rfl rfl (by omega) (by omega) K.out rfl HP'.out)
  have PK : Hid (∀ u, Below w2.heap.size w2 u → u.cell? ⟨g, 0, none⟩ = some (.slice x0 l0 cp0) ∧ u.cell? ⟨w.heap.size, 0, none⟩ = some (.slice y q.N.length d) ∧ Below w2.heap.size w2 u) := hid (fun u hu => ⟨(hu.cell (p := ⟨g, 0, none⟩) hgl).trans d0, (hu.cell (p := ⟨w.heap.size, 0, none⟩) hwl).trans k0, hu⟩)
  go_region_held3 (fun u => u.cell? ⟨g, 0, none⟩ = some (.slice x0 l0 cp0) ∧ u.cell? ⟨w.heap.size, 0, none⟩ = some (.slice y q.N.length d) ∧ Below w2.heap.size w2 u) (with_reducible (first | assumption | exact PK.out _ (Below.drew (Below.refl _ _)) | exact PK.out _ HB3))
    (first
      | (go_at_call 66; refine (CP.out _ (Below.drew (Below.refl _ _))).mono ?_; rintro e w3 ⟨v3, u3, rfl, hr3, hi3, b3, hl3, hb3, hl4, hb4⟩; have HB3 : Below w2.heap.size w2 w3 := grown_on (Below.drew (Below.refl _ _)) b3))
  have hr3' : Rowb w3 w2.heap.size v3 (packOut out0 q.N st) := hr3
  have hi3' : Rowi w3 w2.heap.size u3 (st ++ new) := hi3
  clear hr3 hi3 b3
  have K3 := HKK.out.below HB3
  have q1 : w3.cell? ⟨w.heap.size, 1, none⟩ = some (.int .i64 q.ty) := K3.cell (i := 1) rfl
  have q2 : w3.cell? ⟨w.heap.size, 2, none⟩ = some (.int .i64 q.cl) := K3.cell (i := 2) rfl
  have hsz3 : w2.heap.size ≤ w3.heap.size := HB3.size
  generalize packOut out0 q.N st = P at *
  have H3 := hid HB3
  clear d0 k0 CP PK HB3
  go_wp2_with fail
  refine (rfits_at true q.ty 65535 _ F1.out).mono ?_
  rintro e w' ⟨rfl, rfl⟩
  go_wp2_with fail
  refine (rfits_at true q.cl 65535 _ F2.out).mono ?_
  rintro e w' ⟨rfl, rfl⟩
  go_wp2_with fail
  refine (appendTwo_any w2.heap.size v3 P q.ty _ hr3' (by omega) hsz3).mono ?_
  rintro e w4 ⟨v4, rfl, hr4, b4, ki4⟩
  have hi4 : Rowi w4 w2.heap.size u3 (st ++ new) := ki4 _ _ _ _ hi3'
  have K4 := K3.under hwl b4
  have H4 := hid (H3.out.trans b4)
  have hsz4 : w2.heap.size ≤ w4.heap.size := Nat.le_trans hsz3 b4.size
  have q2 : w4.cell? ⟨w.heap.size, 2, none⟩ = some (.int .i64 q.cl) := K4.cell (i := 2) rfl
  clear q1 hi3' hr3' b4 ki4 K3 H3 HKK
  go_wp2_with fail
  refine (appendTwo_any w2.heap.size v4 (P ++ twoN q.ty) q.cl _ hr4 (by rw [List.length_append, two_len]; omega) hsz4).mono ?_
  rintro e w5 ⟨v5, rfl, hr5, b5, ki5⟩
  have hi5 : Rowi w5 w2.heap.size u3 (st ++ new) := ki5 _ _ _ _ hi4
  have H5 := H4.out.trans b5
  rw [HO'.out] at hr5
  obtain ⟨x5, c5, rfl⟩ := rowb_len hr5 rfl
  have R5 : Hid (Rowb w5 w.heap.size (.slice x5 out1.length c5) out1) := hid (owns_base hr5 (Nat.le_of_lt hwl))
  obtain ⟨y5, t5, rfl, I5⟩ := rowi_ints hi5 hl4 hb4
  have Z5 := hid (E2.out.below H5)
  have B5 := hid (grown_on HB.out H5)
  have hcap := I5.1
  have II := hid I5
  clear hr4 hr5 hi4 hi5 b5 ki5 H5 H4 K4 q2 I5
  rcases st with _ | ⟨p, _ | ⟨p2, st⟩⟩
  · have I6 : Hid (Ints w5 y5 t5 new) := hid II.out
    obtain ⟨L, hL⟩ : ∃ L, new.length = L := ⟨_, rfl⟩
    have HL := hid hL
    simp only [List.nil_append, List.length_nil] at *
    rw [hL] at hcap ⊢
    clear hL
    go_wp2_with fail
    have CK := HK'.out w5 x5 c5 z s y5 t5 B5.out R5.out Z5.out I6.out
    rw [HL.out] at CK
    refine CK.mono ?_
    rintro e w6 ⟨rfl, hR⟩
    have HR := hid hR
    clear hR
    go_wp2_with fail
    go_ret
    exact ⟨rfl, HR.out⟩
  · obtain ⟨L, hL⟩ : ∃ L, new.length = L := ⟨_, rfl⟩
    have HL := hid hL
    obtain ⟨b5, o5, rfl⟩ : ∃ b off, y5 = some ⟨b, off, none⟩ := by
      rcases II.out.2.2.2 with hd | ⟨b, off, hx, _⟩
      · simp at hd
      · exact ⟨b, off, hx⟩
    have e1 : ([p] ++ new).length = L + 1 := by rw [List.length_append, hL]; simp; omega
    rw [e1] at hcap ⊢
    have I6 : Hid (Ints w5 (some ⟨b5, o5 + 1, none⟩) (t5 - 1) new) := hid (by
      have := ints_drop (k := 1) II.out (by simp)
      simpa using this)
    clear e1 hL
    have hl1 : (1 : Int) ≤ (L : Int) + 1 := by omega
    by_cases ct : t5 = 1
    · subst ct
      have hl0 : L = 0 := by omega
      subst hl0
      go_wp2_with fail
      have CK := HK'.out w5 x5 c5 z s (some ⟨b5, o5, none⟩) 0 B5.out R5.out Z5.out (by rw [List.length_eq_zero_iff.1 HL.out]; exact Ints.nil _ _ _)
      rw [HL.out] at CK
      refine CK.mono ?_
      rintro e w6 ⟨rfl, hR⟩
      have HR := hid hR
      clear hR
      go_wp2_with fail
      go_ret
      exact ⟨rfl, HR.out⟩
    · go_wp2_with fail
      have CK := HK'.out w5 x5 c5 z s _ _ B5.out R5.out Z5.out I6.out
      rw [HL.out] at CK
      refine CK.mono ?_
      rintro e w6 ⟨rfl, hR⟩
      have HR := hid hR
      clear hR
      go_wp2_with fail
      go_ret
      exact ⟨rfl, HR.out⟩
  · simp at hst

theorem addq_name {y : Option Addr} {d : Nat} (g : Nat) (k : Int) (q : Qn) (w : World) (hn : Strs w y d q.N) (hk : Nm.checkN (q.N.map Nm.bs) = k) (k0 : ¬ k = 0) :
    Calls Tryd.prog 45 #[.pointer (some ⟨g, 0, none⟩), .agg #[.slice y q.N.length d, .int .i64 q.ty, .int .i64 q.cl]] w fun e w' => e = .returned (.iface 29 (.int .i64 k)) ∧ Below w.heap.size w w' := by
  have K := hid hk
  have Z := hid k0
  clear hk k0
  go_enter Tryd.func45, Tryd.ntmps45
  go_wp2_with fail
  have B0 : Below w.heap.size w _ := (Below.refl _ w).alloc (Nat.le_refl _) (.cells #[.slice y q.N.length d, .int .i64 q.ty, .int .i64 q.cl] 65)
  refine (ends_bad k q.N _ (hn.below B0) rfl K.out Z.out).mono ?_
  rintro e w1 ⟨rfl, rfl⟩
  go_wp2_with fail
  go_ret
  exact ⟨rfl, B0⟩

theorem addr_name {y dz : Option Addr} {d dc : Nat} (g : Nat) (k : Int) (q : Rn) (w : World) (hn : Strs w y d q.N) (hk : Nm.checkN (q.N.map Nm.bs) = k) (k0 : ¬ k = 0) :
    Calls Tryd.prog 46 #[.pointer (some ⟨g, 0, none⟩), .agg #[.slice y q.N.length d, .int .i64 q.ty, .int .i64 q.cl, .int .i64 q.ttl, .slice dz q.D.length dc]] w fun e w' => e = .returned (.iface 29 (.int .i64 k)) ∧ Below w.heap.size w w' := by
  have K := hid hk
  have Z := hid k0
  clear hk k0
  go_enter Tryd.func46, Tryd.ntmps46
  go_wp2_with fail
  have B0 : Below w.heap.size w _ := (Below.refl _ w).alloc (Nat.le_refl _) (.cells #[.slice y q.N.length d, .int .i64 q.ty, .int .i64 q.cl, .int .i64 q.ttl, .slice dz q.D.length dc] 67)
  refine (ends_bad k q.N _ (hn.below B0) rfl K.out Z.out).mono ?_
  rintro e w1 ⟨rfl, rfl⟩
  go_wp2_with fail
  go_ret
  exact ⟨rfl, B0⟩

set_option maxHeartbeats 2000000 in
set_option maxRecDepth 100000 in
theorem addq_range {y x0 : Option Addr} {d l0 cp0 : Nat} (g : Nat) (vm vf : Value) (q : Qn) (out0 st new : List Int) (w : World) (hn : Strs w y d q.N) (hk : Nm.checkN (q.N.map Nm.bs) = 0) (hq : ¬ ((0 ≤ q.ty ∧ q.ty ≤ 65535) ∧ (0 ≤ q.cl ∧ q.cl ≤ 65535)))
    (hg : Bl 104 w g #[.slice x0 l0 cp0, vm, vf]) (hs : Bys w x0 cp0 out0) (hl0 : out0.length = l0) (hm : out0.length ≤ 65535) (hst : st.length ≤ 1) (HS : StartsAt g q.N st w) (HP : packTold out0 q.N st = st ++ new) :
    Calls Tryd.prog 45 #[.pointer (some ⟨g, 0, none⟩), .agg #[.slice y q.N.length d, .int .i64 q.ty, .int .i64 q.cl]] w fun e w' => e = .returned (.iface 29 (.int .i64 6)) ∧ Below w.heap.size w w' := by
  have K := hid hk
  have HQ := hid hq
  have HS' := hid HS
  have HP' := hid HP
  clear hk hq HS HP
  go_enter Tryd.func45, Tryd.ntmps45
  go_wp2_with fail
  have B0 : Below w.heap.size w _ := (Below.refl _ w).alloc (Nat.le_refl _) (.cells #[.slice y q.N.length d, .int .i64 q.ty, .int .i64 q.cl] 65)
  have K0 := Bl.new 65 w #[.slice y q.N.length d, .int .i64 q.ty, .int .i64 q.cl]
  refine (ends_good q.N _ (hn.below B0) rfl K.out).mono ?_
  rintro e w1 ⟨z, s, rfl, hz1, b1⟩
  have B1 := grown_on B0 b1
  have K1 := K0.below b1
  clear B0 K0 b1
  go_wp2_with fail
  refine (HS'.out w1 z s B1 hz1).mono ?_
  rintro e w2 ⟨z2, s2, rfl, hz2, b2⟩
  have B2 := grown_on B1 b2
  have K2 := K1.below b2
  have E2 := hid (hz1.below b2)
  have D2 := hg.below B2
  have N2 := hid (hn.below B2)
  have S2 := hid (hs.below B2)
  have d0 := D2.cell (i := 0) rfl
  have k0 : w2.cell? ⟨w.heap.size, 0, none⟩ = some (.slice y q.N.length d) := K2.cell (i := 0) rfl
  have HB := hid B2
  have HKK := hid K2
  have hgl : g < w2.heap.size := D2.lt
  have hwl : w.heap.size < w2.heap.size := K2.lt
  have I2 := hid hz2
  clear B1 K1 b2 hz1 hz2 B2 K2 D2 hs hn hg
  go_wp2_with fail
  have CP : Hid (∀ u, Below w2.heap.size w2 u → Calls Tryd.prog 66 #[.slice x0 l0 cp0, .slice z2 st.length s2, .slice y q.N.length d] u (PackOwn (packOut out0 q.N st) (st ++ new) u)) := hid (fun u hu => pack_own _ _ out0 st q.N u (S2.out.below hu) (I2.out.below hu) (N2.out.below hu) hl0 rfl rfl (by omega) (by omega) K.out rfl HP'.out)
  have PK : Hid (∀ u, Below w2.heap.size w2 u → u.cell? ⟨g, 0, none⟩ = some (.slice x0 l0 cp0) ∧ u.cell? ⟨w.heap.size, 0, none⟩ = some (.slice y q.N.length d) ∧ Below w2.heap.size w2 u) := hid (fun u hu => ⟨(hu.cell (p := ⟨g, 0, none⟩) hgl).trans d0, (hu.cell (p := ⟨w.heap.size, 0, none⟩) hwl).trans k0, hu⟩)
  go_region_held3 (fun u => u.cell? ⟨g, 0, none⟩ = some (.slice x0 l0 cp0) ∧ u.cell? ⟨w.heap.size, 0, none⟩ = some (.slice y q.N.length d) ∧ Below w2.heap.size w2 u) (with_reducible (first | assumption | exact PK.out _ (Below.drew (Below.refl _ _)) | exact PK.out _ HB3))
    (first
      | (go_at_call 66; refine (CP.out _ (Below.drew (Below.refl _ _))).mono ?_; rintro e w3 ⟨v3, u3, rfl, hr3, hi3, b3, hl3, hb3, hl4, hb4⟩; have HB3 : Below w2.heap.size w2 w3 := grown_on (Below.drew (Below.refl _ _)) b3))
  have K3 := HKK.out.below HB3
  have q1 : w3.cell? ⟨w.heap.size, 1, none⟩ = some (.int .i64 q.ty) := K3.cell (i := 1) rfl
  have q2 : w3.cell? ⟨w.heap.size, 2, none⟩ = some (.int .i64 q.cl) := K3.cell (i := 2) rfl
  have B5 := hid (grown_on HB.out HB3)
  clear d0 k0 CP PK HB3 K3 HKK hr3 hi3 b3
  by_cases h1 : 0 ≤ q.ty ∧ q.ty ≤ 65535
  · have F1 := hid (decide_eq_true h1)
    have F2 : Hid (decide (0 ≤ q.cl ∧ q.cl ≤ 65535) = false) := hid (decide_eq_false (fun h2 => HQ.out ⟨h1, h2⟩))
    clear h1
    go_wp2_with fail
    refine (rfits_at true q.ty 65535 _ F1.out).mono ?_
    rintro e w' ⟨rfl, rfl⟩
    go_wp2_with fail
    refine (rfits_at false q.cl 65535 _ F2.out).mono ?_
    rintro e w' ⟨rfl, rfl⟩
    go_wp2_with fail
    go_ret
    exact ⟨rfl, B5.out⟩
  · have F1 : Hid (decide (0 ≤ q.ty ∧ q.ty ≤ 65535) = false) := hid (decide_eq_false h1)
    clear h1
    go_wp2_with fail
    refine (rfits_at false q.ty 65535 _ F1.out).mono ?_
    rintro e w' ⟨rfl, rfl⟩
    go_wp2_with fail
    go_ret
    exact ⟨rfl, B5.out⟩

set_option maxHeartbeats 2000000 in
set_option maxRecDepth 100000 in
theorem addr_core {y x0 dz : Option Addr} {d l0 cp0 dc : Nat} (g : Nat) (vm vf : Value) (q : Rn) (out0 out1 st new : List Int) (R : World → Prop) (w : World) (hn : Strs w y d q.N) (hD : Bys w dz dc q.D) (hdz : dz = none → dc = 0) (hk : rE q = 0)
    (hg : Bl 104 w g #[.slice x0 l0 cp0, vm, vf]) (hs : Bys w x0 cp0 out0) (hl0 : out0.length = l0) (hm : out0.length ≤ 65535) (hst : st.length ≤ 1) (HS : StartsAt g q.N st w) (HP : packTold out0 q.N st = st ++ new) (HO : packOut out0 q.N st ++ fieldsN q.ty q.cl q.ttl q.D = out1) (HK : KeepAt g q.N out1 new R w) :
    Calls Tryd.prog 46 #[.pointer (some ⟨g, 0, none⟩), .agg #[.slice y q.N.length d, .int .i64 q.ty, .int .i64 q.cl, .int .i64 q.ttl, .slice dz q.D.length dc]] w fun e w' => e = .returned .nilIface ∧ R w' := by
  have K := hid (recE_zero hk).1
  have KE := hid hk
  have HS' := hid HS
  have HP' := hid HP
  have HO' := hid HO
  have HK' := hid HK
  clear hk HS HP HO HK
  go_enter Tryd.func46, Tryd.ntmps46
  go_wp2_with fail
  have B0 : Below w.heap.size w _ := (Below.refl _ w).alloc (Nat.le_refl _) (.cells #[.slice y q.N.length d, .int .i64 q.ty, .int .i64 q.cl, .int .i64 q.ttl, .slice dz q.D.length dc] 67)
  have K0 := Bl.new 67 w #[.slice y q.N.length d, .int .i64 q.ty, .int .i64 q.cl, .int .i64 q.ttl, .slice dz q.D.length dc]
  refine (ends_good q.N _ (hn.below B0) rfl K.out).mono ?_
  rintro e w1 ⟨z, s, rfl, hz1, b1⟩
  have B1 := grown_on B0 b1
  have K1 := K0.below b1
  clear B0 K0 b1
  go_wp2_with fail
  refine (HS'.out w1 z s B1 hz1).mono ?_
  rintro e w2 ⟨z2, s2, rfl, hz2, b2⟩
  have B2 := grown_on B1 b2
  have K2 := K1.below b2
  have E2 := hid (hz1.below b2)
  have D2 := hg.below B2
  have N2 := hid (hn.below B2)
  have S2 := hid (hs.below B2)
  have DD2 := hid (hD.below B2)
  have d0 := D2.cell (i := 0) rfl
  have k0 : w2.cell? ⟨w.heap.size, 0, none⟩ = some (.slice y q.N.length d) := K2.cell (i := 0) rfl
  have k1 : w2.cell? ⟨w.heap.size, 1, none⟩ = some (.int .i64 q.ty) := K2.cell (i := 1) rfl
  have k2 : w2.cell? ⟨w.heap.size, 2, none⟩ = some (.int .i64 q.cl) := K2.cell (i := 2) rfl
  have k3 : w2.cell? ⟨w.heap.size, 3, none⟩ = some (.int .i64 q.ttl) := K2.cell (i := 3) rfl
  have k4 : w2.cell? ⟨w.heap.size, 4, none⟩ = some (.slice dz q.D.length dc) := K2.cell (i := 4) rfl
  have HB := hid B2
  have hgl : g < w2.heap.size := D2.lt
  have hwl : w.heap.size < w2.heap.size := K2.lt
  have I2 := hid hz2
  clear B1 K1 b2 hz1 hz2 B2 K2 D2 hs hn hg hD
  go_wp2_with fail
  have CP : Hid (∀ u, Below w2.heap.size w2 u → Calls Tryd.prog 69 #[.slice x0 l0 cp0, .slice z2 st.length s2, .agg #[.slice y q.N.length d, .int .i64 q.ty, .int .i64 q.cl, .int .i64 q.ttl, .slice dz q.D.length dc]] u (WroteOwn out1 (st ++ new) u)) := hid (fun u hu => rwrite_good _ _ out0 st q.D q.N q.ty q.cl q.ttl u (S2.out.below hu) (I2.out.below hu) (N2.out.below hu) (DD2.out.below hu) hdz hl0 rfl rfl rfl (by omega) (by omega) KE.out HO'.out HP'.out)
  have PK : Hid (∀ u, Below w2.heap.size w2 u → u.cell? ⟨g, 0, none⟩ = some (.slice x0 l0 cp0) ∧ u.cell? ⟨w.heap.size, 0, none⟩ = some (.slice y q.N.length d) ∧ u.cell? ⟨w.heap.size, 1, none⟩ = some (.int .i64 q.ty) ∧ u.cell? ⟨w.heap.size, 2, none⟩ = some (.int .i64 q.cl) ∧ u.cell? ⟨w.heap.size, 3, none⟩ = some (.int .i64 q.ttl) ∧ u.cell? ⟨w.heap.size, 4, none⟩ = some (.slice dz q.D.length dc) ∧ Below w2.heap.size w2 u) := hid (fun u hu => ⟨(hu.cell (p := ⟨g, 0, none⟩) hgl).trans d0, (hu.cell (p := ⟨w.heap.size, 0, none⟩) hwl).trans k0, (hu.cell (p := ⟨w.heap.size, 1, none⟩) hwl).trans k1, (hu.cell (p := ⟨w.heap.size, 2, none⟩) hwl).trans k2, (hu.cell (p := ⟨w.heap.size, 3, none⟩) hwl).trans k3, (hu.cell (p := ⟨w.heap.size, 4, none⟩) hwl).trans k4, hu⟩)
  go_region_held3 (fun u => u.cell? ⟨g, 0, none⟩ = some (.slice x0 l0 cp0) ∧ u.cell? ⟨w.heap.size, 0, none⟩ = some (.slice y q.N.length d) ∧ u.cell? ⟨w.heap.size, 1, none⟩ = some (.int .i64 q.ty) ∧ u.cell? ⟨w.heap.size, 2, none⟩ = some (.int .i64 q.cl) ∧ u.cell? ⟨w.heap.size, 3, none⟩ = some (.int .i64 q.ttl) ∧ u.cell? ⟨w.heap.size, 4, none⟩ = some (.slice dz q.D.length dc) ∧ Below w2.heap.size w2 u) (with_reducible (first | assumption | exact PK.out _ (Below.drew (Below.refl _ _)) | exact PK.out _ HB3))
    (first
      | (go_at_call 69; refine (CP.out _ (Below.drew (Below.refl _ _))).mono ?_; rintro e w3 ⟨v3, u3, rfl, hr3, hi3, b3, hl3, hb3, hl4, hb4⟩; have HB3 : Below w2.heap.size w2 w3 := grown_on (Below.drew (Below.refl _ _)) b3))
  have hr3' : Rowb w3 w2.heap.size v3 out1 := hr3
  have hi3' : Rowi w3 w2.heap.size u3 (st ++ new) := hi3
  obtain ⟨x5, c5, rfl⟩ := rowb_len hr3' rfl
  have R5 : Hid (Rowb w3 w.heap.size (.slice x5 out1.length c5) out1) := hid (owns_base hr3' (Nat.le_of_lt hwl))
  obtain ⟨y5, t5, rfl, I5⟩ := rowi_ints hi3' hl4 hb4
  have Z5 := hid (E2.out.below HB3)
  have B5 := hid (grown_on HB.out HB3)
  have hcap := I5.1
  have II := hid I5
  clear hr3 hi3 b3 hr3' hi3' I5 d0 k0 k1 k2 k3 k4 CP PK HB3
  rcases st with _ | ⟨p, _ | ⟨p2, st⟩⟩
  · have I6 : Hid (Ints w3 y5 t5 new) := hid II.out
    obtain ⟨L, hL⟩ : ∃ L, new.length = L := ⟨_, rfl⟩
    have HL := hid hL
    simp only [List.nil_append, List.length_nil] at *
    rw [hL] at hcap ⊢
    clear hL
    go_wp2_with fail
    have CK := HK'.out w3 x5 c5 z s y5 t5 B5.out R5.out Z5.out I6.out
    rw [HL.out] at CK
    refine CK.mono ?_
    rintro e w6 ⟨rfl, hR⟩
    have HR := hid hR
    clear hR
    go_wp2_with fail
    go_ret
    exact ⟨rfl, HR.out⟩
  · obtain ⟨L, hL⟩ : ∃ L, new.length = L := ⟨_, rfl⟩
    have HL := hid hL
    obtain ⟨b5, o5, rfl⟩ : ∃ b off, y5 = some ⟨b, off, none⟩ := by
      rcases II.out.2.2.2 with hd | ⟨b, off, hx, _⟩
      · simp at hd
      · exact ⟨b, off, hx⟩
    have e1 : ([p] ++ new).length = L + 1 := by rw [List.length_append, hL]; simp; omega
    rw [e1] at hcap ⊢
    have I6 : Hid (Ints w3 (some ⟨b5, o5 + 1, none⟩) (t5 - 1) new) := hid (by
      have := ints_drop (k := 1) II.out (by simp)
      simpa using this)
    clear e1 hL
    have hl1 : (1 : Int) ≤ (L : Int) + 1 := by omega
    by_cases ct : t5 = 1
    · subst ct
      have hl0 : L = 0 := by omega
      subst hl0
      go_wp2_with fail
      have CK := HK'.out w3 x5 c5 z s (some ⟨b5, o5, none⟩) 0 B5.out R5.out Z5.out (by rw [List.length_eq_zero_iff.1 HL.out]; exact Ints.nil _ _ _)
      rw [HL.out] at CK
      refine CK.mono ?_
      rintro e w6 ⟨rfl, hR⟩
      have HR := hid hR
      clear hR
      go_wp2_with fail
      go_ret
      exact ⟨rfl, HR.out⟩
    · go_wp2_with fail
      have CK := HK'.out w3 x5 c5 z s _ _ B5.out R5.out Z5.out I6.out
      rw [HL.out] at CK
      refine CK.mono ?_
      rintro e w6 ⟨rfl, hR⟩
      have HR := hid hR
      clear hR
      go_wp2_with fail
      go_ret
      exact ⟨rfl, HR.out⟩
  · simp at hst

set_option maxHeartbeats 2000000 in
set_option maxRecDepth 100000 in
theorem addr_bad {y x0 dz : Option Addr} {d l0 cp0 dc : Nat} (g : Nat) (k : Int) (vm vf : Value) (q : Rn) (out0 st : List Int) (w : World) (hn : Strs w y d q.N) (hD : Bys w dz dc q.D) (hk : rE q = k) (hk0 : ¬ k = 0) (hc : Nm.checkN (q.N.map Nm.bs) = 0)
    (hg : Bl 104 w g #[.slice x0 l0 cp0, vm, vf]) (hs : Bys w x0 cp0 out0) (hl0 : out0.length = l0) (hm : out0.length ≤ 65535) (hst : st.length ≤ 1) (HS : StartsAt g q.N st w) :
    Calls Tryd.prog 46 #[.pointer (some ⟨g, 0, none⟩), .agg #[.slice y q.N.length d, .int .i64 q.ty, .int .i64 q.cl, .int .i64 q.ttl, .slice dz q.D.length dc]] w fun e w' => e = .returned (.iface 29 (.int .i64 k)) ∧ Below w.heap.size w w' := by
  have K := hid hc
  have KE := hid hk
  have KZ := hid hk0
  have HS' := hid HS
  clear hk hk0 hc HS
  go_enter Tryd.func46, Tryd.ntmps46
  go_wp2_with fail
  have B0 : Below w.heap.size w _ := (Below.refl _ w).alloc (Nat.le_refl _) (.cells #[.slice y q.N.length d, .int .i64 q.ty, .int .i64 q.cl, .int .i64 q.ttl, .slice dz q.D.length dc] 67)
  have K0 := Bl.new 67 w #[.slice y q.N.length d, .int .i64 q.ty, .int .i64 q.cl, .int .i64 q.ttl, .slice dz q.D.length dc]
  refine (ends_good q.N _ (hn.below B0) rfl K.out).mono ?_
  rintro e w1 ⟨z, s, rfl, hz1, b1⟩
  have B1 := grown_on B0 b1
  have K1 := K0.below b1
  clear B0 K0 b1
  go_wp2_with fail
  refine (HS'.out w1 z s B1 hz1).mono ?_
  rintro e w2 ⟨z2, s2, rfl, hz2, b2⟩
  have B2 := grown_on B1 b2
  have K2 := K1.below b2
  have E2 := hid (hz1.below b2)
  have D2 := hg.below B2
  have N2 := hid (hn.below B2)
  have S2 := hid (hs.below B2)
  have DD2 := hid (hD.below B2)
  have d0 := D2.cell (i := 0) rfl
  have k0 : w2.cell? ⟨w.heap.size, 0, none⟩ = some (.slice y q.N.length d) := K2.cell (i := 0) rfl
  have k1 : w2.cell? ⟨w.heap.size, 1, none⟩ = some (.int .i64 q.ty) := K2.cell (i := 1) rfl
  have k2 : w2.cell? ⟨w.heap.size, 2, none⟩ = some (.int .i64 q.cl) := K2.cell (i := 2) rfl
  have k3 : w2.cell? ⟨w.heap.size, 3, none⟩ = some (.int .i64 q.ttl) := K2.cell (i := 3) rfl
  have k4 : w2.cell? ⟨w.heap.size, 4, none⟩ = some (.slice dz q.D.length dc) := K2.cell (i := 4) rfl
  have HB := hid B2
  have hgl : g < w2.heap.size := D2.lt
  have hwl : w.heap.size < w2.heap.size := K2.lt
  have I2 := hid hz2
  clear B1 K1 b2 hz1 hz2 B2 K2 D2 hs hn hg hD
  go_wp2_with fail
  have CP : Hid (∀ u, Below w2.heap.size w2 u → Calls Tryd.prog 69 #[.slice x0 l0 cp0, .slice z2 st.length s2, .agg #[.slice y q.N.length d, .int .i64 q.ty, .int .i64 q.cl, .int .i64 q.ttl, .slice dz q.D.length dc]] u fun e u' => e = .returned (.tuple #[.slice none 0 0, .slice none 0 0, .iface 29 (.int .i64 k)]) ∧ Below u.heap.size u u') := hid (fun u hu => rwrite_bad k out0 st q.D q.N q.ty q.cl q.ttl u (S2.out.below hu) (I2.out.below hu) (N2.out.below hu) hl0 rfl rfl rfl (by omega) (by omega) DD2.out.2.1 KE.out KZ.out)
  have PK : Hid (∀ u, Below w2.heap.size w2 u → u.cell? ⟨g, 0, none⟩ = some (.slice x0 l0 cp0) ∧ u.cell? ⟨w.heap.size, 0, none⟩ = some (.slice y q.N.length d) ∧ u.cell? ⟨w.heap.size, 1, none⟩ = some (.int .i64 q.ty) ∧ u.cell? ⟨w.heap.size, 2, none⟩ = some (.int .i64 q.cl) ∧ u.cell? ⟨w.heap.size, 3, none⟩ = some (.int .i64 q.ttl) ∧ u.cell? ⟨w.heap.size, 4, none⟩ = some (.slice dz q.D.length dc) ∧ Below w2.heap.size w2 u) := hid (fun u hu => ⟨(hu.cell (p := ⟨g, 0, none⟩) hgl).trans d0, (hu.cell (p := ⟨w.heap.size, 0, none⟩) hwl).trans k0, (hu.cell (p := ⟨w.heap.size, 1, none⟩) hwl).trans k1, (hu.cell (p := ⟨w.heap.size, 2, none⟩) hwl).trans k2, (hu.cell (p := ⟨w.heap.size, 3, none⟩) hwl).trans k3, (hu.cell (p := ⟨w.heap.size, 4, none⟩) hwl).trans k4, hu⟩)
  go_region_held3 (fun u => u.cell? ⟨g, 0, none⟩ = some (.slice x0 l0 cp0) ∧ u.cell? ⟨w.heap.size, 0, none⟩ = some (.slice y q.N.length d) ∧ u.cell? ⟨w.heap.size, 1, none⟩ = some (.int .i64 q.ty) ∧ u.cell? ⟨w.heap.size, 2, none⟩ = some (.int .i64 q.cl) ∧ u.cell? ⟨w.heap.size, 3, none⟩ = some (.int .i64 q.ttl) ∧ u.cell? ⟨w.heap.size, 4, none⟩ = some (.slice dz q.D.length dc) ∧ Below w2.heap.size w2 u) (with_reducible (first | assumption | exact PK.out _ (Below.drew (Below.refl _ _)) | exact PK.out _ HB3))
    (first
      | (go_at_call 69; refine (CP.out _ (Below.drew (Below.refl _ _))).mono ?_; rintro e w3 ⟨rfl, b3⟩; have HB3 : Below w2.heap.size w2 w3 := grown_on (Below.drew (Below.refl _ _)) b3))
  have B5 := hid (grown_on HB.out HB3)
  clear b3 d0 k0 k1 k2 k3 k4 CP PK HB3
  go_wp2_with fail
  go_ret
  exact ⟨rfl, B5.out⟩

end Go.Proofs.YtbbgabdiikdjpaaDoor
