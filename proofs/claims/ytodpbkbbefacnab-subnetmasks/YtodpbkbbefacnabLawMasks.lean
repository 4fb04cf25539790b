/-
  The walk of the law SubnetMasks.
-/
import Derived.Test.YtodpbkbbefacnabSubEnc
import Derived.Test.YtodpbkbbefacnabCls
import Derived.Test.YtodpbkbbefacnabLawNests
namespace Go.Proofs.Ytodpbkbbefacnab
open Go.RowKit Go.Deep

theorem errV_ne {k : Int} (h : ¬ k = 0) : errV k = .iface 64 (.int .i64 k) := errV_some h

theorem in_less {b A : List Int} {f m k : Int} (hk : 0 ≤ k) (hkm : k ≤ m) (h : inN b ⟨f, m, 0, A⟩) : inN b ⟨f, k, 0, A⟩ := by
  obtain ⟨h1, h2, h3⟩ := h
  obtain ⟨hfam, hw, hf⟩ := snE_zero h1
  simp only at hfam hw hf h2 h3
  have f1 := hf.1
  have f2 := hf.2
  simp only at f1 f2
  refine ⟨snE_of (k := A.length) hw (by omega) rfl ⟨⟨hk, by simp only; omega⟩, f2⟩, h2, ?_⟩
  exact mask_less h3 (by simp only; omega)

theorem below2 {w w5 : World} (h : Below w.heap.size w w5) (o1 o2 : Obj) : Below w.heap.size w ((w5.alloc o1).alloc o2) := (h.alloc h.size _).alloc (Nat.le_trans h.size (by simp)) _

theorem box1 {w5 w6 : World} {C : Array Value} {t : TypeId} {o2 : Obj} (d : Below ((w5.alloc (.cells C t)).alloc o2).heap.size ((w5.alloc (.cells C t)).alloc o2) w6) : Bl t w6 w5.heap.size C :=
  ((Bl.new t w5 C).below ((Below.refl _ _).alloc (Nat.le_refl _) o2)).below d

theorem box2 {w5 w6 : World} {C : Array Value} {t : TypeId} {o1 : Obj} (d : Below ((w5.alloc o1).alloc (.cells C t)).heap.size ((w5.alloc o1).alloc (.cells C t)) w6) : Bl t w6 (w5.heap.size + 1) C := by
  have := (Bl.new t (w5.alloc o1) C).below d
  rwa [World.size_alloc] at this

set_option maxHeartbeats 4000000 in
set_option maxRecDepth 100000 in
theorem masks_bad {xa xb : Option Addr} {ca cb la lb : Nat} (a b : List Int) (m n f : Int) (w : World) (ha : Bys w xa ca a) (hb : Bys w xb cb b) (hna : xa = none → ca = 0) (_hnb : xb = none → cb = 0)
    (hla : a.length = la) (hlb : b.length = lb) (hm0 : 0 ≤ m) (hm : m ≤ 8 * a.length) (hn0 : 0 ≤ n) (hn : n ≤ 8 * a.length) (h0 : ¬ snE ⟨f, m, 0, a⟩ = 0) :
    Calls Try.prog 3 #[.slice xa la ca, .slice xb lb cb, .int .i64 m, .int .i64 n, .int .i64 f] w fun e w' => e = .returned (.bool true) ∧ Below w.heap.size w w' := by
  have hal : a.length ≤ 200000000000000 := ha.2.1
  have hbl : b.length ≤ 200000000000000 := hb.2.1
  have H0 := hid (show maskN n.toNat (maskN m.toNat a) = maskN (min m n).toNat a by rw [maskN_maskN]; congr 1; omega)
  obtain ⟨k, hk⟩ : ∃ k, k = min m n := ⟨_, rfl⟩
  rw [← hk] at H0
  have hk0 : 0 ≤ k := by omega
  have hkm : k ≤ m := by omega
  have hka : k ≤ 8 * a.length := by omega
  have HIL := hid (fun (h : inN b ⟨f, m, 0, a⟩) => in_less hk0 hkm h)
  have hmn : (m ≤ n ∧ m = k) ∨ (n < m ∧ n = k) := by omega
  have HI : Hid (decide (inN b ⟨f, m, 0, a⟩) = false) := hid (decide_eq_false (fun h => h0 h.1))
  clear hk hkm
  rcases hmn with ⟨hmn, rfl⟩ | ⟨hmn, rfl⟩
  all_goals
    go_enter Try.func3, Try.ntmps3
    go_wp2_with fail
    refine (smasked_ok _).mono ?_
    rintro e w1 ⟨rfl, d1⟩
    have B1 := hid d1
    clear d1
    go_wp2_with fail
    refine (mask_good m a w1 (ha.below B1.out) hna hm0 hm hla).mono ?_
    rintro e w2 ⟨g2, rfl, k2, d2⟩
    have B2 := hid (grown_on B1.out d2)
    have K2 := hid k2
    clear d2 k2
    go_wp2_with fail
    refine (mask_good _ _ w2 K2.out (fun q => by cases q) hn0 (by rw [maskN_len]; exact hn) (by rw [maskN_len]; exact hla)).mono ?_
    rintro e w3 ⟨g3, rfl, k3, d3⟩
    have B3 := hid (grown_on B2.out d3)
    have K3 := hid k3
    have J2 := hid (K2.out.below d3)
    clear d3 k3 K2
    go_wp2_with fail
    refine (mask_good _ a w3 (ha.below B3.out) hna hk0 hka hla).mono ?_
    rintro e w4 ⟨g4, rfl, k4, d4⟩
    have B4 := hid (grown_on B3.out d4)
    have K4 := hid k4
    have J3 := hid (K3.out.below d4)
    have L2 := hid (J2.out.below d4)
    clear d4 k4 K3 J2
    go_wp2_with fail
    refine (bytes_at true _ _ w4 J3.out K4.out (by rw [maskN_len, maskN_len]; exact hla) (by rw [maskN_len]; exact hla) (decide_eq_true H0.out)).mono ?_
    rintro e w5 ⟨rfl, d5⟩
    have B5 := hid (grown_on B4.out d5)
    have M2 := hid (L2.out.below d5)
    clear d5 J3 K4 L2 B1 B2 B3 B4
    go_wp2_with fail
    refine (in_at (xs := xa) (cs := ca) (ls := la) false b ⟨f, m, 0, a⟩ _ (hb.below (below2 B5.out _ _)) (ha.below (below2 B5.out _ _)) hlb hla HI.out).mono ?_
    rintro e w6 ⟨rfl, d6⟩
    have B6 := hid (grown_on (below2 B5.out _ _) d6)
    have X := box1 d6
    have N2 := hid ((M2.out.below (below2 (Below.refl _ _) _ _)).below d6)
    have s0 := X.cell (i := 0) rfl
    have s1 := X.cell (i := 1) rfl
    have s2 := X.cell (i := 2) rfl
    have s3 := X.cell (i := 3) rfl
    have HX := hid X
    clear d6 X M2 B5
    go_wp2_with fail
    refine (encode_bad (x := xa) (c := ca) (l := la) ⟨f, m, 0, a⟩ w6 hla hal h0).mono ?_
    rintro e w7 ⟨rfl, d7⟩
    have B7 := hid (grown_on B6.out d7)
    have X := HX.out.below d7
    clear s0 s1 s2 s3
    have s0 := X.cell (i := 0) rfl
    have s1 := X.cell (i := 1) rfl
    have s2 := X.cell (i := 2) rfl
    have s3 := X.cell (i := 3) rfl
    have HX7 := hid X
    rw [errV_some h0]
    clear d7 X HX
    go_wp2_with fail
    refine (in_at (xs := xa) (cs := ca) (ls := la) false b ⟨f, m, 0, a⟩ w7 (hb.below B7.out) (ha.below B7.out) hlb hla HI.out).mono ?_
    rintro e w8 ⟨rfl, d8⟩
    have B8 := hid (grown_on B7.out d8)
    clear d8
    go_wp2_with fail
    go_ret
    exact ⟨rfl, B8.out⟩

set_option maxHeartbeats 4000000 in
set_option maxRecDepth 100000 in
theorem masks_out {xa xb : Option Addr} {ca cb la lb : Nat} (a b : List Int) (m n f : Int) (w : World) (ha : Bys w xa ca a) (hb : Bys w xb cb b) (hna : xa = none → ca = 0) (hnb : xb = none → cb = 0)
    (hla : a.length = la) (hlb : b.length = lb) (hm0 : 0 ≤ m) (hm : m ≤ 8 * a.length) (hn0 : 0 ≤ n) (hn : n ≤ 8 * a.length) (h0 : Hid (snE ⟨f, m, 0, a⟩ = 0)) (HI : Hid (decide (inN b ⟨f, m, 0, a⟩) = false)) (hmb : m ≤ 8 * b.length) (R3 : Bool) (H3 : Hid (decide (maskN m.toNat b = maskN m.toNat a) = R3)) (hne : ((la : Int) == (lb : Int)) = false) :
    Calls Try.prog 3 #[.slice xa la ca, .slice xb lb cb, .int .i64 m, .int .i64 n, .int .i64 f] w fun e w' => e = .returned (.bool true) ∧ Below w.heap.size w w' := by
  have hal : a.length ≤ 200000000000000 := ha.2.1
  have hbl : b.length ≤ 200000000000000 := hb.2.1
  have H0 := hid (show maskN n.toNat (maskN m.toNat a) = maskN (min m n).toNat a by rw [maskN_maskN]; congr 1; omega)
  obtain ⟨k, hk⟩ : ∃ k, k = min m n := ⟨_, rfl⟩
  rw [← hk] at H0
  have hk0 : 0 ≤ k := by omega
  have hkm : k ≤ m := by omega
  have hka : k ≤ 8 * a.length := by omega
  have HIL := hid (fun (h : inN b ⟨f, m, 0, a⟩) => in_less hk0 hkm h)
  have hmn : (m ≤ n ∧ m = k) ∨ (n < m ∧ n = k) := by omega
  clear hk hkm
  rcases hmn with ⟨hmn, rfl⟩ | ⟨hmn, rfl⟩
  all_goals
    go_enter Try.func3, Try.ntmps3
    go_wp2_with fail
    refine (smasked_ok _).mono ?_
    rintro e w1 ⟨rfl, d1⟩
    have B1 := hid d1
    clear d1
    go_wp2_with fail
    refine (mask_good m a w1 (ha.below B1.out) hna hm0 hm hla).mono ?_
    rintro e w2 ⟨g2, rfl, k2, d2⟩
    have B2 := hid (grown_on B1.out d2)
    have K2 := hid k2
    clear d2 k2
    go_wp2_with fail
    refine (mask_good _ _ w2 K2.out (fun q => by cases q) hn0 (by rw [maskN_len]; exact hn) (by rw [maskN_len]; exact hla)).mono ?_
    rintro e w3 ⟨g3, rfl, k3, d3⟩
    have B3 := hid (grown_on B2.out d3)
    have K3 := hid k3
    have J2 := hid (K2.out.below d3)
    clear d3 k3 K2
    go_wp2_with fail
    refine (mask_good _ a w3 (ha.below B3.out) hna hk0 hka hla).mono ?_
    rintro e w4 ⟨g4, rfl, k4, d4⟩
    have B4 := hid (grown_on B3.out d4)
    have K4 := hid k4
    have J3 := hid (K3.out.below d4)
    have L2 := hid (J2.out.below d4)
    clear d4 k4 K3 J2
    go_wp2_with fail
    refine (bytes_at true _ _ w4 J3.out K4.out (by rw [maskN_len, maskN_len]; exact hla) (by rw [maskN_len]; exact hla) (decide_eq_true H0.out)).mono ?_
    rintro e w5 ⟨rfl, d5⟩
    have B5 := hid (grown_on B4.out d5)
    have M2 := hid (L2.out.below d5)
    clear d5 J3 K4 L2 B1 B2 B3 B4
    go_wp2_with fail
    refine (in_at (xs := xa) (cs := ca) (ls := la) false b ⟨f, m, 0, a⟩ _ (hb.below (below2 B5.out _ _)) (ha.below (below2 B5.out _ _)) hlb hla HI.out).mono ?_
    rintro e w6 ⟨rfl, d6⟩
    have B6 := hid (grown_on (below2 B5.out _ _) d6)
    have X := box1 d6
    have N2 := hid ((M2.out.below (below2 (Below.refl _ _) _ _)).below d6)
    have s0 := X.cell (i := 0) rfl
    have s1 := X.cell (i := 1) rfl
    have s2 := X.cell (i := 2) rfl
    have s3 := X.cell (i := 3) rfl
    have HX := hid X
    clear d6 X M2 B5
    go_wp2_with fail
    refine (encode_good (x := xa) (c := ca) (l := la) ⟨f, m, 0, a⟩ w6 (ha.below B6.out) hla h0.out).mono ?_
    rintro e w7 ⟨gb, go, gc, rfl, _, _, d7⟩
    have B7 := hid (grown_on B6.out d7)
    have X := HX.out.below d7
    have O2 := hid (N2.out.below d7)
    have HX7 := hid X
    clear d7 X HX s0 s1 s2 s3 N2
    go_wp2_with fail
    refine (mask_good m b w7 (hb.below B7.out) hnb hm0 hmb hlb).mono ?_
    rintro e w8 ⟨g8, rfl, k8, d8⟩
    have B8 := hid (grown_on B7.out d8)
    have K8 := hid k8
    have HX8 := hid (HX7.out.below d8)
    have O8 := hid (O2.out.below d8)
    clear d8 k8 HX7 O2 B7
    go_wp2_with fail
    refine (bytes_at R3 _ _ w8 K8.out O8.out (by rw [maskN_len]; exact hlb) (by rw [maskN_len]; exact hla) H3.out).mono ?_
    rintro e w9 ⟨rfl, d9⟩
    have B9 := hid (grown_on B8.out d9)
    have HX9 := hid (HX8.out.below d9)
    have O9 := hid (O8.out.below d9)
    clear d9 K8 HX8 O8 B8
    go_wp2_with fail
    have xc0 : ∀ s : Cl w9, s.val.cell? ⟨w5.heap.size, 0, none⟩ = some (.int .i64 f) := fun s => (HX9.out.below s.hb).cell (i := 0) rfl
    have xc1 : ∀ s : Cl w9, s.val.cell? ⟨w5.heap.size, 1, none⟩ = some (.int .i64 m) := fun s => (HX9.out.below s.hb).cell (i := 1) rfl
    have xc2 : ∀ s : Cl w9, s.val.cell? ⟨w5.heap.size, 2, none⟩ = some (.int .i64 0) := fun s => (HX9.out.below s.hb).cell (i := 2) rfl
    have xc3 : ∀ s : Cl w9, s.val.cell? ⟨w5.heap.size, 3, none⟩ = some (.slice xa la ca) := fun s => (HX9.out.below s.hb).cell (i := 3) rfl
    have Q1 : Hid (∀ s : Cl w9, Calls Try.prog 10 #[.slice xa la ca, .agg #[.int .i64 f, .int .i64 m, .int .i64 0, .slice xa la ca]] s.val fun e w'' => e = .returned (.bool true) ∧ ∃ s' : Cl w9, w'' = s'.val) :=
      hid fun s => Calls.cl (in_at (xs := xa) (cs := ca) (ls := la) true a ⟨f, m, 0, a⟩ s.val ((ha.below B9.out).below s.hb) ((ha.below B9.out).below s.hb) hla hla (decide_eq_true ⟨h0.out, rfl, rfl⟩))
    have Q2 : Hid (∀ s : Cl w9, Calls Try.prog 10 #[.slice xb lb cb, .agg #[.int .i64 f, .int .i64 m, .int .i64 0, .slice xa la ca]] s.val fun e w'' => e = .returned (.bool false) ∧ ∃ s' : Cl w9, w'' = s'.val) :=
      hid fun s => Calls.cl (in_at (xs := xa) (cs := ca) (ls := la) false b ⟨f, m, 0, a⟩ s.val ((hb.below B9.out).below s.hb) ((ha.below B9.out).below s.hb) hlb hla HI.out)
    have BE : Hid (∀ u, (∃ s : Cl w9, u = s.val) → Below w.heap.size w u) := hid fun u ⟨s, hs⟩ => by rw [hs]; exact grown_on B9.out s.hb
    clear ha hb HX9 O9 HI h0 HIL H0 B9
    refine wp_region_class (w0 := w9) (by kernel_rfl) (by kernel_rfl) (Below.refl _ _) ?_
    repeat (go_big_quiet_step (first | (go_at_call_of 10 cb; exact Q2.out _) | (go_at_call 10; exact Q1.out _)))
    refine wpQuiet_nil ?_
    intro w10 hw10
    have B10 := hid (BE.out _ hw10)
    clear hw10
    go_wp2_with fail
    go_ret
    exact ⟨rfl, B10.out⟩

set_option maxHeartbeats 4000000 in
set_option maxRecDepth 100000 in
theorem masks_same {xa xb : Option Addr} {ca cb la lb : Nat} (a b : List Int) (m n f : Int) (w : World) (ha : Bys w xa ca a) (hb : Bys w xb cb b) (hna : xa = none → ca = 0) (hnb : xb = none → cb = 0)
    (hla : a.length = la) (hlb : b.length = lb) (hm0 : 0 ≤ m) (hm : m ≤ 8 * a.length) (hn0 : 0 ≤ n) (hn : n ≤ 8 * a.length) (h0 : Hid (snE ⟨f, m, 0, a⟩ = 0)) (HI : Hid (decide (inN b ⟨f, m, 0, a⟩) = false)) (hmb : m ≤ 8 * b.length) (H3 : Hid (decide (maskN m.toNat b = maskN m.toNat a) = false)) (hne : ((la : Int) == (lb : Int)) = true) :
    Calls Try.prog 3 #[.slice xa la ca, .slice xb lb cb, .int .i64 m, .int .i64 n, .int .i64 f] w fun e w' => e = .returned (.bool true) ∧ Below w.heap.size w w' := by
  have hal : a.length ≤ 200000000000000 := ha.2.1
  have hbl : b.length ≤ 200000000000000 := hb.2.1
  have H0 := hid (show maskN n.toNat (maskN m.toNat a) = maskN (min m n).toNat a by rw [maskN_maskN]; congr 1; omega)
  obtain ⟨k, hk⟩ : ∃ k, k = min m n := ⟨_, rfl⟩
  rw [← hk] at H0
  have hk0 : 0 ≤ k := by omega
  have hkm : k ≤ m := by omega
  have hka : k ≤ 8 * a.length := by omega
  have HIL := hid (fun (h : inN b ⟨f, m, 0, a⟩) => in_less hk0 hkm h)
  have hmn : (m ≤ n ∧ m = k) ∨ (n < m ∧ n = k) := by omega
  clear hk hkm
  rcases hmn with ⟨hmn, rfl⟩ | ⟨hmn, rfl⟩
  all_goals
    go_enter Try.func3, Try.ntmps3
    go_wp2_with fail
    refine (smasked_ok _).mono ?_
    rintro e w1 ⟨rfl, d1⟩
    have B1 := hid d1
    clear d1
    go_wp2_with fail
    refine (mask_good m a w1 (ha.below B1.out) hna hm0 hm hla).mono ?_
    rintro e w2 ⟨g2, rfl, k2, d2⟩
    have B2 := hid (grown_on B1.out d2)
    have K2 := hid k2
    clear d2 k2
    go_wp2_with fail
    refine (mask_good _ _ w2 K2.out (fun q => by cases q) hn0 (by rw [maskN_len]; exact hn) (by rw [maskN_len]; exact hla)).mono ?_
    rintro e w3 ⟨g3, rfl, k3, d3⟩
    have B3 := hid (grown_on B2.out d3)
    have K3 := hid k3
    have J2 := hid (K2.out.below d3)
    clear d3 k3 K2
    go_wp2_with fail
    refine (mask_good _ a w3 (ha.below B3.out) hna hk0 hka hla).mono ?_
    rintro e w4 ⟨g4, rfl, k4, d4⟩
    have B4 := hid (grown_on B3.out d4)
    have K4 := hid k4
    have J3 := hid (K3.out.below d4)
    have L2 := hid (J2.out.below d4)
    clear d4 k4 K3 J2
    go_wp2_with fail
    refine (bytes_at true _ _ w4 J3.out K4.out (by rw [maskN_len, maskN_len]; exact hla) (by rw [maskN_len]; exact hla) (decide_eq_true H0.out)).mono ?_
    rintro e w5 ⟨rfl, d5⟩
    have B5 := hid (grown_on B4.out d5)
    have M2 := hid (L2.out.below d5)
    clear d5 J3 K4 L2 B1 B2 B3 B4
    go_wp2_with fail
    refine (in_at (xs := xa) (cs := ca) (ls := la) false b ⟨f, m, 0, a⟩ _ (hb.below (below2 B5.out _ _)) (ha.below (below2 B5.out _ _)) hlb hla HI.out).mono ?_
    rintro e w6 ⟨rfl, d6⟩
    have B6 := hid (grown_on (below2 B5.out _ _) d6)
    have X := box1 d6
    have N2 := hid ((M2.out.below (below2 (Below.refl _ _) _ _)).below d6)
    have s0 := X.cell (i := 0) rfl
    have s1 := X.cell (i := 1) rfl
    have s2 := X.cell (i := 2) rfl
    have s3 := X.cell (i := 3) rfl
    have HX := hid X
    clear d6 X M2 B5
    go_wp2_with fail
    refine (encode_good (x := xa) (c := ca) (l := la) ⟨f, m, 0, a⟩ w6 (ha.below B6.out) hla h0.out).mono ?_
    rintro e w7 ⟨gb, go, gc, rfl, _, _, d7⟩
    have B7 := hid (grown_on B6.out d7)
    have X := HX.out.below d7
    have O2 := hid (N2.out.below d7)
    have HX7 := hid X
    clear d7 X HX s0 s1 s2 s3 N2
    go_wp2_with fail
    refine (mask_good m b w7 (hb.below B7.out) hnb hm0 hmb hlb).mono ?_
    rintro e w8 ⟨g8, rfl, k8, d8⟩
    have B8 := hid (grown_on B7.out d8)
    have K8 := hid k8
    have HX8 := hid (HX7.out.below d8)
    have O8 := hid (O2.out.below d8)
    clear d8 k8 HX7 O2 B7
    go_wp2_with fail
    refine (bytes_at false _ _ w8 K8.out O8.out (by rw [maskN_len]; exact hlb) (by rw [maskN_len]; exact hla) H3.out).mono ?_
    rintro e w9 ⟨rfl, d9⟩
    have B9 := hid (grown_on B8.out d9)
    have HX9 := hid (HX8.out.below d9)
    have O9 := hid (O8.out.below d9)
    clear d9 K8 HX8 O8 B8
    go_wp2_with fail
    have xc0 : ∀ s : Cl w9, s.val.cell? ⟨w5.heap.size, 0, none⟩ = some (.int .i64 f) := fun s => (HX9.out.below s.hb).cell (i := 0) rfl
    have xc1 : ∀ s : Cl w9, s.val.cell? ⟨w5.heap.size, 1, none⟩ = some (.int .i64 m) := fun s => (HX9.out.below s.hb).cell (i := 1) rfl
    have xc2 : ∀ s : Cl w9, s.val.cell? ⟨w5.heap.size, 2, none⟩ = some (.int .i64 0) := fun s => (HX9.out.below s.hb).cell (i := 2) rfl
    have xc3 : ∀ s : Cl w9, s.val.cell? ⟨w5.heap.size, 3, none⟩ = some (.slice xa la ca) := fun s => (HX9.out.below s.hb).cell (i := 3) rfl
    have Q1 : Hid (∀ s : Cl w9, Calls Try.prog 10 #[.slice xa la ca, .agg #[.int .i64 f, .int .i64 m, .int .i64 0, .slice xa la ca]] s.val fun e w'' => e = .returned (.bool true) ∧ ∃ s' : Cl w9, w'' = s'.val) :=
      hid fun s => Calls.cl (in_at (xs := xa) (cs := ca) (ls := la) true a ⟨f, m, 0, a⟩ s.val ((ha.below B9.out).below s.hb) ((ha.below B9.out).below s.hb) hla hla (decide_eq_true ⟨h0.out, rfl, rfl⟩))
    have Q2 : Hid (∀ s : Cl w9, Calls Try.prog 10 #[.slice xb lb cb, .agg #[.int .i64 f, .int .i64 m, .int .i64 0, .slice xa la ca]] s.val fun e w'' => e = .returned (.bool false) ∧ ∃ s' : Cl w9, w'' = s'.val) :=
      hid fun s => Calls.cl (in_at (xs := xa) (cs := ca) (ls := la) false b ⟨f, m, 0, a⟩ s.val ((hb.below B9.out).below s.hb) ((ha.below B9.out).below s.hb) hlb hla HI.out)
    have BE : Hid (∀ u, (∃ s : Cl w9, u = s.val) → Below w.heap.size w u) := hid fun u ⟨s, hs⟩ => by rw [hs]; exact grown_on B9.out s.hb
    clear ha hb HX9 O9 HI h0 HIL H0 B9
    refine wp_region_class (w0 := w9) (by kernel_rfl) (by kernel_rfl) (Below.refl _ _) ?_
    repeat (go_big_quiet_step (first | (go_at_call_of 10 cb; exact Q2.out _) | (go_at_call 10; exact Q1.out _)))
    refine wpQuiet_nil ?_
    intro w10 hw10
    have B10 := hid (BE.out _ hw10)
    clear hw10
    go_wp2_with fail
    go_ret
    exact ⟨rfl, B10.out⟩

set_option maxHeartbeats 4000000 in
set_option maxRecDepth 100000 in
theorem masks_far {xa xb : Option Addr} {ca cb la lb : Nat} (a b : List Int) (m n f : Int) (w : World) (ha : Bys w xa ca a) (hb : Bys w xb cb b) (hna : xa = none → ca = 0) (_hnb : xb = none → cb = 0)
    (hla : a.length = la) (hlb : b.length = lb) (hm0 : 0 ≤ m) (hm : m ≤ 8 * a.length) (hn0 : 0 ≤ n) (hn : n ≤ 8 * a.length) (h0 : Hid (snE ⟨f, m, 0, a⟩ = 0)) (HI : Hid (decide (inN b ⟨f, m, 0, a⟩) = false)) (hmb : ¬ (0 ≤ m ∧ m ≤ 8 * (lb : Int))) (R3 : Bool) (H3 : Hid (decide ([] = maskN m.toNat a) = R3)) :
    Calls Try.prog 3 #[.slice xa la ca, .slice xb lb cb, .int .i64 m, .int .i64 n, .int .i64 f] w fun e w' => e = .returned (.bool true) ∧ Below w.heap.size w w' := by
  have hal : a.length ≤ 200000000000000 := ha.2.1
  have hbl : b.length ≤ 200000000000000 := hb.2.1
  have H0 := hid (show maskN n.toNat (maskN m.toNat a) = maskN (min m n).toNat a by rw [maskN_maskN]; congr 1; omega)
  obtain ⟨k, hk⟩ : ∃ k, k = min m n := ⟨_, rfl⟩
  rw [← hk] at H0
  have hk0 : 0 ≤ k := by omega
  have hkm : k ≤ m := by omega
  have hka : k ≤ 8 * a.length := by omega
  have HIL := hid (fun (h : inN b ⟨f, m, 0, a⟩) => in_less hk0 hkm h)
  have hmn : (m ≤ n ∧ m = k) ∨ (n < m ∧ n = k) := by omega
  clear hk hkm
  rcases hmn with ⟨hmn, rfl⟩ | ⟨hmn, rfl⟩
  all_goals
    go_enter Try.func3, Try.ntmps3
    go_wp2_with fail
    refine (smasked_ok _).mono ?_
    rintro e w1 ⟨rfl, d1⟩
    have B1 := hid d1
    clear d1
    go_wp2_with fail
    refine (mask_good m a w1 (ha.below B1.out) hna hm0 hm hla).mono ?_
    rintro e w2 ⟨g2, rfl, k2, d2⟩
    have B2 := hid (grown_on B1.out d2)
    have K2 := hid k2
    clear d2 k2
    go_wp2_with fail
    refine (mask_good _ _ w2 K2.out (fun q => by cases q) hn0 (by rw [maskN_len]; exact hn) (by rw [maskN_len]; exact hla)).mono ?_
    rintro e w3 ⟨g3, rfl, k3, d3⟩
    have B3 := hid (grown_on B2.out d3)
    have K3 := hid k3
    have J2 := hid (K2.out.below d3)
    clear d3 k3 K2
    go_wp2_with fail
    refine (mask_good _ a w3 (ha.below B3.out) hna hk0 hka hla).mono ?_
    rintro e w4 ⟨g4, rfl, k4, d4⟩
    have B4 := hid (grown_on B3.out d4)
    have K4 := hid k4
    have J3 := hid (K3.out.below d4)
    have L2 := hid (J2.out.below d4)
    clear d4 k4 K3 J2
    go_wp2_with fail
    refine (bytes_at true _ _ w4 J3.out K4.out (by rw [maskN_len, maskN_len]; exact hla) (by rw [maskN_len]; exact hla) (decide_eq_true H0.out)).mono ?_
    rintro e w5 ⟨rfl, d5⟩
    have B5 := hid (grown_on B4.out d5)
    have M2 := hid (L2.out.below d5)
    clear d5 J3 K4 L2 B1 B2 B3 B4
    go_wp2_with fail
    refine (in_at (xs := xa) (cs := ca) (ls := la) false b ⟨f, m, 0, a⟩ _ (hb.below (below2 B5.out _ _)) (ha.below (below2 B5.out _ _)) hlb hla HI.out).mono ?_
    rintro e w6 ⟨rfl, d6⟩
    have B6 := hid (grown_on (below2 B5.out _ _) d6)
    have X := box1 d6
    have N2 := hid ((M2.out.below (below2 (Below.refl _ _) _ _)).below d6)
    have s0 := X.cell (i := 0) rfl
    have s1 := X.cell (i := 1) rfl
    have s2 := X.cell (i := 2) rfl
    have s3 := X.cell (i := 3) rfl
    have HX := hid X
    clear d6 X M2 B5
    go_wp2_with fail
    refine (encode_good (x := xa) (c := ca) (l := la) ⟨f, m, 0, a⟩ w6 (ha.below B6.out) hla h0.out).mono ?_
    rintro e w7 ⟨gb, go, gc, rfl, _, _, d7⟩
    have B7 := hid (grown_on B6.out d7)
    have X := HX.out.below d7
    have O2 := hid (N2.out.below d7)
    have HX7 := hid X
    clear d7 X HX s0 s1 s2 s3 N2
    go_wp2_with fail
    refine (mask_bad m w7 (by omega) hmb).mono ?_
    rintro e w8 ⟨rfl, rfl⟩
    rw [show errV 6 = .iface 64 (.int .i64 6) from rfl]
    go_wp2_with fail
    refine (bytes_at R3 [] _ w7 (Bys.nil _ none 0) O2.out rfl (by rw [maskN_len]; exact hla) H3.out).mono ?_
    rintro e w9 ⟨rfl, d9⟩
    have B9 := hid (grown_on B7.out d9)
    have HX9 := hid (HX7.out.below d9)
    have O9 := hid (O2.out.below d9)
    clear d9 HX7 O2 B7
    go_wp2_with fail
    have xc0 : ∀ s : Cl w9, s.val.cell? ⟨w5.heap.size, 0, none⟩ = some (.int .i64 f) := fun s => (HX9.out.below s.hb).cell (i := 0) rfl
    have xc1 : ∀ s : Cl w9, s.val.cell? ⟨w5.heap.size, 1, none⟩ = some (.int .i64 m) := fun s => (HX9.out.below s.hb).cell (i := 1) rfl
    have xc2 : ∀ s : Cl w9, s.val.cell? ⟨w5.heap.size, 2, none⟩ = some (.int .i64 0) := fun s => (HX9.out.below s.hb).cell (i := 2) rfl
    have xc3 : ∀ s : Cl w9, s.val.cell? ⟨w5.heap.size, 3, none⟩ = some (.slice xa la ca) := fun s => (HX9.out.below s.hb).cell (i := 3) rfl
    have Q1 : Hid (∀ s : Cl w9, Calls Try.prog 10 #[.slice xa la ca, .agg #[.int .i64 f, .int .i64 m, .int .i64 0, .slice xa la ca]] s.val fun e w'' => e = .returned (.bool true) ∧ ∃ s' : Cl w9, w'' = s'.val) :=
      hid fun s => Calls.cl (in_at (xs := xa) (cs := ca) (ls := la) true a ⟨f, m, 0, a⟩ s.val ((ha.below B9.out).below s.hb) ((ha.below B9.out).below s.hb) hla hla (decide_eq_true ⟨h0.out, rfl, rfl⟩))
    have Q2 : Hid (∀ s : Cl w9, Calls Try.prog 10 #[.slice xb lb cb, .agg #[.int .i64 f, .int .i64 m, .int .i64 0, .slice xa la ca]] s.val fun e w'' => e = .returned (.bool false) ∧ ∃ s' : Cl w9, w'' = s'.val) :=
      hid fun s => Calls.cl (in_at (xs := xa) (cs := ca) (ls := la) false b ⟨f, m, 0, a⟩ s.val ((hb.below B9.out).below s.hb) ((ha.below B9.out).below s.hb) hlb hla HI.out)
    have BE : Hid (∀ u, (∃ s : Cl w9, u = s.val) → Below w.heap.size w u) := hid fun u ⟨s, hs⟩ => by rw [hs]; exact grown_on B9.out s.hb
    clear ha hb HX9 O9 HI h0 HIL H0 B9
    refine wp_region_class (w0 := w9) (by kernel_rfl) (by kernel_rfl) (Below.refl _ _) ?_
    repeat (go_big_quiet_step (first | (go_at_call_of 10 cb; exact Q2.out _) | (go_at_call 10; exact Q1.out _)))
    refine wpQuiet_nil ?_
    intro w10 hw10
    have B10 := hid (BE.out _ hw10)
    clear hw10
    go_wp2_with fail
    go_ret
    exact ⟨rfl, B10.out⟩

set_option maxHeartbeats 4000000 in
set_option maxRecDepth 100000 in
theorem masks_in {xa xb : Option Addr} {ca cb la lb : Nat} (a b : List Int) (m n f : Int) (w : World) (ha : Bys w xa ca a) (hb : Bys w xb cb b) (hna : xa = none → ca = 0) (hnb : xb = none → cb = 0)
    (hla : a.length = la) (hlb : b.length = lb) (hm0 : 0 ≤ m) (hm : m ≤ 8 * a.length) (hn0 : 0 ≤ n) (hn : n ≤ 8 * a.length) (h0 : Hid (snE ⟨f, m, 0, a⟩ = 0)) (HI : Hid (decide (inN b ⟨f, m, 0, a⟩) = true)) (hmb : m ≤ 8 * b.length) (H3 : Hid (decide (maskN m.toNat b = maskN m.toNat a) = true)) (hne : ((la : Int) == (lb : Int)) = true) :
    Calls Try.prog 3 #[.slice xa la ca, .slice xb lb cb, .int .i64 m, .int .i64 n, .int .i64 f] w fun e w' => e = .returned (.bool true) ∧ Below w.heap.size w w' := by
  have hal : a.length ≤ 200000000000000 := ha.2.1
  have hbl : b.length ≤ 200000000000000 := hb.2.1
  have H0 := hid (show maskN n.toNat (maskN m.toNat a) = maskN (min m n).toNat a by rw [maskN_maskN]; congr 1; omega)
  obtain ⟨k, hk⟩ : ∃ k, k = min m n := ⟨_, rfl⟩
  rw [← hk] at H0
  have hk0 : 0 ≤ k := by omega
  have hkm : k ≤ m := by omega
  have hka : k ≤ 8 * a.length := by omega
  have HIL := hid (fun (h : inN b ⟨f, m, 0, a⟩) => in_less hk0 hkm h)
  have hmn : (m ≤ n ∧ m = k) ∨ (n < m ∧ n = k) := by omega
  clear hk hkm
  rcases hmn with ⟨hmn, rfl⟩ | ⟨hmn, rfl⟩
  all_goals
    go_enter Try.func3, Try.ntmps3
    go_wp2_with fail
    refine (smasked_ok _).mono ?_
    rintro e w1 ⟨rfl, d1⟩
    have B1 := hid d1
    clear d1
    go_wp2_with fail
    refine (mask_good m a w1 (ha.below B1.out) hna hm0 hm hla).mono ?_
    rintro e w2 ⟨g2, rfl, k2, d2⟩
    have B2 := hid (grown_on B1.out d2)
    have K2 := hid k2
    clear d2 k2
    go_wp2_with fail
    refine (mask_good _ _ w2 K2.out (fun q => by cases q) hn0 (by rw [maskN_len]; exact hn) (by rw [maskN_len]; exact hla)).mono ?_
    rintro e w3 ⟨g3, rfl, k3, d3⟩
    have B3 := hid (grown_on B2.out d3)
    have K3 := hid k3
    have J2 := hid (K2.out.below d3)
    clear d3 k3 K2
    go_wp2_with fail
    refine (mask_good _ a w3 (ha.below B3.out) hna hk0 hka hla).mono ?_
    rintro e w4 ⟨g4, rfl, k4, d4⟩
    have B4 := hid (grown_on B3.out d4)
    have K4 := hid k4
    have J3 := hid (K3.out.below d4)
    have L2 := hid (J2.out.below d4)
    clear d4 k4 K3 J2
    go_wp2_with fail
    refine (bytes_at true _ _ w4 J3.out K4.out (by rw [maskN_len, maskN_len]; exact hla) (by rw [maskN_len]; exact hla) (decide_eq_true H0.out)).mono ?_
    rintro e w5 ⟨rfl, d5⟩
    have B5 := hid (grown_on B4.out d5)
    have M2 := hid (L2.out.below d5)
    clear d5 J3 K4 L2 B1 B2 B3 B4
    go_wp2_with fail
    refine (in_at (xs := xa) (cs := ca) (ls := la) true b ⟨f, m, 0, a⟩ _ (hb.below (below2 B5.out _ _)) (ha.below (below2 B5.out _ _)) hlb hla HI.out).mono ?_
    rintro e w6' ⟨rfl, d6⟩
    have B6' := hid (grown_on (below2 B5.out _ _) d6)
    have X := box1 d6
    have Y := box2 d6
    have N2' := hid ((M2.out.below (below2 (Below.refl _ _) _ _)).below d6)
    have s0 := X.cell (i := 0) rfl
    have s1 := X.cell (i := 1) rfl
    have s2 := X.cell (i := 2) rfl
    have s3 := X.cell (i := 3) rfl
    have y0 := Y.cell (i := 0) rfl
    have y1 := Y.cell (i := 1) rfl
    have y2 := Y.cell (i := 2) rfl
    have y3 := Y.cell (i := 3) rfl
    have HX' := hid X
    clear d6 X Y M2 B5
    go_wp2_with fail
    refine (in_at (xs := xa) (cs := ca) (ls := la) true b ⟨f, _, 0, a⟩ w6' (hb.below B6'.out) (ha.below B6'.out) hlb hla (decide_eq_true (HIL.out (of_decide_eq_true HI.out)))).mono ?_
    rintro e w6 ⟨rfl, d6⟩
    have B6 := hid (grown_on B6'.out d6)
    have X := HX'.out.below d6
    have N2 := hid (N2'.out.below d6)
    clear s0 s1 s2 s3 y0 y1 y2 y3
    have s0 := X.cell (i := 0) rfl
    have s1 := X.cell (i := 1) rfl
    have s2 := X.cell (i := 2) rfl
    have s3 := X.cell (i := 3) rfl
    have HX := hid X
    clear d6 X HX' N2' B6'
    go_wp2_with fail
    refine (encode_good (x := xa) (c := ca) (l := la) ⟨f, m, 0, a⟩ w6 (ha.below B6.out) hla h0.out).mono ?_
    rintro e w7 ⟨gb, go, gc, rfl, _, _, d7⟩
    have B7 := hid (grown_on B6.out d7)
    have X := HX.out.below d7
    have O2 := hid (N2.out.below d7)
    have HX7 := hid X
    clear d7 X HX s0 s1 s2 s3 N2
    go_wp2_with fail
    refine (mask_good m b w7 (hb.below B7.out) hnb hm0 hmb hlb).mono ?_
    rintro e w8 ⟨g8, rfl, k8, d8⟩
    have B8 := hid (grown_on B7.out d8)
    have K8 := hid k8
    have HX8 := hid (HX7.out.below d8)
    have O8 := hid (O2.out.below d8)
    clear d8 k8 HX7 O2 B7
    go_wp2_with fail
    refine (bytes_at true _ _ w8 K8.out O8.out (by rw [maskN_len]; exact hlb) (by rw [maskN_len]; exact hla) H3.out).mono ?_
    rintro e w9 ⟨rfl, d9⟩
    have B9 := hid (grown_on B8.out d9)
    have HX9 := hid (HX8.out.below d9)
    have O9 := hid (O8.out.below d9)
    clear d9 K8 HX8 O8 B8
    go_wp2_with fail
    have xc0 : ∀ s : Cl w9, s.val.cell? ⟨w5.heap.size, 0, none⟩ = some (.int .i64 f) := fun s => (HX9.out.below s.hb).cell (i := 0) rfl
    have xc1 : ∀ s : Cl w9, s.val.cell? ⟨w5.heap.size, 1, none⟩ = some (.int .i64 m) := fun s => (HX9.out.below s.hb).cell (i := 1) rfl
    have xc2 : ∀ s : Cl w9, s.val.cell? ⟨w5.heap.size, 2, none⟩ = some (.int .i64 0) := fun s => (HX9.out.below s.hb).cell (i := 2) rfl
    have xc3 : ∀ s : Cl w9, s.val.cell? ⟨w5.heap.size, 3, none⟩ = some (.slice xa la ca) := fun s => (HX9.out.below s.hb).cell (i := 3) rfl
    have Q1 : Hid (∀ s : Cl w9, Calls Try.prog 10 #[.slice xa la ca, .agg #[.int .i64 f, .int .i64 m, .int .i64 0, .slice xa la ca]] s.val fun e w'' => e = .returned (.bool true) ∧ ∃ s' : Cl w9, w'' = s'.val) :=
      hid fun s => Calls.cl (in_at (xs := xa) (cs := ca) (ls := la) true a ⟨f, m, 0, a⟩ s.val ((ha.below B9.out).below s.hb) ((ha.below B9.out).below s.hb) hla hla (decide_eq_true ⟨h0.out, rfl, rfl⟩))
    have Q2 : Hid (∀ s : Cl w9, Calls Try.prog 10 #[.slice xb lb cb, .agg #[.int .i64 f, .int .i64 m, .int .i64 0, .slice xa la ca]] s.val fun e w'' => e = .returned (.bool true) ∧ ∃ s' : Cl w9, w'' = s'.val) :=
      hid fun s => Calls.cl (in_at (xs := xa) (cs := ca) (ls := la) true b ⟨f, m, 0, a⟩ s.val ((hb.below B9.out).below s.hb) ((ha.below B9.out).below s.hb) hlb hla HI.out)
    have BE : Hid (∀ u, (∃ s : Cl w9, u = s.val) → Below w.heap.size w u) := hid fun u ⟨s, hs⟩ => by rw [hs]; exact grown_on B9.out s.hb
    clear ha hb HX9 O9 HI h0 HIL H0 B9
    refine wp_region_class (w0 := w9) (by kernel_rfl) (by kernel_rfl) (Below.refl _ _) ?_
    repeat (go_big_quiet_step (first | (go_at_call_of 10 cb; exact Q2.out _) | (go_at_call 10; exact Q1.out _)))
    refine wpQuiet_nil ?_
    intro w10 hw10
    have B10 := hid (BE.out _ hw10)
    clear hw10
    go_wp2_with fail
    go_ret
    exact ⟨rfl, B10.out⟩

end Go.Proofs.Ytodpbkbbefacnab
