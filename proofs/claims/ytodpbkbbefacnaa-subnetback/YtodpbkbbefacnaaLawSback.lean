/-
  The walk of the law SubnetBack.
-/
import Derived.Test.YtodpbkbbefacnaaSubDecC
import Derived.Test.YtodpbkbbefacnaaSubKnow
import Derived.Deep.Cut
namespace Go.Proofs.Ytodpbkbbefacnaa
open Go.RowKit Go.Deep

theorem bys_far {w : World} {x : Option Addr} {c : Nat} {ms : List Int} (h : Bys w x c ms) {p : Addr} (hp : ∀ a, x = some a → ¬ a.block = p.block) (v : Value) : Bys (w.setCell p v) x c ms := by
  obtain ⟨h1, h2, h3, h4⟩ := h
  refine ⟨h1, h2, h3, ?_⟩
  rcases h4 with h4 | ⟨b, off, hx, hb, hc⟩
  · exact Or.inl h4
  · refine Or.inr ⟨b, off, hx, by simpa using hb, fun i hi => ?_⟩
    rw [← hc i hi]
    simp only [World.cell?, Below.heap_setCell w p v b (hp _ hx)]

set_option maxHeartbeats 1000000 in
set_option maxRecDepth 100000 in
theorem mask_new {x : Option Addr} {c l : Nat} (n : Int) (xs : List Int) (w : World) (h : Bys w x c xs) (hx : x = none → c = 0) (hn0 : 0 ≤ n) (hn : n ≤ 8 * xs.length) (hl : xs.length = l) :
    Calls Try.prog 16 #[.slice x l c, .int .i64 n] w fun e w' => ∃ g, e = .returned (.tuple #[.slice (some ⟨g, 0, none⟩) l l, .nilIface]) ∧ Bys w' (some ⟨g, 0, none⟩) l (maskN n.toNat xs) ∧ w.heap.size ≤ g ∧ Below w.heap.size w w' := by
  obtain ⟨m, rfl⟩ : ∃ m : Nat, n = (m : Int) := ⟨n.toNat, by omega⟩
  have hlen : xs.length ≤ 200000000000000 := h.2.1
  have C1 := hid (masked_any m xs w h hx (by omega) hl)
  have C2 : Hid (decide (0 ≤ (m : Int) ∧ (m : Int) ≤ (l : Int) * 8) = true) := hid (decide_eq_true (by omega))
  have HB := hid h
  go_enter Try.func16, Try.ntmps16
  go_wp2_with fail
  refine (rfits_at true _ _ _ C2.out).mono ?_
  rintro e w1 ⟨rfl, rfl⟩
  go_wp2_with fail
  refine C1.out.mono ?_
  rintro e w1 ⟨rfl, k1, d1⟩
  have K1 := hid (MaskP.bys k1 HB.out.2.2.1 hlen)
  have D1 := hid d1
  clear k1 d1
  go_wp2_with fail
  go_ret2
  refine ⟨w.heap.size, by rw [← hl]; rfl, ?_, Nat.le_refl _, D1.out⟩
  rw [← hl]
  exact K1.out

set_option maxHeartbeats 1000000 in
set_option maxRecDepth 100000 in
theorem nets_true {x y : Option Addr} {c d l k : Nat} (fam src scp : Int) (A : List Int) (w : World) (ha : Bys w x c A) (hb : Bys w y d A) (hl : A.length = l) (hk : A.length = k) :
    Calls Try.prog 17 #[.agg #[.int .i64 fam, .int .i64 src, .int .i64 scp, .slice x l c], .agg #[.int .i64 fam, .int .i64 src, .int .i64 scp, .slice y k d]] w fun e w' => e = .returned (.bool true) ∧ Below w.heap.size w w' := by
  have B0 : Below w.heap.size w ((w.alloc (.cells #[.int .i64 fam, .int .i64 src, .int .i64 scp, .slice x l c] 47)).alloc (.cells #[.int .i64 fam, .int .i64 src, .int .i64 scp, .slice y k d] 47)) := ((Below.refl w.heap.size w).alloc (Nat.le_refl _) _).alloc (by simp) _
  have K1 := (Bl.new 47 w #[.int .i64 fam, .int .i64 src, .int .i64 scp, .slice x l c]).below ((Below.refl _ _).alloc (Nat.le_refl _) (.cells #[.int .i64 fam, .int .i64 src, .int .i64 scp, .slice y k d] 47))
  have K2 : Bl 47 ((w.alloc (.cells #[.int .i64 fam, .int .i64 src, .int .i64 scp, .slice x l c] 47)).alloc (.cells #[.int .i64 fam, .int .i64 src, .int .i64 scp, .slice y k d] 47)) (w.heap.size + 1) #[.int .i64 fam, .int .i64 src, .int .i64 scp, .slice y k d] := by
    have := Bl.new 47 (w.alloc (.cells #[.int .i64 fam, .int .i64 src, .int .i64 scp, .slice x l c] 47)) #[.int .i64 fam, .int .i64 src, .int .i64 scp, .slice y k d]
    rwa [World.size_alloc] at this
  have HK1 := hid K1
  have HK2 := hid K2
  have HB0 := hid B0
  clear K1 K2 B0
  go_enter Try.func17, Try.ntmps17
  go_wp2_with fail
  refine (bytes_at true A A _ (ha.below HB0.out) (hb.below HB0.out) hl hk (by simp)).mono ?_
  rintro e w1 ⟨rfl, d1⟩
  have B1 := hid (grown_on HB0.out d1)
  have J1 := HK1.out.below d1
  have J2 := HK2.out.below d1
  have s0 := J1.cell (i := 0) rfl
  have s1 := J1.cell (i := 1) rfl
  have s2 := J1.cell (i := 2) rfl
  have t0 := J2.cell (i := 0) rfl
  have t1 := J2.cell (i := 1) rfl
  have t2 := J2.cell (i := 2) rfl
  clear J1 J2 d1 HK1 HK2 HB0
  go_wp2_with fail
  go_ret
  exact ⟨rfl, B1.out⟩

theorem sback_decode {x : Option Addr} {c l : Nat} {b : List Int} {w : World} (h : Bys w x c b) (hl : b.length = l) (h0 : decE b = 0) :
    Calls Try.prog 15 #[.slice x l c] w fun e w' => ∃ g d, e = .returned (.tuple #[.agg #[.int .i64 (snOf b).fam, .int .i64 (snOf b).src, .int .i64 (snOf b).scp, .slice (some ⟨g, 0, none⟩) (snOf b).A.length d], .nilIface]) ∧ Bys w' (some ⟨g, 0, none⟩) d (snOf b).A ∧ w.heap.size ≤ g ∧ Below w.heap.size w w' :=
  (dec_any b w h hl).mono fun e w' hp => by unfold DecP at hp; rwa [if_pos h0] at hp

theorem sback_undecode {x : Option Addr} {c l : Nat} {b : List Int} {w : World} (h : Bys w x c b) (hl : b.length = l) (h0 : ¬ decE b = 0) :
    Calls Try.prog 15 #[.slice x l c] w fun e w' => e = .returned (.tuple #[.agg #[.int .i64 0, .int .i64 0, .int .i64 0, .slice none 0 0], .iface 74 (.int .i64 (decE b))]) ∧ Below w.heap.size w w' :=
  (dec_any b w h hl).mono fun e w' hp => by unfold DecP at hp; rwa [if_neg h0, errV_some h0] at hp

set_option maxHeartbeats 4000000 in
set_option maxRecDepth 100000 in
theorem sback_gg {xs xb : Option Addr} {cs cb ls lb : Nat} (fam src scp : Int) (A b : List Int) (w : World) (hs : Bys w xs cs A) (hb : Bys w xb cb b) (hxs : xs = none → cs = 0) (hls : A.length = ls) (hlb : b.length = lb) (h0 : Hid (snE ⟨fam, src, scp, A⟩ = 0)) (h1 : Hid (decE b = 0)) :
    Calls Try.prog 4 #[.agg #[.int .i64 fam, .int .i64 src, .int .i64 scp, .slice xs ls cs], .slice xb lb cb] w fun e w' => e = .returned (.bool true) ∧ Below w.heap.size w w' := by
  have HD := hid (dec_enc h0.out hs.2.2.1)
  have HF : Hid (0 ≤ src ∧ src ≤ 8 * (A.length : Int)) := hid (by have := (snE_zero h0.out).2.2.1; simp only at this; omega)
  have B0 := hid ((Below.refl w.heap.size w).alloc (Nat.le_refl _) (.cells #[.int .i64 fam, .int .i64 src, .int .i64 scp, .slice xs ls cs] 47))
  have K0 := hid (Bl.new 47 w #[.int .i64 fam, .int .i64 src, .int .i64 scp, .slice xs ls cs])
  go_enter Try.func4, Try.ntmps4
  go_wp2_with fail
  refine (smasked_ok _).mono ?_
  rintro e w1 ⟨rfl, d1⟩
  have B1 := hid (grown_on B0.out d1)
  have K := K0.out.below d1
  have s0 := K.cell (i := 0) rfl
  have s1 := K.cell (i := 1) rfl
  have s2 := K.cell (i := 2) rfl
  have s3 := K.cell (i := 3) rfl
  have K1 := hid K
  clear d1 K K0 B0
  go_wp2_with fail
  refine (encode_good (x := xs) (c := cs) (l := ls) ⟨fam, src, scp, A⟩ w1 (hs.below B1.out) hls h0.out).mono ?_
  rintro e w2 ⟨gb, go, gc, rfl, k2, _, d2⟩
  have B2 := hid (grown_on B1.out d2)
  have K := hid (K1.out.below d2)
  have hlt2 := K.out.lt
  have X2 := hid k2
  clear d2 s0 s1 s2 s3 K1 B1 k2
  go_wp2_with fail
  refine (sback_decode X2.out rfl HD.out.1).mono ?_
  rintro e w3 ⟨g3, d3, rfl, k3, hg3, e3⟩
  rw [HD.out.2] at k3 ⊢
  have B3 := hid (grown_on B2.out e3)
  have K3 := K.out.below e3
  have Y3 := hid k3
  have s1 := K3.cell (i := 1) rfl
  have s3 := K3.cell (i := 3) rfl
  have hlt := K3.lt
  have HK3 := hid K3
  clear e3 K X2 B2 k3 K3
  simp only
  go_wp2_with fail
  have B4 := hid (B3.out.alloc B3.out.size (.cells #[.int .i64 fam, .int .i64 src, .int .i64 scp, .slice (some ⟨g3, 0, none⟩) (maskN src.toNat A).length d3] 47))
  have V4 := hid (Bl.new 47 w3 #[.int .i64 fam, .int .i64 src, .int .i64 scp, .slice (some ⟨g3, 0, none⟩) (maskN src.toNat A).length d3])
  have A4 := hid ((Below.refl w3.heap.size w3).alloc (Nat.le_refl _) (.cells #[.int .i64 fam, .int .i64 src, .int .i64 scp, .slice (some ⟨g3, 0, none⟩) (maskN src.toNat A).length d3] 47))
  refine (mask_new src A _ (hs.below B4.out) hxs HF.out.1 HF.out.2 hls).mono ?_
  rintro e w5 ⟨g5, rfl, k5, hg5, e5⟩
  have B5 := hid (grown_on B4.out e5)
  have K5 := (HK3.out.below A4.out).below e5
  have V5 := V4.out.below e5
  have Y5 := hid ((Y3.out.below A4.out).below e5)
  have Z5 := hid k5
  have s0 := K5.cell (i := 0) rfl
  have t1 := K5.cell (i := 1) rfl
  have s2 := K5.cell (i := 2) rfl
  have t3 := K5.cell (i := 3) rfl
  have s4 := K5.frozen 3
  have v0 := V5.cell (i := 0) rfl
  have v1 := V5.cell (i := 1) rfl
  have v2 := V5.cell (i := 2) rfl
  have v3 := V5.cell (i := 3) rfl
  have HK5 := hid K5
  have HV5 := hid V5
  have hne : ¬ w3.heap.size = w.heap.size := by omega
  clear s1 s3 e5 K5 V5 Y3 V4 A4 HK3 B4 k5
  go_upto_region 9 with fail
  have F6 := hid (HK5.out.set 3 (.slice (some ⟨g5, 0, none⟩) ls ls))
  have G6 := hid (HV5.out.far (p := ⟨w.heap.size, 3, none⟩) hne (.slice (some ⟨g5, 0, none⟩) ls ls))
  have BB := hid (B5.out.setCell (p := ⟨w.heap.size, 3, none⟩) (Nat.le_refl _) (.slice (some ⟨g5, 0, none⟩) ls ls))
  have Y6 := hid (bys_far Y5.out (p := ⟨w.heap.size, 3, none⟩) (by intro a q; cases q; simp only; omega) (.slice (some ⟨g5, 0, none⟩) ls ls))
  have Z6 := hid (bys_far Z5.out (p := ⟨w.heap.size, 3, none⟩) (by intro a q; cases q; simp only [World.size_alloc] at hg5 ⊢; omega) (.slice (some ⟨g5, 0, none⟩) ls ls))
  clear s0 t1 s2 t3 s4 v0 v1 v2 v3 HK5 HV5 Y5 Z5
  generalize w5.setCell ⟨w.heap.size, 3, none⟩ (.slice (some ⟨g5, 0, none⟩) ls ls) = W6 at *
  have s0 := F6.out.cell (i := 0) rfl
  have s1 := F6.out.cell (i := 1) rfl
  have s2 := F6.out.cell (i := 2) rfl
  have s3 : W6.cell? ⟨w.heap.size, 3, none⟩ = some (.slice (some ⟨g5, 0, none⟩) ls ls) := F6.out.cell (i := 3) rfl
  have v0 := G6.out.cell (i := 0) rfl
  have v1 := G6.out.cell (i := 1) rfl
  have v2 := G6.out.cell (i := 2) rfl
  have v3 := G6.out.cell (i := 3) rfl
  go_wp2_with fail
  refine (nets_true fam src scp (maskN src.toNat A) W6 Y6.out Z6.out rfl (by rw [maskN_len]; exact hls)).mono ?_
  rintro e w6 ⟨rfl, e6⟩
  have B6 := hid (grown_on BB.out e6)
  clear e6 s0 s1 s2 s3 v0 v1 v2 v3 F6 G6 Y6 Z6 BB B5
  go_wp2_with fail
  refine (sback_decode (hb.below B6.out) hlb h1.out).mono ?_
  rintro e w7 ⟨g7, d7, rfl, k7, hg7, e7⟩
  have B7 := hid (grown_on B6.out e7)
  have Y7 := hid k7
  clear e7 k7
  have HE := hid (enc_dec h1.out hb.2.2.1)
  generalize snOf b = S at *
  go_wp2_with fail
  have B8 := hid (B7.out.alloc B7.out.size (.cells #[.int .i64 S.fam, .int .i64 S.src, .int .i64 S.scp, .slice (some ⟨g7, 0, none⟩) S.A.length d7] 47))
  have A8 := hid ((Below.refl w7.heap.size w7).alloc (Nat.le_refl _) (.cells #[.int .i64 S.fam, .int .i64 S.src, .int .i64 S.scp, .slice (some ⟨g7, 0, none⟩) S.A.length d7] 47))
  refine (encode_good (x := some ⟨g7, 0, none⟩) (c := d7) S _ (Y7.out.below A8.out) rfl HE.out.1).mono ?_
  rintro e w9 ⟨gb9, go9, gc9, rfl, k9, _, e9⟩
  rw [HE.out.2] at k9 ⊢
  have B9 := hid (grown_on B8.out e9)
  have Y9 := hid k9
  clear e9 k9
  go_wp2_with fail
  refine (bytes_at true b b w9 Y9.out (hb.below B9.out) hlb hlb (by simp)).mono ?_
  rintro e w10 ⟨rfl, e10⟩
  have B10 := hid (grown_on B9.out e10)
  clear e10
  go_wp2_with fail
  go_ret
  exact ⟨rfl, B10.out⟩

set_option maxHeartbeats 4000000 in
set_option maxRecDepth 100000 in
theorem sback_gb {xs xb : Option Addr} {cs cb ls lb : Nat} (fam src scp : Int) (A b : List Int) (w : World) (hs : Bys w xs cs A) (hb : Bys w xb cb b) (hxs : xs = none → cs = 0) (hls : A.length = ls) (hlb : b.length = lb) (h0 : Hid (snE ⟨fam, src, scp, A⟩ = 0)) (h1 : Hid (¬ decE b = 0)) :
    Calls Try.prog 4 #[.agg #[.int .i64 fam, .int .i64 src, .int .i64 scp, .slice xs ls cs], .slice xb lb cb] w fun e w' => e = .returned (.bool true) ∧ Below w.heap.size w w' := by
  have HD := hid (dec_enc h0.out hs.2.2.1)
  have HF : Hid (0 ≤ src ∧ src ≤ 8 * (A.length : Int)) := hid (by have := (snE_zero h0.out).2.2.1; simp only at this; omega)
  have B0 := hid ((Below.refl w.heap.size w).alloc (Nat.le_refl _) (.cells #[.int .i64 fam, .int .i64 src, .int .i64 scp, .slice xs ls cs] 47))
  have K0 := hid (Bl.new 47 w #[.int .i64 fam, .int .i64 src, .int .i64 scp, .slice xs ls cs])
  go_enter Try.func4, Try.ntmps4
  go_wp2_with fail
  refine (smasked_ok _).mono ?_
  rintro e w1 ⟨rfl, d1⟩
  have B1 := hid (grown_on B0.out d1)
  have K := K0.out.below d1
  have s0 := K.cell (i := 0) rfl
  have s1 := K.cell (i := 1) rfl
  have s2 := K.cell (i := 2) rfl
  have s3 := K.cell (i := 3) rfl
  have K1 := hid K
  clear d1 K K0 B0
  go_wp2_with fail
  refine (encode_good (x := xs) (c := cs) (l := ls) ⟨fam, src, scp, A⟩ w1 (hs.below B1.out) hls h0.out).mono ?_
  rintro e w2 ⟨gb, go, gc, rfl, k2, _, d2⟩
  have B2 := hid (grown_on B1.out d2)
  have K := hid (K1.out.below d2)
  have hlt2 := K.out.lt
  have X2 := hid k2
  clear d2 s0 s1 s2 s3 K1 B1 k2
  go_wp2_with fail
  refine (sback_decode X2.out rfl HD.out.1).mono ?_
  rintro e w3 ⟨g3, d3, rfl, k3, hg3, e3⟩
  rw [HD.out.2] at k3 ⊢
  have B3 := hid (grown_on B2.out e3)
  have K3 := K.out.below e3
  have Y3 := hid k3
  have s1 := K3.cell (i := 1) rfl
  have s3 := K3.cell (i := 3) rfl
  have hlt := K3.lt
  have HK3 := hid K3
  clear e3 K X2 B2 k3 K3
  simp only
  go_wp2_with fail
  have B4 := hid (B3.out.alloc B3.out.size (.cells #[.int .i64 fam, .int .i64 src, .int .i64 scp, .slice (some ⟨g3, 0, none⟩) (maskN src.toNat A).length d3] 47))
  have V4 := hid (Bl.new 47 w3 #[.int .i64 fam, .int .i64 src, .int .i64 scp, .slice (some ⟨g3, 0, none⟩) (maskN src.toNat A).length d3])
  have A4 := hid ((Below.refl w3.heap.size w3).alloc (Nat.le_refl _) (.cells #[.int .i64 fam, .int .i64 src, .int .i64 scp, .slice (some ⟨g3, 0, none⟩) (maskN src.toNat A).length d3] 47))
  refine (mask_new src A _ (hs.below B4.out) hxs HF.out.1 HF.out.2 hls).mono ?_
  rintro e w5 ⟨g5, rfl, k5, hg5, e5⟩
  have B5 := hid (grown_on B4.out e5)
  have K5 := (HK3.out.below A4.out).below e5
  have V5 := V4.out.below e5
  have Y5 := hid ((Y3.out.below A4.out).below e5)
  have Z5 := hid k5
  have s0 := K5.cell (i := 0) rfl
  have t1 := K5.cell (i := 1) rfl
  have s2 := K5.cell (i := 2) rfl
  have t3 := K5.cell (i := 3) rfl
  have s4 := K5.frozen 3
  have v0 := V5.cell (i := 0) rfl
  have v1 := V5.cell (i := 1) rfl
  have v2 := V5.cell (i := 2) rfl
  have v3 := V5.cell (i := 3) rfl
  have HK5 := hid K5
  have HV5 := hid V5
  have hne : ¬ w3.heap.size = w.heap.size := by omega
  clear s1 s3 e5 K5 V5 Y3 V4 A4 HK3 B4 k5
  go_upto_region 9 with fail
  have F6 := hid (HK5.out.set 3 (.slice (some ⟨g5, 0, none⟩) ls ls))
  have G6 := hid (HV5.out.far (p := ⟨w.heap.size, 3, none⟩) hne (.slice (some ⟨g5, 0, none⟩) ls ls))
  have BB := hid (B5.out.setCell (p := ⟨w.heap.size, 3, none⟩) (Nat.le_refl _) (.slice (some ⟨g5, 0, none⟩) ls ls))
  have Y6 := hid (bys_far Y5.out (p := ⟨w.heap.size, 3, none⟩) (by intro a q; cases q; simp only; omega) (.slice (some ⟨g5, 0, none⟩) ls ls))
  have Z6 := hid (bys_far Z5.out (p := ⟨w.heap.size, 3, none⟩) (by intro a q; cases q; simp only [World.size_alloc] at hg5 ⊢; omega) (.slice (some ⟨g5, 0, none⟩) ls ls))
  clear s0 t1 s2 t3 s4 v0 v1 v2 v3 HK5 HV5 Y5 Z5
  generalize w5.setCell ⟨w.heap.size, 3, none⟩ (.slice (some ⟨g5, 0, none⟩) ls ls) = W6 at *
  have s0 := F6.out.cell (i := 0) rfl
  have s1 := F6.out.cell (i := 1) rfl
  have s2 := F6.out.cell (i := 2) rfl
  have s3 : W6.cell? ⟨w.heap.size, 3, none⟩ = some (.slice (some ⟨g5, 0, none⟩) ls ls) := F6.out.cell (i := 3) rfl
  have v0 := G6.out.cell (i := 0) rfl
  have v1 := G6.out.cell (i := 1) rfl
  have v2 := G6.out.cell (i := 2) rfl
  have v3 := G6.out.cell (i := 3) rfl
  go_wp2_with fail
  refine (nets_true fam src scp (maskN src.toNat A) W6 Y6.out Z6.out rfl (by rw [maskN_len]; exact hls)).mono ?_
  rintro e w6 ⟨rfl, e6⟩
  have B6 := hid (grown_on BB.out e6)
  clear e6 s0 s1 s2 s3 v0 v1 v2 v3 F6 G6 Y6 Z6 BB B5
  go_wp2_with fail
  refine (sback_undecode (hb.below B6.out) hlb h1.out).mono ?_
  rintro e w7 ⟨rfl, e7⟩
  have B7 := hid (grown_on B6.out e7)
  clear e7
  have B8 := hid (B7.out.alloc B7.out.size (.cells #[.int .i64 0, .int .i64 0, .int .i64 0, .slice none 0 0] 47))
  go_wp2_with fail
  go_ret
  exact ⟨rfl, B8.out⟩

set_option maxHeartbeats 4000000 in
set_option maxRecDepth 100000 in
theorem sback_bg {xs xb : Option Addr} {cs cb ls lb : Nat} (fam src scp : Int) (A b : List Int) (w : World) (hs : Bys w xs cs A) (hb : Bys w xb cb b) (_hxs : xs = none → cs = 0) (hls : A.length = ls) (hlb : b.length = lb) (h0 : Hid (¬ snE ⟨fam, src, scp, A⟩ = 0)) (h1 : Hid (decE b = 0)) :
    Calls Try.prog 4 #[.agg #[.int .i64 fam, .int .i64 src, .int .i64 scp, .slice xs ls cs], .slice xb lb cb] w fun e w' => e = .returned (.bool true) ∧ Below w.heap.size w w' := by
  have B0 := hid ((Below.refl w.heap.size w).alloc (Nat.le_refl _) (.cells #[.int .i64 fam, .int .i64 src, .int .i64 scp, .slice xs ls cs] 47))
  have K0 := hid (Bl.new 47 w #[.int .i64 fam, .int .i64 src, .int .i64 scp, .slice xs ls cs])
  go_enter Try.func4, Try.ntmps4
  go_wp2_with fail
  refine (smasked_ok _).mono ?_
  rintro e w1 ⟨rfl, d1⟩
  have B1 := hid (grown_on B0.out d1)
  have K := K0.out.below d1
  have s0 := K.cell (i := 0) rfl
  have s1 := K.cell (i := 1) rfl
  have s2 := K.cell (i := 2) rfl
  have s3 := K.cell (i := 3) rfl
  have K1 := hid K
  clear d1 K K0 B0
  go_wp2_with fail
  refine (encode_bad (x := xs) (c := cs) (l := ls) ⟨fam, src, scp, A⟩ w1 hls hs.2.1 h0.out).mono ?_
  rintro e w6 ⟨rfl, d2⟩
  rw [errV_some h0.out]
  have B6 := hid (grown_on B1.out d2)
  clear d2 s0 s1 s2 s3 K1 B1
  go_wp2_with fail
  refine (sback_decode (hb.below B6.out) hlb h1.out).mono ?_
  rintro e w7 ⟨g7, d7, rfl, k7, hg7, e7⟩
  have B7 := hid (grown_on B6.out e7)
  have Y7 := hid k7
  clear e7 k7
  have HE := hid (enc_dec h1.out hb.2.2.1)
  generalize snOf b = S at *
  go_wp2_with fail
  have B8 := hid (B7.out.alloc B7.out.size (.cells #[.int .i64 S.fam, .int .i64 S.src, .int .i64 S.scp, .slice (some ⟨g7, 0, none⟩) S.A.length d7] 47))
  have A8 := hid ((Below.refl w7.heap.size w7).alloc (Nat.le_refl _) (.cells #[.int .i64 S.fam, .int .i64 S.src, .int .i64 S.scp, .slice (some ⟨g7, 0, none⟩) S.A.length d7] 47))
  refine (encode_good (x := some ⟨g7, 0, none⟩) (c := d7) S _ (Y7.out.below A8.out) rfl HE.out.1).mono ?_
  rintro e w9 ⟨gb9, go9, gc9, rfl, k9, _, e9⟩
  rw [HE.out.2] at k9 ⊢
  have B9 := hid (grown_on B8.out e9)
  have Y9 := hid k9
  clear e9 k9
  go_wp2_with fail
  refine (bytes_at true b b w9 Y9.out (hb.below B9.out) hlb hlb (by simp)).mono ?_
  rintro e w10 ⟨rfl, e10⟩
  have B10 := hid (grown_on B9.out e10)
  clear e10
  go_wp2_with fail
  go_ret
  exact ⟨rfl, B10.out⟩

set_option maxHeartbeats 4000000 in
set_option maxRecDepth 100000 in
theorem sback_bb {xs xb : Option Addr} {cs cb ls lb : Nat} (fam src scp : Int) (A b : List Int) (w : World) (hs : Bys w xs cs A) (hb : Bys w xb cb b) (_hxs : xs = none → cs = 0) (hls : A.length = ls) (hlb : b.length = lb) (h0 : Hid (¬ snE ⟨fam, src, scp, A⟩ = 0)) (h1 : Hid (¬ decE b = 0)) :
    Calls Try.prog 4 #[.agg #[.int .i64 fam, .int .i64 src, .int .i64 scp, .slice xs ls cs], .slice xb lb cb] w fun e w' => e = .returned (.bool true) ∧ Below w.heap.size w w' := by
  have B0 := hid ((Below.refl w.heap.size w).alloc (Nat.le_refl _) (.cells #[.int .i64 fam, .int .i64 src, .int .i64 scp, .slice xs ls cs] 47))
  have K0 := hid (Bl.new 47 w #[.int .i64 fam, .int .i64 src, .int .i64 scp, .slice xs ls cs])
  go_enter Try.func4, Try.ntmps4
  go_wp2_with fail
  refine (smasked_ok _).mono ?_
  rintro e w1 ⟨rfl, d1⟩
  have B1 := hid (grown_on B0.out d1)
  have K := K0.out.below d1
  have s0 := K.cell (i := 0) rfl
  have s1 := K.cell (i := 1) rfl
  have s2 := K.cell (i := 2) rfl
  have s3 := K.cell (i := 3) rfl
  have K1 := hid K
  clear d1 K K0 B0
  go_wp2_with fail
  refine (encode_bad (x := xs) (c := cs) (l := ls) ⟨fam, src, scp, A⟩ w1 hls hs.2.1 h0.out).mono ?_
  rintro e w6 ⟨rfl, d2⟩
  rw [errV_some h0.out]
  have B6 := hid (grown_on B1.out d2)
  clear d2 s0 s1 s2 s3 K1 B1
  go_wp2_with fail
  refine (sback_undecode (hb.below B6.out) hlb h1.out).mono ?_
  rintro e w7 ⟨rfl, e7⟩
  have B7 := hid (grown_on B6.out e7)
  clear e7
  have B8 := hid (B7.out.alloc B7.out.size (.cells #[.int .i64 0, .int .i64 0, .int .i64 0, .slice none 0 0] 47))
  go_wp2_with fail
  go_ret
  exact ⟨rfl, B8.out⟩

theorem sback_walk {xs xb : Option Addr} {cs cb lb : Nat} (s : Sn) (b : List Int) (w : World) (hs : Bys w xs cs s.A) (hb : Bys w xb cb b) (hxs : xs = none → cs = 0) (hlb : b.length = lb) :
    Calls Try.prog 4 #[.agg #[.int .i64 s.fam, .int .i64 s.src, .int .i64 s.scp, .slice xs s.A.length cs], .slice xb lb cb] w fun e w' => e = .returned (.bool true) ∧ Below w.heap.size w w' := by
  by_cases c0 : snE s = 0 <;> by_cases c1 : decE b = 0
  · exact sback_gg s.fam s.src s.scp s.A b w hs hb hxs rfl hlb c0 c1
  · exact sback_gb s.fam s.src s.scp s.A b w hs hb hxs rfl hlb c0 c1
  · exact sback_bg s.fam s.src s.scp s.A b w hs hb hxs rfl hlb c0 c1
  · exact sback_bb s.fam s.src s.scp s.A b w hs hb hxs rfl hlb c0 c1

end Go.Proofs.Ytodpbkbbefacnaa
