/-
  The walk of readQuestion: the question at a place, in new memory; nothing that was there is written.
-/
import Derived.Test.YtbbgabdiikdjpaaDoorMg
namespace Go.Proofs.YtbbgabdiikdjpaaDoor
open Go.RowKit Go.Deep

def qs0 : Array Value := #[.slice none 0 0, .int .i64 0, .int .i64 0]

def QAt (q : Qn) (n : Int) (w : World) (e : Ending) (w' : World) : Prop :=
  ∃ y s, e = .returned (.tuple #[.agg #[.slice y q.N.length s, .int .i64 q.ty, .int .i64 q.cl], .int .i64 n, .nilIface]) ∧ Strs w' y s q.N ∧ Below w.heap.size w w' ∧ ∀ a, y = some a → w.heap.size ≤ a.block

theorem Bl.put3 {t : TypeId} {w : World} {b : Nat} {a0 a1 a2 : Value} (h : Bl t w b #[a0, a1, a2]) (v0 v1 v2 : Value) :
    Bl t (((w.setCell ⟨b, 0, none⟩ v0).setCell ⟨b, 1, none⟩ v1).setCell ⟨b, 2, none⟩ v2) b #[v0, v1, v2] :=
  ((h.set 0 v0).set 1 v1).set 2 v2

theorem below_put3 {B : Nat} {w w' : World} {b : Nat} (k : Below B w w') (hb : B ≤ b) (v0 v1 v2 : Value) :
    Below B w (((w'.setCell ⟨b, 0, none⟩ v0).setCell ⟨b, 1, none⟩ v1).setCell ⟨b, 2, none⟩ v2) :=
  ((k.setCell hb v0).setCell hb v1).setCell hb v2

theorem results_readq (tmps : Array Value) (w : World) (b : Nat) (v0 v1 v2 : Value) (hp : tmps.getD 4 undef = .pointer (some ⟨b, 0, none⟩)) (hb : Bl 65 w b #[v0, v1, v2]) :
    (results Tryd.f28 tmps).run Tryd.prog w = .ok (.tuple #[.agg #[v0, v1, v2], tmps.getD 5 undef, tmps.getD 6 undef]) w := by
  have c0 : w.cell? ⟨b, 0, none⟩ = some v0 := hb.cell (i := 0) rfl
  have c1 : w.cell? ⟨b, 1, none⟩ = some v1 := hb.cell (i := 1) rfl
  have c2 : w.cell? ⟨b, 2, none⟩ = some v2 := hb.cell (i := 2) rfl
  have hp' : tmps[4]?.getD undef = .pointer (some ⟨b, 0, none⟩) := by simpa using hp
  simp [results, Tryd.results28, go_sem, hp', c0, c1, c2]

set_option maxHeartbeats 1000000 in
set_option maxRecDepth 100000 in
theorem readq_bad {x : Option Addr} {c l : Nat} (k : Int) (ms : List Int) (a : Nat) (w : World) (h : Bys w x c ms) (hl : ms.length = l) (h9 : (a : Int) ≤ 9223372036854775807) (hr : (readQ ms a).1 = k) (hk : ¬ k = 0) :
    Calls Tryd.prog 28 #[.slice x l c, .int .i64 (a : Int)] w fun e w' => e = .returned (.tuple #[.agg #[.slice none 0 0, .int .i64 0, .int .i64 0], .int .i64 0, .iface 29 (.int .i64 k)]) ∧ Below w.heap.size w w' := by
  subst hl
  have hlen : ms.length ≤ 200000000000000 := h.2.1
  have hbs := h.2.2.1
  obtain ⟨s, hs⟩ : ∃ s, readW ms (a : Int) = s := ⟨_, rfl⟩
  obtain ⟨k1, L, m⟩ := s
  have B0 : Below w.heap.size w _ := (Below.refl _ w).alloc (Nat.le_refl _) (.cells qs0 65)
  have K0 := Bl.new 65 w qs0
  by_cases k0 : k1 = 0
  · subst k0
    have c1 : ms.length < m + 4 := by
      rcases Nat.lt_or_ge ms.length (m + 4) with q | q
      · exact q
      · rw [readQ_of hs q] at hr; exact absurd hr.symm hk
    rw [readQ_short hs c1] at hr
    simp only at hr
    subst hr
    obtain ⟨_, m1, m2, _⟩ := readW_may hbs hs
    have c2 : (ms.length : Int) - (m : Int) < 4 := by omega
    have RD := hid hs
    clear hs
    go_enter Tryd.func28, Tryd.ntmps28
    go_wp2_with fail
    refine (read_at 0 L m ms a _ (h.below B0) rfl h9 RD.out).mono fun e w1 hp => ?_
    obtain ⟨y, q, rfl, hst, b1⟩ := readAt_ok hp
    clear hp
    have B1 := grown_on B0 b1
    have K1 := K0.below b1
    have z0 := K1.frozen 0
    have z1 := K1.frozen 1
    have z2 := K1.frozen 2
    have c0 := K1.cell (i := 0) rfl
    have d1 := K1.cell (i := 1) rfl
    have d2 := K1.cell (i := 2) rfl
    clear b1 K0 B0
    have B2 := hid B1
    have K2 := hid K1
    clear B1 K1
    go_wp2_with fail
    refine bodyPost_ret (results_readq _ _ w.heap.size _ _ _ rfl (K2.out.put3 _ _ _)) rfl ?_
    exact ⟨rfl, below_put3 B2.out (Nat.le_refl _) _ _ _⟩
  · rw [readQ_bad hs k0] at hr
    simp only at hr
    subst hr
    obtain ⟨rfl, rfl⟩ := readW_norm hs k0
    have RD := hid hs
    have K := hid k0
    clear hs k0
    go_enter Tryd.func28, Tryd.ntmps28
    go_wp2_with fail
    refine (read_at k1 [] 0 ms a _ (h.below B0) rfl h9 RD.out).mono fun e w1 hp => ?_
    obtain ⟨y, q, rfl, b1⟩ := readAt_no hp K.out
    clear hp
    have B1 := grown_on B0 b1
    have K1 := K0.below b1
    have z0 := K1.frozen 0
    have z1 := K1.frozen 1
    have z2 := K1.frozen 2
    have c0 := K1.cell (i := 0) rfl
    have d1 := K1.cell (i := 1) rfl
    have d2 := K1.cell (i := 2) rfl
    clear b1 K0 B0
    have B2 := hid B1
    have K2 := hid K1
    clear B1 K1
    go_wp2_with fail
    refine bodyPost_ret (results_readq _ _ w.heap.size _ _ _ rfl (K2.out.put3 _ _ _)) rfl ?_
    exact ⟨rfl, below_put3 B2.out (Nat.le_refl _) _ _ _⟩

theorem Strs.far3 {w : World} {x : Option Addr} {c : Nat} {ss : List ByteArray} (h : Strs w x c ss) {g : Nat} (hp : ∀ a, x = some a → ¬ a.block = g) (v0 v1 v2 : Value) :
    Strs (((w.setCell ⟨g, 0, none⟩ v0).setCell ⟨g, 1, none⟩ v1).setCell ⟨g, 2, none⟩ v2) x c ss :=
  ((h.far hp v0).far hp v1).far hp v2

theorem readq_end {L : List (List Int)} {ty cl : Int} {m m4 : Nat} {w u : World} {y : Option Addr} {s : Nat} (hm : m4 = m + 4) (h1 : Strs u y s (L.map strOfNums)) (h4 : Below w.heap.size w u) (h5 : ∀ a, y = some a → w.heap.size + 1 ≤ a.block) (v0 v1 v2 : Value) :
    QAt ⟨L.map strOfNums, ty, cl⟩ ((m + 4 : Nat) : Int) w (.returned (.tuple #[.agg #[.slice y L.length s, .int .i64 ty, .int .i64 cl], .int .i64 (m4 : Int), .nilIface])) (((u.setCell ⟨w.heap.size, 0, none⟩ v0).setCell ⟨w.heap.size, 1, none⟩ v1).setCell ⟨w.heap.size, 2, none⟩ v2) := by
  subst hm
  exact ⟨y, s, by rw [List.length_map], h1.far3 (fun a e => by have := h5 a e; omega) _ _ _, below_put3 h4 (Nat.le_refl _) _ _ _, fun a e => by have := h5 a e; omega⟩

set_option maxHeartbeats 400000 in
set_option maxRecDepth 100000 in
theorem readq_good {x : Option Addr} {c l : Nat} (q : Qn) (n : Nat) (ms : List Int) (a : Nat) (w : World) (h : Bys w x c ms) (hl : ms.length = l) (hr : readQ ms a = (0, q, n)) :
    Calls Tryd.prog 28 #[.slice x l c, .int .i64 (a : Int)] w (QAt q (n : Int) w) := by
  subst hl
  have hlen : ms.length ≤ 200000000000000 := h.2.1
  have hcap : ms.length ≤ c := h.1
  have hbs := h.2.2.1
  obtain ⟨L, m, h1, h2, rfl, rfl⟩ := readQ_ok hr
  obtain ⟨_, mm1, mm2, _⟩ := readW_may hbs h1
  have h9 : (a : Int) ≤ 9223372036854775807 := by omega
  obtain ⟨bk, off, rfl, hlt, q⟩ : ∃ b off, x = some ⟨b, off, none⟩ ∧ b < w.heap.size ∧ ∀ i, i < ms.length → w.cell? ⟨b, off + i, none⟩ = some (.int .u8 (ms.getD i 0)) := by
    rcases h.2.2.2 with hd | hd
    · rw [hd] at h2; simp at h2
    · exact hd
  have P1 := hid (bys_sub hlt hcap hlen hbs q m 2 (by omega))
  have P2 := hid (bys_sub hlt hcap hlen hbs q (m + 2) 2 (by omega))
  have L1 := hid (Nm.cut_length (ms := ms) (a := m) (k := 2) (by omega))
  have L2 := hid (Nm.cut_length (ms := ms) (a := m + 2) (k := 2) (by omega))
  generalize Nm.cut ms m 2 = l1 at *
  generalize Nm.cut ms (m + 2) 2 = l2 at *
  have RD := hid h1
  have i1 : ¬ (ms.length : Int) - (m : Int) < 4 := by omega
  have i2 : ¬ c = m := by omega
  have i3 : ¬ c = m + 2 := by omega
  have i4 : (m : Int) + 4 ≤ (c : Int) := by omega
  have i5 : (m : Int) + 2 ≤ (c : Int) := by omega
  have B0 : Below w.heap.size w _ := (Below.refl _ w).alloc (Nat.le_refl _) (.cells qs0 65)
  have K0 := Bl.new 65 w qs0
  clear hr h1 q
  go_enter Tryd.func28, Tryd.ntmps28
  go_wp2_with fail
  refine (read_at 0 L m ms a _ (h.below B0) rfl h9 RD.out).mono fun e w1 hp => ?_
  obtain ⟨y, s, rfl, hst, b1, fr⟩ := readAt_new hp
  clear hp
  have B1 := grown_on B0 b1
  have K1 := K0.below b1
  have hw1 : w.heap.size < w1.heap.size := K1.lt
  have FR : Hid (∀ a, y = some a → w.heap.size + 1 ≤ a.block) := hid (fun a q => by have := fr a q; simpa using this)
  clear b1 K0 B0 fr
  have B2 := hid B1
  have K2 := hid K1
  have ST := hid hst
  clear B1 K1 hst
  go_wp2_with fail
  obtain ⟨m2, hm2⟩ : ∃ m2 : Nat, m2 = m + 2 := ⟨_, rfl⟩
  obtain ⟨m4, hm4⟩ : ∃ m4 : Nat, m4 = m + 4 := ⟨_, rfl⟩
  have j1 : IntKind.i64.wrap ((m : Int) + 2) = (m2 : Int) := by rw [Go.IntWalk.i64_in _ (by omega)]; omega
  have j2 : IntKind.i64.wrap ((m : Int) + 4) = (m4 : Int) := by rw [Go.IntWalk.i64_in _ (by omega)]; omega
  have j3 : (0 : Int) ≤ (m : Int) := by omega
  have j4 : (m : Int) ≤ (m2 : Int) := by omega
  have j5 : (m2 : Int) ≤ (m4 : Int) := by omega
  have j6 : (0 : Int) ≤ (m2 : Int) := by omega
  have j7 : (m2 : Int) ≤ (c : Int) := by omega
  have j8 : (m4 : Int) ≤ (c : Int) := by omega
  have j9 : ¬ c = m2 := by omega
  rw [← hm2] at P2
  have e1 : m2 - m = 2 := by omega
  have e2 : m4 - m2 = 2 := by omega
  have HM4 := hid hm4
  have C1 : Hid (∀ u, Below w1.heap.size w1 u → Calls Tryd.prog 53 #[.slice (some ⟨bk, off + m, none⟩) (m2 - m) (c - m)] u fun e u' => e = .returned (.int .i64 (numN l1)) ∧ u = u') := hid (fun u hu => number_at (numN l1) l1 u ((P1.out.below B2.out).below hu) (by rw [e1]; exact L1.out) (by have := L1.out; omega) rfl)
  have C2 : Hid (∀ u, Below w1.heap.size w1 u → Calls Tryd.prog 53 #[.slice (some ⟨bk, off + m2, none⟩) (m4 - m2) (c - m2)] u fun e u' => e = .returned (.int .i64 (numN l2)) ∧ u = u') := hid (fun u hu => number_at (numN l2) l2 u ((P2.out.below B2.out).below hu) (by rw [e2]; exact L2.out) (by have := L2.out; omega) rfl)
  clear hm2 hm4 e1 e2 i3 i4 i5 i1 mm1 mm2 h2 hlen hcap h9
  go_region_held3 (fun u => Below w1.heap.size w1 u) (with_reducible (first | assumption | exact Below.drew (Below.refl _ _) | exact ((Below.refl _ _).alloc (Nat.le_refl _) _).drew))
    (first
      | (go_at_call_of 53 (@HSub.hSub Nat Nat Nat (@instHSub Nat instSubNat) c m); refine (C1.out _ ?_).mono ?_; assumption; rintro e w' ⟨rfl, rfl⟩)
      | (go_at_call_of 53 (@HSub.hSub Nat Nat Nat (@instHSub Nat instSubNat) c m2); refine (C2.out _ ?_).mono ?_; assumption; rintro e w' ⟨rfl, rfl⟩))
  all_goals
    have KX : Bl 65 (w1.alloc (.cells #[.slice y L.length s, .int .i64 (numN l1), .int .i64 (numN l2)] 65)).drew w1.heap.size #[.slice y L.length s, .int .i64 (numN l1), .int .i64 (numN l2)] := (Bl.new 65 w1 _).drew
    have BW : Below w1.heap.size w1 (w1.alloc (.cells #[.slice y L.length s, .int .i64 (numN l1), .int .i64 (numN l2)] 65)).drew := ((Below.refl _ w1).alloc (Nat.le_refl _) _).drew
    have KR := K2.out.below BW
    have S3 := hid (ST.out.below BW)
    have B3 := hid (grown_on B2.out BW)
    generalize (w1.alloc (.cells #[.slice y L.length s, .int .i64 (numN l1), .int .i64 (numN l2)] 65)).drew = W3 at *
    have x0 : W3.cell? ⟨w1.heap.size, 0, none⟩ = some (.slice y L.length s) := KX.cell (i := 0) rfl
    have x1 : W3.cell? ⟨w1.heap.size, 1, none⟩ = some (.int .i64 (numN l1)) := KX.cell (i := 1) rfl
    have x2 : W3.cell? ⟨w1.heap.size, 2, none⟩ = some (.int .i64 (numN l2)) := KX.cell (i := 2) rfl
    have yc0 : W3.cell? ⟨w.heap.size, 0, none⟩ = some (.slice none 0 0) := KR.cell (i := 0) rfl
    have y0 := KR.frozen 0
    have yc1 : W3.cell? ⟨w.heap.size, 1, none⟩ = some (.int .i64 0) := KR.cell (i := 1) rfl
    have y1 := KR.frozen 1
    have yc2 : W3.cell? ⟨w.heap.size, 2, none⟩ = some (.int .i64 0) := KR.cell (i := 2) rfl
    have y2 := KR.frozen 2
    have QR := hid KR
    clear KX KR BW
    go_wp2_with fail
    refine bodyPost_ret (results_readq _ _ w.heap.size _ _ _ rfl (QR.out.put3 _ _ _)) rfl ?_
    exact readq_end HM4.out S3.out B3.out FR.out _ _ _

end Go.Proofs.YtbbgabdiikdjpaaDoor
