/-
  The walk of the law RrBack over its callees' contracts: for any message, any starts, any record and any TTL it hands back true, and writes nothing that was there.
-/
import Derived.Test.YtjpahieeaojieaaRrFacts
import Derived.Test.YtjpahieeaojieaaRrSame
import Derived.Deep.Cut
namespace Go.Proofs.Ytjpahieeaojieaa
open Go.RowKit Go.Deep

theorem fact_rec : packOut [] [] [] ++ fieldsN 1 0 0 [7] = [0, 0, 1, 0, 0, 0, 0, 0, 0, 0, 1, 7] := by decide +kernel
theorem fact_rec0 : recE [] 1 0 0 [7] = 0 := by decide +kernel

theorem rread_back {x : Option Addr} {c l : Nat} (P more : List Int) (n : List ByteArray) (ty cl ttl : Int) (D : List Int) (ms starts : List Int) (w : World) (hP : packOut ms n starts = P) (hb : ∀ b ∈ ms, 0 ≤ b ∧ b ≤ 255) (hm : ms.length ≤ 140737488354900) (hk : recE n ty cl ttl D = 0)
    (h : Bys w x c (P ++ fieldsN ty cl ttl D ++ more)) (hl : (P ++ fieldsN ty cl ttl D ++ more).length = l) :
    Calls Try.prog 9 #[.slice x l c, .int .i64 (ms.length : Int)] w (RecAt (n.map Nm.bs) ty cl ttl D ((P.length : Int) + 10 + (D.length : Int)) w) := by
  obtain ⟨k0, ⟨t0, t1⟩, ⟨t2, t3⟩, ⟨t4, t5⟩, hd⟩ := recE_zero hk
  have F := rec_found (starts := starts) (more := more) (ty := ty) (cl := cl) (ttl := ttl) hb k0 hd
  rw [hP] at F
  exact rread_good _ _ _ _ _ _ _ _ _ w h hl (by omega) F (rec_ty P more t0 t1) (rec_cl P more t2 t3) (rec_ttl P more t4 t5) (rec_data P more)

theorem rskip_back {x : Option Addr} {c l : Nat} (P more : List Int) (n : List ByteArray) (ty cl ttl : Int) (D : List Int) (ms starts : List Int) (w : World) (hP : packOut ms n starts = P) (hb : ∀ b ∈ ms, 0 ≤ b ∧ b ≤ 255) (hm : ms.length ≤ 140737488354900) (hk : recE n ty cl ttl D = 0)
    (h : Bys w x c (P ++ fieldsN ty cl ttl D ++ more)) (hl : (P ++ fieldsN ty cl ttl D ++ more).length = l) :
    Calls Try.prog 11 #[.slice x l c, .int .i64 (ms.length : Int)] w fun e w' => e = .returned (.tuple #[.int .i64 ((P.length : Int) + 4), .int .i64 ((P.length : Int) + 10 + (D.length : Int)), .nilIface]) ∧ Below w.heap.size w w' := by
  obtain ⟨k0, _, _, _, hd⟩ := recE_zero hk
  have F := rec_found (starts := starts) (more := more) (ty := ty) (cl := cl) (ttl := ttl) hb k0 hd
  rw [hP] at F
  refine (rskip_at _ _ _ _ _ w h hl (by omega) F).mono ?_
  rintro e w' ⟨rfl, b⟩
  refine ⟨?_, b⟩
  have : ((P.length + 10 + D.length : Nat) : Int) = (P.length : Int) + 10 + (D.length : Int) := by omega
  rw [this]

theorem recAt_back {n : List ByteArray} {ty cl ttl b : Int} {D : List Int} {w w' : World} {e : Ending} (h : RecAt (n.map Nm.bs) ty cl ttl D b w e w') :
    ∃ y q z r, e = .returned (.tuple #[.agg #[.slice y n.length q, .int .i64 ty, .int .i64 cl, .int .i64 ttl, .slice z D.length r], .int .i64 b, .nilIface]) ∧ Strs w' y q n ∧ Bys w' z r D ∧ Below w.heap.size w w' ∧ (∀ a, y = some a → w.heap.size ≤ a.block) ∧ ∀ a, z = some a → w.heap.size ≤ a.block := by
  obtain ⟨y, q, z, r, rfl, h1, h2, _, h4, h5, h6⟩ := h
  rw [map_nums_bs] at h1
  exact ⟨y, q, z, r, by rw [List.length_map], h1, h2, h4, h5, h6⟩

theorem recE_of {n : List ByteArray} {ty cl ttl t : Int} {D : List Int} (h : recE n ty cl ttl D = 0) (h0 : 0 ≤ t) (h1 : t ≤ 4294967295) : recE n ty cl t D = 0 := by
  obtain ⟨k0, k1, k2, _, hd⟩ := recE_zero h
  unfold recE
  rw [if_neg (by simp [k0]), if_neg (by simp only [Decidable.not_not]; exact ⟨k1, k2, h0, h1⟩), if_neg (by omega)]

set_option maxHeartbeats 1000000 in
set_option maxRecDepth 100000 in
theorem rback_walk {x y z u : Option Addr} {c d cz cu l l' lz lu : Nat} (ms starts D : List Int) (n : List ByteArray) (ty cl tt t : Int) (w : World) (h : Bys w x c ms) (hz : Ints w z cz starts) (hn : Strs w y d n) (hD : Bys w u cu D) (hu : u = none → cu = 0)
    (hl : ms.length = l) (hl' : n.length = l') (hlz : starts.length = lz) (hlu : D.length = lu) (hm : ms.length ≤ 140737488354900) (hs : starts.length ≤ 17592186044100) :
    Calls Try.prog 4 #[.slice x l c, .slice z lz cz, .agg #[.slice y l' d, .int .i64 ty, .int .i64 cl, .int .i64 tt, .slice u lu cu], .int .i64 t] w fun e w' => e = .returned (.bool true) ∧ Below w.heap.size w w' := by
  have hbs := h.2.2.1
  subst hl hl' hlz hlu
  go_enter Try.func4, Try.ntmps4
  go_wp2_with fail
  have BA : Below w.heap.size w _ := (Below.refl _ w).alloc (Nat.le_refl _) (.cells #[.slice y n.length d, .int .i64 ty, .int .i64 cl, .int .i64 tt, .slice u D.length cu] 36)
  have KA := Bl.new 36 w #[.slice y n.length d, .int .i64 ty, .int .i64 cl, .int .i64 tt, .slice u D.length cu]
  have hs0 : (w.alloc (.cells #[.slice y n.length d, .int .i64 ty, .int .i64 cl, .int .i64 tt, .slice u D.length cu] 36)).heap.size = w.heap.size + 1 := by simp
  have ND : Bys ((w.alloc (.cells #[.slice y n.length d, .int .i64 ty, .int .i64 cl, .int .i64 tt, .slice u D.length cu] 36)).alloc (.cells #[.int .u8 7] 5)) (some ⟨w.heap.size + 1, 0, none⟩) 1 [7] := by
    have := bys_new (w.alloc (.cells #[.slice y n.length d, .int .i64 ty, .int .i64 cl, .int .i64 tt, .slice u D.length cu] 36)) [7] (by decide) (by decide)
    rw [hs0] at this
    exact this
  have B0 := BA.alloc BA.size (.cells #[.int .u8 7] 5)
  have K0 := KA.below ((Below.refl _ _).alloc (Nat.le_refl _) (.cells #[.int .u8 7] 5))
  clear hs0
  refine (rwrite_good [0, 0, 1, 0, 0, 0, 0, 0, 0, 0, 1, 7] (packTold [] [] []) [] [] [7] [] 1 0 0 _ (Bys.nil _ none 0) (Ints.nil _ none 0) (Strs.empty _) ND (fun q => by cases q) rfl rfl rfl rfl (by simp) (by simp) fact_rec0 fact_rec rfl).mono ?_
  rintro e w1 ⟨v1, u1, rfl, hr1, _, b1, _, _, _, _⟩
  obtain ⟨x1, c1, rfl⟩ := rowb_len hr1 rfl
  have B1 := grown_on B0 b1
  have K1 := K0.below b1
  clear BA KA ND B0 K0 b1 hr1
  have q0 : w1.cell? ⟨w.heap.size, 0, none⟩ = some (.slice y n.length d) := K1.cell (i := 0) rfl
  have q1 : w1.cell? ⟨w.heap.size, 1, none⟩ = some (.int .i64 ty) := K1.cell (i := 1) rfl
  have q2 : w1.cell? ⟨w.heap.size, 2, none⟩ = some (.int .i64 cl) := K1.cell (i := 2) rfl
  have q3 : w1.cell? ⟨w.heap.size, 3, none⟩ = some (.int .i64 tt) := K1.cell (i := 3) rfl
  have q4 : w1.cell? ⟨w.heap.size, 4, none⟩ = some (.slice u D.length cu) := K1.cell (i := 4) rfl
  go_wp2_with fail
  obtain ⟨k, hk⟩ : ∃ k, recE n ty cl tt D = k := ⟨_, rfl⟩
  by_cases k0 : k = 0
  · subst k0
    have KE := hid hk
    obtain ⟨_, ⟨t0, t1⟩, ⟨t2, t3⟩, ⟨t4, t5⟩, hd⟩ := recE_zero hk
    clear hk
    have PL := (pack_len (starts := starts) (n := n) hbs).1
    obtain ⟨P, hP⟩ : ∃ P, packOut ms n starts = P := ⟨_, rfl⟩
    rw [hP] at PL
    refine (rwrite_good (P ++ fieldsN ty cl tt D) (packTold ms n starts) ms starts D n ty cl tt _ (h.below B1) (hz.below B1) (hn.below B1) (hD.below B1) hu rfl rfl rfl rfl hm hs KE.out (by rw [hP]) rfl).mono ?_
    rintro e w2 ⟨v2, u2, rfl, hr2, hi2, b2, hl2, hb2, hl3, _⟩
    have hol : (P ++ fieldsN ty cl tt D).length = P.length + 10 + D.length := by rw [List.length_append, fields_len]; omega
    obtain ⟨g, cap, C, hv2, hg, hC, hy2⟩ := rowb_open hr2 (by omega) hl2 hb2
    rw [hol] at hv2 hl2
    subst hv2
    obtain ⟨xi, ci, rfl, _⟩ := rowi_ints hi2 hl3 (by assumption)
    have B2 := grown_on B1 b2
    have K2 := K1.below b2
    have hw1 := K1.lt
    clear B1 K1 b2 hr2 hi2 hb2 hl3 q0 q1 q2 q3 q4
    have HP := hid hP
    have HOL := hid hol
    clear hP hol
    go_wp2_with fail
    refine (rread_back P [] n ty cl tt D ms starts _ HP.out hbs hm KE.out (by rw [List.append_nil]; exact hy2) (by rw [List.append_nil]; exact HOL.out)).mono fun e w3 hp => ?_
    obtain ⟨y3, c3, z3, r3, rfl, hs3, hz3, b3, _, _⟩ := recAt_back hp
    clear hp
    have B3 := grown_on B2 b3
    have K3 := K2.below b3
    have hy3 := hy2.below b3
    have hC3 := hC.below b3
    clear B2 K2 b3 hy2 hC
    have q0 : w3.cell? ⟨w.heap.size, 0, none⟩ = some (.slice y n.length d) := K3.cell (i := 0) rfl
    have q1 : w3.cell? ⟨w.heap.size, 1, none⟩ = some (.int .i64 ty) := K3.cell (i := 1) rfl
    have q2 : w3.cell? ⟨w.heap.size, 2, none⟩ = some (.int .i64 cl) := K3.cell (i := 2) rfl
    have q3 : w3.cell? ⟨w.heap.size, 3, none⟩ = some (.int .i64 tt) := K3.cell (i := 3) rfl
    have q4 : w3.cell? ⟨w.heap.size, 4, none⟩ = some (.slice u D.length cu) := K3.cell (i := 4) rfl
    have hw3 := K3.lt
    have BX : Hid (Below w3.heap.size w3 (w3.alloc (.cells #[.slice y3 n.length c3, .int .i64 ty, .int .i64 cl, .int .i64 tt, .slice z3 D.length r3] 36))) := hid ((Below.refl _ w3).alloc (Nat.le_refl _) (.cells #[.slice y3 n.length c3, .int .i64 ty, .int .i64 cl, .int .i64 tt, .slice z3 D.length r3] 36))
    have B3' := hid B3
    have K3' := hid K3
    have S3' := hid hs3
    have Z3' := hid hz3
    have Y3' := hid hy3
    have C3' := hid hC3
    clear B3 K3 hs3 hz3 hy3 hC3
    go_wp2_with fail
    have BX4 := grown_on B3'.out BX.out
    refine (srecord_at n D ty cl tt _ (S3'.out.below BX.out) (hn.below BX4) (Z3'.out.below BX.out) (hD.below BX4) rfl rfl rfl rfl).mono ?_
    rintro e w4 ⟨rfl, b4⟩
    have B4 := hid (grown_on BX4 b4)
    have K4 := hid ((K3'.out.below BX.out).below b4)
    have Y4 := hid ((Y3'.out.below BX.out).below b4)
    have C4 := hid ((C3'.out.below BX.out).below b4)
    clear q0 q1 q2 q3 q4 BX BX4 b4 B3' K3' S3' Z3' Y3' C3'
    go_wp2_with fail
    refine (rskip_back P [] n ty cl tt D ms starts _ HP.out hbs hm KE.out (by rw [List.append_nil]; exact Y4.out) (by rw [List.append_nil]; exact HOL.out)).mono ?_
    rintro e w5 ⟨rfl, b5⟩
    have B5 := hid (grown_on B4.out b5)
    have K5 := hid (K4.out.below b5)
    have Y5 := hid (Y4.out.below b5)
    have C5 := hid (C4.out.below b5)
    clear B4 K4 Y4 C4 b5
    have n1 : ¬ (P.length : Int) + 4 < (ms.length : Int) := by omega
    have n2 : ¬ (P.length : Int) + 10 + (D.length : Int) < (P.length : Int) + 4 + 4 := by omega
    by_cases c0 : t < 0
    · go_wp2_with fail
      go_ret
      exact ⟨rfl, B5.out⟩
    by_cases c1 : 4294967295 < t
    · go_wp2_with fail
      go_ret
      exact ⟨rfl, B5.out⟩
    have hgw : ¬ w.heap.size = g := by omega
    have hgle : w.heap.size ≤ g := by omega
    obtain ⟨x4, hx4⟩ : ∃ v, w5.cell? ⟨g, P.length + 4, none⟩ = some v := by
      rcases Y5.out.2.2.2 with q | ⟨b, off, e, _, q⟩
      · have := HOL.out; rw [q] at this; simp at this; omega
      · cases e
        have := q (P.length + 4) (by rw [HOL.out]; omega)
        rw [Nat.zero_add] at this
        exact ⟨_, this⟩
    have f4 := C5.out.frozen (P.length + 4)
    have i4 : (P.length : Int) + 4 < (P.length : Int) + 10 + (D.length : Int) := by omega
    go_upto_region 15 with fail
    have Y6' := Y5.out.put C5.out (P.length + 4) (t / 16777216) (by omega) (by omega)
    have C6' := C5.out.set (P.length + 4) (.int .u8 (t / 16777216))
    have K6' := K5.out.far (p := ⟨g, P.length + 4, none⟩) hgw (.int .u8 (t / 16777216))
    have B6' := B5.out.setCell (p := ⟨g, P.length + 4, none⟩) hgle (.int .u8 (t / 16777216))
    have HOL6 : Hid (((P ++ fieldsN ty cl tt D).set (P.length + 4) (t / 16777216)).length = P.length + 10 + D.length) := hid (by rw [List.length_set]; exact HOL.out)
    clear hx4 f4 Y5 C5 K5 B5 HOL
    generalize w5.setCell ⟨g, P.length + 4, none⟩ (.int .u8 (t / 16777216)) = w6 at *
    have Y6 := hid Y6'
    have C6 := hid C6'
    have K6 := hid K6'
    have B6 := hid B6'
    clear Y6' C6' K6' B6'
    obtain ⟨x5, hx5⟩ : ∃ v, w6.cell? ⟨g, P.length + 5, none⟩ = some v := by
      rcases Y6.out.2.2.2 with q | ⟨b, off, e, _, q⟩
      · have := HOL6.out; rw [q] at this; simp at this; omega
      · cases e
        have := q (P.length + 5) (by rw [HOL6.out]; omega)
        rw [Nat.zero_add] at this
        exact ⟨_, this⟩
    have f5 := C6.out.frozen (P.length + 5)
    have i5 : (P.length : Int) + 5 < (P.length : Int) + 10 + (D.length : Int) := by omega
    go_upto_region 16 with fail
    have Y7' := Y6.out.put C6.out (P.length + 5) (t / 65536 % 256) (by omega) (by omega)
    have C7' := C6.out.set (P.length + 5) (.int .u8 (t / 65536 % 256))
    have K7' := K6.out.far (p := ⟨g, P.length + 5, none⟩) hgw (.int .u8 (t / 65536 % 256))
    have B7' := B6.out.setCell (p := ⟨g, P.length + 5, none⟩) hgle (.int .u8 (t / 65536 % 256))
    have HOL7 : Hid ((((P ++ fieldsN ty cl tt D).set (P.length + 4) (t / 16777216)).set (P.length + 5) (t / 65536 % 256)).length = P.length + 10 + D.length) := hid (by rw [List.length_set]; exact HOL6.out)
    clear hx5 f5 Y6 C6 K6 B6 HOL6
    generalize w6.setCell ⟨g, P.length + 5, none⟩ (.int .u8 (t / 65536 % 256)) = w7 at *
    have Y7 := hid Y7'
    have C7 := hid C7'
    have K7 := hid K7'
    have B7 := hid B7'
    clear Y7' C7' K7' B7'
    obtain ⟨x6, hx6⟩ : ∃ v, w7.cell? ⟨g, P.length + 6, none⟩ = some v := by
      rcases Y7.out.2.2.2 with q | ⟨b, off, e, _, q⟩
      · have := HOL7.out; rw [q] at this; simp at this; omega
      · cases e
        have := q (P.length + 6) (by rw [HOL7.out]; omega)
        rw [Nat.zero_add] at this
        exact ⟨_, this⟩
    have f6 := C7.out.frozen (P.length + 6)
    have i6 : (P.length : Int) + 6 < (P.length : Int) + 10 + (D.length : Int) := by omega
    go_upto_region 17 with fail
    have Y8' := Y7.out.put C7.out (P.length + 6) (t / 256 % 256) (by omega) (by omega)
    have C8' := C7.out.set (P.length + 6) (.int .u8 (t / 256 % 256))
    have K8' := K7.out.far (p := ⟨g, P.length + 6, none⟩) hgw (.int .u8 (t / 256 % 256))
    have B8' := B7.out.setCell (p := ⟨g, P.length + 6, none⟩) hgle (.int .u8 (t / 256 % 256))
    have HOL8 : Hid (((((P ++ fieldsN ty cl tt D).set (P.length + 4) (t / 16777216)).set (P.length + 5) (t / 65536 % 256)).set (P.length + 6) (t / 256 % 256)).length = P.length + 10 + D.length) := hid (by rw [List.length_set]; exact HOL7.out)
    clear hx6 f6 Y7 C7 K7 B7 HOL7
    generalize w7.setCell ⟨g, P.length + 6, none⟩ (.int .u8 (t / 256 % 256)) = w8 at *
    have Y8 := hid Y8'
    have C8 := hid C8'
    have K8 := hid K8'
    have B8 := hid B8'
    clear Y8' C8' K8' B8'
    obtain ⟨x7, hx7⟩ : ∃ v, w8.cell? ⟨g, P.length + 7, none⟩ = some v := by
      rcases Y8.out.2.2.2 with q | ⟨b, off, e, _, q⟩
      · have := HOL8.out; rw [q] at this; simp at this; omega
      · cases e
        have := q (P.length + 7) (by rw [HOL8.out]; omega)
        rw [Nat.zero_add] at this
        exact ⟨_, this⟩
    have f7 := C8.out.frozen (P.length + 7)
    have i7 : (P.length : Int) + 7 < (P.length : Int) + 10 + (D.length : Int) := by omega
    go_upto_region 18 with fail
    have Y9' := Y8.out.put C8.out (P.length + 7) (t % 256) (by omega) (by omega)
    have C9' := C8.out.set (P.length + 7) (.int .u8 (t % 256))
    have K9' := K8.out.far (p := ⟨g, P.length + 7, none⟩) hgw (.int .u8 (t % 256))
    have B9' := B8.out.setCell (p := ⟨g, P.length + 7, none⟩) hgle (.int .u8 (t % 256))
    have HOL9 : Hid ((((((P ++ fieldsN ty cl tt D).set (P.length + 4) (t / 16777216)).set (P.length + 5) (t / 65536 % 256)).set (P.length + 6) (t / 256 % 256)).set (P.length + 7) (t % 256)).length = P.length + 10 + D.length) := hid (by rw [List.length_set]; exact HOL8.out)
    clear hx7 f7 Y8 C8 K8 B8 HOL8
    generalize w8.setCell ⟨g, P.length + 7, none⟩ (.int .u8 (t % 256)) = w9 at *
    have Y9 := hid Y9'
    have C9 := hid C9'
    have K9 := hid K9'
    have B9 := hid B9'
    clear Y9' C9' K9' B9'
    have Y9 := Y9.out
    rw [rec_put P ty cl tt t D (by omega) (by omega)] at Y9
    have HO9 : Hid ((P ++ fieldsN ty cl t D).length = P.length + 10 + D.length) := hid (by rw [List.length_append, fields_len]; omega)
    have KT := hid (recE_of KE.out (t := t) (by omega) (by omega))
    have YY := hid Y9
    clear Y9 HOL9
    go_wp2_with fail
    refine (rread_back P [] n ty cl t D ms starts _ HP.out hbs hm KT.out (by rw [List.append_nil]; exact YY.out) (by rw [List.append_nil]; exact HO9.out)).mono fun e w10 hp => ?_
    obtain ⟨ya, ca, za, ra, rfl, hsa, hza, ba, fya, fza⟩ := recAt_back hp
    clear hp
    have B10 := grown_on B9.out ba
    have K10 := K9.out.below ba
    have hw9 := K9.out.lt
    have hw10 := K10.lt
    have fr3 := K10.frozen 3
    have q0 : w10.cell? ⟨w.heap.size, 0, none⟩ = some (.slice y n.length d) := K10.cell (i := 0) rfl
    have q1 : w10.cell? ⟨w.heap.size, 1, none⟩ = some (.int .i64 ty) := K10.cell (i := 1) rfl
    have q2 : w10.cell? ⟨w.heap.size, 2, none⟩ = some (.int .i64 cl) := K10.cell (i := 2) rfl
    have q3 : w10.cell? ⟨w.heap.size, 3, none⟩ = some (.int .i64 tt) := K10.cell (i := 3) rfl
    have q4 : w10.cell? ⟨w.heap.size, 4, none⟩ = some (.slice u D.length cu) := K10.cell (i := 4) rfl
    have BX : Hid (Below (w10.setCell ⟨w.heap.size, 3, none⟩ (.int .i64 t)).heap.size (w10.setCell ⟨w.heap.size, 3, none⟩ (.int .i64 t)) ((w10.setCell ⟨w.heap.size, 3, none⟩ (.int .i64 t)).alloc (.cells #[.slice ya n.length ca, .int .i64 ty, .int .i64 cl, .int .i64 t, .slice za D.length ra] 36))) := hid ((Below.refl _ _).alloc (Nat.le_refl _) (.cells #[.slice ya n.length ca, .int .i64 ty, .int .i64 cl, .int .i64 t, .slice za D.length ra] 36))
    have B11 := hid (grown_on (B10.setCell (p := ⟨w.heap.size, 3, none⟩) (Nat.le_refl _) (.int .i64 t)) BX.out)
    have S11 := hid ((hsa.far (p := ⟨w.heap.size, 3, none⟩) (fun a e => by have := fya a e; simp only; omega) (.int .i64 t)).below BX.out)
    have Z11 := hid ((hza.far (p := ⟨w.heap.size, 3, none⟩) (fun a e => by have := fza a e; simp only; omega) (.int .i64 t)).below BX.out)
    clear B10 K10 hsa hza ba fya fza B9 K9 C9 YY BX
    go_wp2_with fail
    refine (srecord_at n D ty cl t _ S11.out (hn.below B11.out) Z11.out (hD.below B11.out) rfl rfl rfl rfl).mono ?_
    rintro e w12 ⟨rfl, b12⟩
    have B12 := grown_on B11.out b12
    clear q0 q1 q2 q3 q4 fr3 S11 Z11 B11 b12
    go_wp2_with fail
    go_ret
    exact ⟨rfl, B12⟩
  · have KE := hid hk
    have K0 := hid k0
    clear hk k0
    refine (rwrite_bad k ms starts D n ty cl tt _ (h.below B1) (hz.below B1) (hn.below B1) rfl rfl rfl rfl hm hs hD.2.1 KE.out K0.out).mono ?_
    rintro e w2 ⟨rfl, b2⟩
    have B2 := grown_on B1 b2
    clear b2 B1 K1 q0 q1 q2 q3 q4
    go_wp2_with fail
    go_ret
    exact ⟨rfl, B2⟩

end Go.Proofs.Ytjpahieeaojieaa
