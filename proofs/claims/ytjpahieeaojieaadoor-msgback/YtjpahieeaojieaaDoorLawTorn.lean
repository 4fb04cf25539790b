/-
  The walk of the law MsgTorn over its callees' contracts: for any bytes, any number and any bytes behind it hands back true, and writes nothing that was there.
-/
import Derived.Test.YtjpahieeaojieaaDoorMgFacts
import Derived.Test.YtjpahieeaojieaaDoorRefFault
import Derived.Deep.Cut
namespace Go.Proofs.YtjpahieeaojieaaDoor
open Go.RowKit Go.Deep

theorem mread_err {x : Option Addr} {c l : Nat} (k : Int) (ms : List Int) (w : World) (hs : Bys w x c ms) (hl : ms.length = l) (hr : msgR ms = (k, [], [], [], [])) (hk : ¬ k = 0) :
    Calls Tryd.prog 15 #[.slice x l c] w fun e w' => e = .returned (.tuple #[.agg #[.int .i64 0, .bool false, .int .i64 0, .bool false, .bool false, .bool false, .bool false, .bool false, .bool false, .bool false, .int .i64 0, .slice none 0 0, .slice none 0 0, .slice none 0 0, .slice none 0 0], .iface 25 (.int .i64 k)]) ∧ Below w.heap.size w w' := by
  refine (mread_any ms w hs hl).mono ?_
  rintro e w' (⟨qs, r1, r2, r3, h, _⟩ | ⟨k', _, h, he, hb⟩)
  · rw [hr] at h
    simp only [Prod.mk.injEq] at h
    exact absurd h.1 hk
  · rw [hr] at h
    simp only [Prod.mk.injEq] at h
    rw [← h.1] at he
    exact ⟨he, hb⟩

theorem mread_good {x : Option Addr} {c l : Nat} {qs : List Qn} {r1 r2 r3 : List Rn} (ms : List Int) (w : World) (hs : Bys w x c ms) (hl : ms.length = l) (hr : msgR ms = (0, qs, r1, r2, r3)) :
    Calls Tryd.prog 15 #[.slice x l c] w (MsgAt (hdR ms) qs r1 r2 r3 w) := by
  refine (mread_any ms w hs hl).mono ?_
  rintro e w' (⟨qs', r1', r2', r3', h, k⟩ | ⟨k', h0, h, he, hb⟩)
  · rw [hr] at h
    simp only [Prod.mk.injEq, true_and] at h
    obtain ⟨rfl, rfl, rfl, rfl⟩ := h
    exact k
  · rw [hr] at h
    simp only [Prod.mk.injEq] at h
    exact absurd h.1.symm h0

theorem mread_norm (ms : List Int) : (msgR ms).1 = 0 ∨ msgR ms = ((msgR ms).1, [], [], [], []) := by
  by_cases h12 : ms.length < 12
  · right; rw [msgR_short h12]
  have h12' : 12 ≤ ms.length := by omega
  obtain ⟨⟨k0, qs, a0⟩, e0⟩ : ∃ s, partsN (readQ ms) (pairN ms 4) 12 = s := ⟨_, rfl⟩
  by_cases z0 : k0 = 0
  case neg => right; rw [msgR_q h12' e0 z0]
  subst z0
  obtain ⟨⟨k1, r1, a1⟩, e1⟩ : ∃ s, partsN (readR ms) (pairN ms 6) a0 = s := ⟨_, rfl⟩
  by_cases z1 : k1 = 0
  case neg => right; rw [msgR_1 h12' e0 e1 z1]
  subst z1
  obtain ⟨⟨k2, r2, a2⟩, e2⟩ : ∃ s, partsN (readR ms) (pairN ms 8) a1 = s := ⟨_, rfl⟩
  by_cases z2 : k2 = 0
  case neg => right; rw [msgR_2 h12' e0 e1 e2 z2]
  subst z2
  obtain ⟨⟨k3, r3, a3⟩, e3⟩ : ∃ s, partsN (readR ms) (pairN ms 10) a2 = s := ⟨_, rfl⟩
  by_cases z3 : k3 = 0
  case neg => right; rw [msgR_3 h12' e0 e1 e2 e3 z3]
  subst z3
  rw [msgR_4 h12' e0 e1 e2 e3]
  by_cases c : a3 < ms.length
  · right; rw [if_pos c]
  · left; rw [if_neg c]

theorem owns_void (w : World) (e : TypeId) : (w.alloc (.cells #[] e)).ownsRow w.heap.size e 1 (.slice (some ⟨w.heap.size, 0, none⟩) 0 0) 0 [] := World.ownsRow_made w #[] 0 (Nat.le_refl _) (by decide) (by simp)

set_option maxHeartbeats 4000000 in
set_option maxRecDepth 100000 in
theorem torn_walk {x y : Option Addr} {c d l l' : Nat} (ms more : List Int) (n : Int) (w : World) (h : Bys w x c ms) (h2 : Bys w y d more) (hl : ms.length = l) (hl' : more.length = l') (hml : more.length ≤ 140737488351232) (hg : Glob w) (hn1 : -9223372036854775808 ≤ n) (hn2 : n ≤ 9223372036854775807) :
    Calls Tryd.prog 6 #[.slice x l c, .int .i64 n, .slice y l' d] w fun e w' => e = .returned (.bool true) ∧ Below w.heap.size w w' := by
  obtain ⟨i0, hi, hz0, hz1, hz2⟩ := info_of_byte
  subst hl hl'
  have hlen : ms.length ≤ 200000000000000 := h.2.1
  have hcap : ms.length ≤ c := h.1
  have HBS := hid h.2.2.1
  have HB2 := hid h2.2.2.1
  obtain ⟨⟨k, qs, r1, r2, r3⟩, hr⟩ : ∃ s, msgR ms = s := ⟨_, rfl⟩
  go_enter Tryd.func6, Tryd.ntmps6
  go_wp2_with fail
  refine (mwrite_empty _).mono ?_
  rintro e w1 ⟨x1, c1, rfl, b1⟩
  have B1 := hid b1
  clear b1
  go_wp2_with fail
  by_cases k0 : k = 0
  case neg =>
    have E : Hid (msgR ms = (k, [], [], [], [])) := hid (by
      rcases mread_norm ms with q | q
      · rw [hr] at q; exact absurd q k0
      · rw [hr] at q ⊢; exact q)
    have K := hid k0
    clear hr k0
    refine (mread_err k ms _ (h.below B1.out) rfl E.out K.out).mono ?_
    rintro e w2 ⟨rfl, b2⟩
    have B2 := hid (grown_on B1.out b2)
    clear b2
    go_wp2_with fail
    go_ret
    exact ⟨rfl, B2.out.alloc B2.out.size _⟩
  subst k0
  have R := hid hr
  have hlong := msg_long HBS.out hr
  have h12 : 12 ≤ ms.length := (msgR_ok HBS.out hr).1
  have OB : Hid (∀ b ∈ ms ++ more, 0 ≤ b ∧ b ≤ 255) := hid (fun b q => by
    rcases List.mem_append.1 q with q | q
    · exact HBS.out b q
    · exact HB2.out b q)
  obtain ⟨bk, off, rfl⟩ : ∃ b off, x = some ⟨b, off, none⟩ := by
    rcases h.2.2.2 with q | ⟨b, off, q, _⟩
    · rw [q] at h12; simp at h12
    · exact ⟨b, off, q⟩
  clear hr
  refine (mread_good ms _ (h.below B1.out) rfl R.out).mono ?_
  rintro e w2 ⟨xq, cq, y1, d1, y2, d2, y3, d3, rfl, _, _, _, _, b2⟩
  have B2 := grown_on B1.out b2
  generalize hdR ms = hh at *
  have BX0 := B2.alloc B2.size (.cells #[.int .i64 hh.id, .bool hh.an, .int .i64 hh.op, .bool hh.aa, .bool hh.tc, .bool hh.rd, .bool hh.ra, .bool hh.z, .bool hh.ad, .bool hh.cd, .int .i64 hh.code, .slice xq qs.length cq, .slice y1 r1.length d1, .slice y2 r2.length d2, .slice y3 r3.length d3] 41)
  clear b2 B1 B2
  go_upto_region 5 with fail
  generalize w2.alloc (.cells #[.int .i64 hh.id, .bool hh.an, .int .i64 hh.op, .bool hh.aa, .bool hh.tc, .bool hh.rd, .bool hh.ra, .bool hh.z, .bool hh.ad, .bool hh.cd, .int .i64 hh.code, .slice xq qs.length cq, .slice y1 r1.length d1, .slice y2 r2.length d2, .slice y3 r3.length d3] 41) = WX at *
  have BX := hid BX0
  clear BX0
  by_cases hn : 0 ≤ n ∧ n < (ms.length : Int)
  · obtain ⟨g0, g1⟩ := hn
    obtain ⟨m, rfl⟩ : ∃ m : Nat, n = (m : Int) := ⟨n.toNat, by omega⟩
    have X2 := hid (msgR_torn HBS.out R.out (n := m) (by omega))
    have hml2 : Hid ((ms.take m).length = m) := hid (by rw [List.length_take]; omega)
    have g2 : (m : Int) ≤ (c : Int) := by omega
    go_wp2_with fail
    refine (mread_err 2 (ms.take m) _ ((h.below BX.out).take m (by omega)) hml2.out X2.out (by decide)).mono ?_
    rintro e w3 ⟨rfl, b3⟩
    have B3 := grown_on BX.out b3
    have GA := hid (hg.below (B3.alloc B3.size (.cells #[.int .i64 0, .bool false, .int .i64 0, .bool false, .bool false, .bool false, .bool false, .bool false, .bool false, .bool false, .int .i64 0, .slice none 0 0, .slice none 0 0, .slice none 0 0, .slice none 0 0] 41)))
    have K3 := Bl.new 41 w3 #[.int .i64 0, .bool false, .int .i64 0, .bool false, .bool false, .bool false, .bool false, .bool false, .bool false, .bool false, .int .i64 0, .slice none 0 0, .slice none 0 0, .slice none 0 0, .slice none 0 0]
    have HB3 := hid B3
    have hs3 : w.heap.size ≤ w3.heap.size := B3.size
    clear b3 B3 BX X2 hml2
    go_wp2_with fail
    refine (error_at 2 2 _ _ GA.out rfl rfl).mono ?_
    rintro e w4 ⟨rfl, b4⟩
    have K4 := K3.below b4
    have B4 := grown_on (HB3.out.alloc HB3.out.size _) b4
    have q11 : w4.cell? ⟨w3.heap.size, 11, none⟩ = some (.slice none 0 0) := K4.cell (i := 11) rfl
    have BX := hid B4
    clear GA K3 b4 K4 HB3 B4
    generalize w4 = WY at *
    by_cases hm : more = []
    · have hm0 : more.length = 0 := by rw [hm]; rfl
      rw [hm0]
      go_wp2_with fail
      go_ret
      exact ⟨rfl, BX.out⟩
    · have X8 := hid (msgR_extra HBS.out R.out hm)
      have hmp : 0 < more.length := by
        rcases Nat.eq_zero_or_pos more.length with q | q
        · exact absurd (List.length_eq_zero_iff.1 q) hm
        · exact q
      have hmp2 : ¬ (more.length : Int) = 0 := by omega
      obtain ⟨b2, o2, rfl⟩ : ∃ b off, y = some ⟨b, off, none⟩ := by
        rcases h2.2.2.2 with q | ⟨b, off, q, _⟩
        · rw [q] at hmp; simp at hmp
        · exact ⟨b, off, q⟩
      have HM := hid hm
      clear hm
      have NW : Hid (∀ j u, (ms.map (Value.int .u8))[j]? = some u → (WY.alloc (.cells #[] 5)).cell? ((⟨bk, off, none⟩ : Addr).add j) = some u) := hid (by
        have h4 := h.below (BX.out.alloc BX.out.size (.cells #[] 5))
        rcases h4.2.2.2 with q | ⟨_, _, q, _, q2⟩
        · intro j u hj; rw [q] at hj; simp at hj
        · cases q; exact bys_news q2)
      go_wp2_with (at_builtin; refine wpList_append_own_wide _ rfl _ _ 24 rfl WY.heap.size 5 i0 (.int .u8 0) 1 1 Tryd.underlying24 hi hz0 hz1 hz2 rfl (by decide) _ _ _ rfl (owns_void WY 5) ⟨bk, off, none⟩ ms.length c (ms.map (Value.int .u8)) rfl (by simp) NW.out (one_cells ms) (by unfold maxLen; omega) (by omega) (by simp) ?_)
      intro v3 w3 hown3 hgrow3 _
      have b3 : Below WY.heap.size WY w3 := grown_below (owns_void WY 5) ((Below.refl _ WY).alloc (Nat.le_refl _) _) (by simp) hgrow3
      have B3 := hid (grown_on BX.out b3)
      have hrow3 : Rowb w3 WY.heap.size v3 ms := Rowb.of hown3 (by simp) (by simp)
      have s3 := b3.size
      have NW2 : Hid (∀ j u, (more.map (Value.int .u8))[j]? = some u → w3.cell? ((⟨b2, o2, none⟩ : Addr).add j) = some u) := hid (by
        have h4 := h2.below B3.out
        rcases h4.2.2.2 with q | ⟨_, _, q, _, q2⟩
        · intro j u hj; rw [q] at hj; simp at hj
        · cases q; exact bys_news q2)
      have b3' := hid b3
      clear hown3 hgrow3 NW b3
      go_wp2_with (at_builtin; refine wpList_append_own_wide _ rfl _ _ 24 rfl WY.heap.size 5 i0 (.int .u8 0) 1 1 Tryd.underlying24 hi hz0 hz1 hz2 rfl (by decide) _ _ _ rfl hrow3 ⟨b2, o2, none⟩ more.length d (more.map (Value.int .u8)) rfl (by simp) NW2.out (one_cells more) (by unfold maxLen; omega) (by omega) s3 ?_)
      intro v4 w4 hown4 hgrow4 _
      have b4 : Below WY.heap.size WY w4 := grown_below hrow3 b3'.out s3 hgrow4
      have hrow4 : Rowb w4 WY.heap.size v4 (ms ++ more) := Rowb.of hown4 (by simp) (by simp)
      have B4 := hid (grown_on BX.out b4)
      obtain ⟨z4, q4, rfl, hby4⟩ := rowb_bys hrow4 (by rw [List.length_append]; omega) OB.out
      clear hown4 hgrow4 NW2 hrow3 b4 hrow4 s3 b3'
      go_wp2_with fail
      refine (mread_err 8 (ms ++ more) _ hby4 (by simp) X8.out (by decide)).mono ?_
      rintro e w5 ⟨rfl, b5⟩
      have B5 := grown_on B4.out b5
      have GA := hg.below (B5.alloc B5.size (.cells #[.int .i64 0, .bool false, .int .i64 0, .bool false, .bool false, .bool false, .bool false, .bool false, .bool false, .bool false, .int .i64 0, .slice none 0 0, .slice none 0 0, .slice none 0 0, .slice none 0 0] 41))
      have HG := hid GA
      have HB5 := hid B5
      clear b5 B5 GA B4 hby4
      go_wp2_with fail
      refine (error_at 8 8 _ _ HG.out rfl rfl).mono ?_
      rintro e w6 ⟨rfl, b6⟩
      have B6 := hid (grown_on (HB5.out.alloc HB5.out.size _) b6)
      clear b6
      go_wp2_with fail
      go_ret
      exact ⟨rfl, B6.out⟩
  · have hnn : ¬ (0 ≤ n ∧ n < (ms.length : Int)) := hn
    by_cases g0 : 0 ≤ n
    · have g1 : ¬ n < (ms.length : Int) := fun q => hn ⟨g0, q⟩
      clear hn hnn
      by_cases hm : more = []
      · have hm0 : more.length = 0 := by rw [hm]; rfl
        rw [hm0]
        go_wp2_with fail
        go_ret
        exact ⟨rfl, BX.out⟩
      · have X8 := hid (msgR_extra HBS.out R.out hm)
        have hmp : 0 < more.length := by
          rcases Nat.eq_zero_or_pos more.length with q | q
          · exact absurd (List.length_eq_zero_iff.1 q) hm
          · exact q
        have hmp2 : ¬ (more.length : Int) = 0 := by omega
        obtain ⟨b2, o2, rfl⟩ : ∃ b off, y = some ⟨b, off, none⟩ := by
          rcases h2.2.2.2 with q | ⟨b, off, q, _⟩
          · rw [q] at hmp; simp at hmp
          · exact ⟨b, off, q⟩
        have HM := hid hm
        clear hm
        have NW : Hid (∀ j u, (ms.map (Value.int .u8))[j]? = some u → (WX.alloc (.cells #[] 5)).cell? ((⟨bk, off, none⟩ : Addr).add j) = some u) := hid (by
          have h4 := h.below (BX.out.alloc BX.out.size (.cells #[] 5))
          rcases h4.2.2.2 with q | ⟨_, _, q, _, q2⟩
          · intro j u hj; rw [q] at hj; simp at hj
          · cases q; exact bys_news q2)
        go_wp2_with (at_builtin; refine wpList_append_own_wide _ rfl _ _ 24 rfl WX.heap.size 5 i0 (.int .u8 0) 1 1 Tryd.underlying24 hi hz0 hz1 hz2 rfl (by decide) _ _ _ rfl (owns_void WX 5) ⟨bk, off, none⟩ ms.length c (ms.map (Value.int .u8)) rfl (by simp) NW.out (one_cells ms) (by unfold maxLen; omega) (by omega) (by simp) ?_)
        intro v3 w3 hown3 hgrow3 _
        have b3 : Below WX.heap.size WX w3 := grown_below (owns_void WX 5) ((Below.refl _ WX).alloc (Nat.le_refl _) _) (by simp) hgrow3
        have B3 := hid (grown_on BX.out b3)
        have hrow3 : Rowb w3 WX.heap.size v3 ms := Rowb.of hown3 (by simp) (by simp)
        have s3 := b3.size
        have NW2 : Hid (∀ j u, (more.map (Value.int .u8))[j]? = some u → w3.cell? ((⟨b2, o2, none⟩ : Addr).add j) = some u) := hid (by
          have h4 := h2.below B3.out
          rcases h4.2.2.2 with q | ⟨_, _, q, _, q2⟩
          · intro j u hj; rw [q] at hj; simp at hj
          · cases q; exact bys_news q2)
        have b3' := hid b3
        clear hown3 hgrow3 NW b3
        go_wp2_with (at_builtin; refine wpList_append_own_wide _ rfl _ _ 24 rfl WX.heap.size 5 i0 (.int .u8 0) 1 1 Tryd.underlying24 hi hz0 hz1 hz2 rfl (by decide) _ _ _ rfl hrow3 ⟨b2, o2, none⟩ more.length d (more.map (Value.int .u8)) rfl (by simp) NW2.out (one_cells more) (by unfold maxLen; omega) (by omega) s3 ?_)
        intro v4 w4 hown4 hgrow4 _
        have b4 : Below WX.heap.size WX w4 := grown_below hrow3 b3'.out s3 hgrow4
        have hrow4 : Rowb w4 WX.heap.size v4 (ms ++ more) := Rowb.of hown4 (by simp) (by simp)
        have B4 := hid (grown_on BX.out b4)
        obtain ⟨z4, q4, rfl, hby4⟩ := rowb_bys hrow4 (by rw [List.length_append]; omega) OB.out
        clear hown4 hgrow4 NW2 hrow3 b4 hrow4 s3 b3'
        go_wp2_with fail
        refine (mread_err 8 (ms ++ more) _ hby4 (by simp) X8.out (by decide)).mono ?_
        rintro e w5 ⟨rfl, b5⟩
        have B5 := grown_on B4.out b5
        have GA := hg.below (B5.alloc B5.size (.cells #[.int .i64 0, .bool false, .int .i64 0, .bool false, .bool false, .bool false, .bool false, .bool false, .bool false, .bool false, .int .i64 0, .slice none 0 0, .slice none 0 0, .slice none 0 0, .slice none 0 0] 41))
        have HG := hid GA
        have HB5 := hid B5
        clear b5 B5 GA B4 hby4
        go_wp2_with fail
        refine (error_at 8 8 _ _ HG.out rfl rfl).mono ?_
        rintro e w6 ⟨rfl, b6⟩
        have B6 := hid (grown_on (HB5.out.alloc HB5.out.size _) b6)
        clear b6
        go_wp2_with fail
        go_ret
        exact ⟨rfl, B6.out⟩
    · clear hn hnn
      by_cases hm : more = []
      · have hm0 : more.length = 0 := by rw [hm]; rfl
        rw [hm0]
        go_wp2_with fail
        go_ret
        exact ⟨rfl, BX.out⟩
      · have X8 := hid (msgR_extra HBS.out R.out hm)
        have hmp : 0 < more.length := by
          rcases Nat.eq_zero_or_pos more.length with q | q
          · exact absurd (List.length_eq_zero_iff.1 q) hm
          · exact q
        have hmp2 : ¬ (more.length : Int) = 0 := by omega
        obtain ⟨b2, o2, rfl⟩ : ∃ b off, y = some ⟨b, off, none⟩ := by
          rcases h2.2.2.2 with q | ⟨b, off, q, _⟩
          · rw [q] at hmp; simp at hmp
          · exact ⟨b, off, q⟩
        have HM := hid hm
        clear hm
        have NW : Hid (∀ j u, (ms.map (Value.int .u8))[j]? = some u → (WX.alloc (.cells #[] 5)).cell? ((⟨bk, off, none⟩ : Addr).add j) = some u) := hid (by
          have h4 := h.below (BX.out.alloc BX.out.size (.cells #[] 5))
          rcases h4.2.2.2 with q | ⟨_, _, q, _, q2⟩
          · intro j u hj; rw [q] at hj; simp at hj
          · cases q; exact bys_news q2)
        go_wp2_with (at_builtin; refine wpList_append_own_wide _ rfl _ _ 24 rfl WX.heap.size 5 i0 (.int .u8 0) 1 1 Tryd.underlying24 hi hz0 hz1 hz2 rfl (by decide) _ _ _ rfl (owns_void WX 5) ⟨bk, off, none⟩ ms.length c (ms.map (Value.int .u8)) rfl (by simp) NW.out (one_cells ms) (by unfold maxLen; omega) (by omega) (by simp) ?_)
        intro v3 w3 hown3 hgrow3 _
        have b3 : Below WX.heap.size WX w3 := grown_below (owns_void WX 5) ((Below.refl _ WX).alloc (Nat.le_refl _) _) (by simp) hgrow3
        have B3 := hid (grown_on BX.out b3)
        have hrow3 : Rowb w3 WX.heap.size v3 ms := Rowb.of hown3 (by simp) (by simp)
        have s3 := b3.size
        have NW2 : Hid (∀ j u, (more.map (Value.int .u8))[j]? = some u → w3.cell? ((⟨b2, o2, none⟩ : Addr).add j) = some u) := hid (by
          have h4 := h2.below B3.out
          rcases h4.2.2.2 with q | ⟨_, _, q, _, q2⟩
          · intro j u hj; rw [q] at hj; simp at hj
          · cases q; exact bys_news q2)
        have b3' := hid b3
        clear hown3 hgrow3 NW b3
        go_wp2_with (at_builtin; refine wpList_append_own_wide _ rfl _ _ 24 rfl WX.heap.size 5 i0 (.int .u8 0) 1 1 Tryd.underlying24 hi hz0 hz1 hz2 rfl (by decide) _ _ _ rfl hrow3 ⟨b2, o2, none⟩ more.length d (more.map (Value.int .u8)) rfl (by simp) NW2.out (one_cells more) (by unfold maxLen; omega) (by omega) s3 ?_)
        intro v4 w4 hown4 hgrow4 _
        have b4 : Below WX.heap.size WX w4 := grown_below hrow3 b3'.out s3 hgrow4
        have hrow4 : Rowb w4 WX.heap.size v4 (ms ++ more) := Rowb.of hown4 (by simp) (by simp)
        have B4 := hid (grown_on BX.out b4)
        obtain ⟨z4, q4, rfl, hby4⟩ := rowb_bys hrow4 (by rw [List.length_append]; omega) OB.out
        clear hown4 hgrow4 NW2 hrow3 b4 hrow4 s3 b3'
        go_wp2_with fail
        refine (mread_err 8 (ms ++ more) _ hby4 (by simp) X8.out (by decide)).mono ?_
        rintro e w5 ⟨rfl, b5⟩
        have B5 := grown_on B4.out b5
        have GA := hg.below (B5.alloc B5.size (.cells #[.int .i64 0, .bool false, .int .i64 0, .bool false, .bool false, .bool false, .bool false, .bool false, .bool false, .bool false, .int .i64 0, .slice none 0 0, .slice none 0 0, .slice none 0 0, .slice none 0 0] 41))
        have HG := hid GA
        have HB5 := hid B5
        clear b5 B5 GA B4 hby4
        go_wp2_with fail
        refine (error_at 8 8 _ _ HG.out rfl rfl).mono ?_
        rintro e w6 ⟨rfl, b6⟩
        have B6 := hid (grown_on (HB5.out.alloc HB5.out.size _) b6)
        clear b6
        go_wp2_with fail
        go_ret
        exact ⟨rfl, B6.out⟩

end Go.Proofs.YtjpahieeaojieaaDoor
