/-
  The walk of the law WireStarts over its callees' contracts: for any message and any two lists of labels it hands back true, and writes nothing that was there.
-/
import Derived.Test.YtgdelhgnkccedaaMsgPacks
import Derived.Test.YtgdelhgnkccedaaPackFacts
namespace Go.Proofs.Ytgdelhgnkccedaa
open Go.RowKit Go.Deep

/-- What holds of a message packed behind another one with no starts: its places, and what is read there. -/
theorem starts_first {ms : List Int} {n : List ByteArray} (hb : ∀ b ∈ ms, 0 ≤ b ∧ b ≤ 255) (hk : Nm.checkN (n.map Nm.bs) = 0) (i : Nat) (hi : i < (packTold ms n []).length) :
    i < n.length ∧ readW (packOut ms n []) ((packTold ms n []).getD i 0) = (0, (n.map Nm.bs).drop i, (packOut ms n []).length) := by
  have e : packTold ms n [] = placesN ms.length (n.map Nm.bs) n.length := by unfold packTold; rw [look_nil]; rfl
  rw [e] at hi ⊢
  obtain ⟨h1, h2⟩ := places_get hi
  refine ⟨h1, ?_⟩
  rw [h2, read_packed hb hk i (by rw [look_nil]; simp only; omega)]

theorem out_len (ms starts : List Int) (n : List ByteArray) (hk : Nm.checkN (n.map Nm.bs) = 0) : (packOut ms n starts).length ≤ ms.length + 256 := by
  unfold packOut
  rw [List.length_append, List.length_append, Nm.sentL_length]
  have := total_take_le n (n.length - (lookN ms n starts).2.1) hk
  have : (tailN (lookN ms n starts).2.1 (lookN ms n starts).2.2).length ≤ 2 := by
    unfold tailN; split <;> simp
  omega

theorem told_len (ms : List Int) (n : List ByteArray) (hk : Nm.checkN (n.map Nm.bs) = 0) : (packTold ms n []).length ≤ 254 := by
  have e : packTold ms n [] = placesN ms.length (n.map Nm.bs) n.length := by unfold packTold; rw [look_nil]; rfl
  rw [e]
  have a := places_len ms.length (n.map Nm.bs) n.length
  have b := check_len hk
  rw [List.length_map] at b
  omega

theorem out_of_bytes {ms starts : List Int} {n : List ByteArray} (hb : ∀ b ∈ ms, 0 ≤ b ∧ b ≤ 255) (hk : Nm.checkN (n.map Nm.bs) = 0) : ∀ b ∈ packOut ms n starts, 0 ≤ b ∧ b ≤ 255 := by
  unfold packOut
  have LKD := looked ms n hb starts
  exact pack_bytes hb hk (fun q => ⟨(LKD.2.2.2 q).1, (LKD.2.2.2 q).2.1⟩)

theorem told_more {ms starts : List Int} {n : List ByteArray} (h : ∀ z ∈ starts, (readW ms z).1 = 0) : starts.length ≤ (packTold ms n starts).length ∧ (packTold ms n starts).length ≤ starts.length + n.length := by
  unfold packTold
  rw [lookN_keeps h, List.length_append]
  have := places_len ms.length (n.map Nm.bs) (n.length - (lookN ms n starts).2.1)
  omega

theorem read_zero {ms : List Int} {z : Int} (h : (readW ms z).1 = 0) : ∃ L m, readW ms z = (0, L, m) := ⟨(readW ms z).2.1, (readW ms z).2.2, by rw [← h]⟩

theorem getD_mem {zs : List Int} {i : Nat} (h : i < zs.length) : zs.getD i 0 ∈ zs := by
  rw [List.getD_eq_getElem?_getD, List.getElem?_eq_getElem h]
  exact List.getElem_mem h

set_option maxHeartbeats 2000000 in
set_option maxRecDepth 100000 in
theorem wstarts_walk {x y z : Option Addr} {c d dz l l' lz : Nat} (ms : List Int) (n k : List ByteArray) (w : World) (h : Bys w x c ms) (hn : Strs w y d n) (hk : Strs w z dz k) (hl : ms.length = l) (hl' : n.length = l') (hlz : k.length = lz)
    (hm : ms.length ≤ 140737488354500) :
    Calls Try.prog 4 #[.slice x l c, .slice y l' d, .slice z lz dz] w fun e w' => e = .returned (.bool true) ∧ Below w.heap.size w w' := by
  have hbs := h.2.2.1
  subst hl hl' hlz
  obtain ⟨f, hf⟩ : ∃ f, Nm.checkN (n.map Nm.bs) = f := ⟨_, rfl⟩
  by_cases f0 : f = 0
  · subst f0
    have R1 := hid (starts_first hbs hf)
    have OL := out_len ms [] n hf
    have TL := told_len ms n hf
    have OB := hid (out_of_bytes (starts := []) hbs hf)
    have EA := hid (packed_each (starts := []) hbs hf)
    obtain ⟨o1, ho1⟩ : ∃ o1, packOut ms n [] = o1 := ⟨_, rfl⟩
    obtain ⟨t1, ht1⟩ : ∃ t1, packTold ms n [] = t1 := ⟨_, rfl⟩
    rw [ho1] at OL OB EA R1
    rw [ht1] at TL EA R1
    have HO1 := hid ho1
    have HT1 := hid ht1
    have F := hid hf
    have hnl : n.length ≤ 8796093022208 := hn.2.1
    have hnd : n.length ≤ d := hn.1
    clear ho1 ht1 hf
    go_enter Try.func4, Try.ntmps4
    go_wp2_with fail
    refine (write_good [1, 97, 0] [] [⟨#[97]⟩] _ (Bys.nil _ none 0) (one_new w ⟨#[97]⟩ (by decide)) rfl rfl (by simp) fact_check fact_write).mono ?_
    rintro e w1 ⟨z1, q1, rfl, _, b1⟩
    have B1 := grown_on ((Below.refl _ w).alloc (Nat.le_refl _) _) b1
    clear b1
    go_wp2_with fail
    refine (pack_good o1 t1 ms [] n _ (h.below B1) (Ints.nil _ none 0) (hn.below B1) rfl rfl rfl (by omega) (by simp) F.out HO1.out HT1.out).mono ?_
    rintro e w2 ⟨x2, q2, y2, d2, rfl, hby2, hin2, b2⟩
    have B2 := grown_on B1 b2
    clear b2 B1
    go_wp2_with fail
    go_loopw [12] (fun vi wr => ∃ i : Nat, i ≤ t1.length ∧ vi = .int .i64 (i : Int) ∧ Below w2.heap.size w2 wr) (fun vi _ => t1.length - (intOf vi).toNat)
    case atStart => exact ⟨0, Nat.zero_le _, rfl, Below.refl _ _⟩
    case round =>
      obtain ⟨i, hi, rfl, bw⟩ := hrel
      by_cases c1 : i < t1.length
      · obtain ⟨_, _, sa, da⟩ := hin2.below bw
        rcases da with da | ⟨ba, oa, rfl, _, qa⟩
        · rw [da] at c1; simp at c1
        have fa := qa i c1
        have hst := getD_int sa i
        have hir := (R1.out i c1).1
        have RI := hid (R1.out i c1).2
        clear qa sa
        generalize t1.getD i 0 = st at *
        obtain ⟨hst0, hst1⟩ := hst
        have hy : ∃ b off, y = some ⟨b, off, none⟩ := by
          rcases hn.2.2.2 with q | ⟨b, off, q, _⟩
          · rw [q] at hir; simp at hir
          · exact ⟨b, off, q⟩
        obtain ⟨yb, yo, rfl⟩ := hy
        have hne : ¬ d = i := by omega
        go_wp2_with fail
        refine (read_at 0 ((n.map Nm.bs).drop i) o1.length o1 st _ (hby2.below bw) rfl hst1 RI.out).mono fun e w3 hp => ?_
        obtain ⟨y3, q3, rfl, hst3, b3⟩ := readAt_ok hp
        rw [List.map_drop, map_nums_bs] at hst3
        have bw3 := grown_on bw b3
        have hn3 := strs_drop (hn.below (grown_on B2 bw3)) i (by omega)
        clear hp b3 bw fa
        go_wp2_with fail
        refine (texts_here true (n.drop i) (n.drop i) _ hst3 hn3 (by simp) (by simp) (by simp)).mono ?_
        rintro e w4 ⟨rfl, b4⟩
        have bw4 := grown_on bw3 b4
        clear b4 bw3 hst3 hn3
        go_wp2_with fail
        exact ⟨⟨i + 1, by omega, by go_num, bw4⟩, by simp [intOf]; omega⟩
      · have B3 := grown_on B2 bw
        have hby3 := hby2.below bw
        have hin3 := hin2.below bw
        clear bw hby2 hin2 B2 R1
        obtain ⟨g, hg⟩ : ∃ g, Nm.checkN (k.map Nm.bs) = g := ⟨_, rfl⟩
        by_cases g0 : g = 0
        · subst g0
          have EA2 := hid (packed_each (starts := t1) OB.out hg)
          have TM := told_more (n := k) EA.out
          have hkl := check_len hg
          rw [List.length_map] at hkl
          obtain ⟨o2, ho2⟩ : ∃ o2, packOut o1 k t1 = o2 := ⟨_, rfl⟩
          obtain ⟨t2, ht2⟩ : ∃ t2, packTold o1 k t1 = t2 := ⟨_, rfl⟩
          rw [ho2] at EA2
          rw [ht2] at EA2 TM
          obtain ⟨tm1, tm2⟩ := TM
          have HO2 := hid ho2
          have HT2 := hid ht2
          have G := hid hg
          clear ho2 ht2 hg
          go_wp2_with fail
          refine (pack_good o2 t2 o1 t1 k _ hby3 hin3 (hk.below B3) rfl rfl rfl (by omega) (by omega) G.out HO2.out HT2.out).mono ?_
          rintro e w5 ⟨x5, q5, y5, d5, rfl, hby5, hin5, b5⟩
          have B5 := grown_on B3 b5
          clear b5 B3 hby3 hin3
          go_wp2_with fail
          go_loopw [19] (fun vi wr => ∃ i : Nat, i ≤ t2.length ∧ vi = .int .i64 (i : Int) ∧ Below w5.heap.size w5 wr) (fun vi _ => t2.length - (intOf vi).toNat)
          case atStart => exact ⟨0, Nat.zero_le _, rfl, Below.refl _ _⟩
          case round =>
            obtain ⟨j, hj, rfl, bw⟩ := hrel
            by_cases c2 : j < t2.length
            · obtain ⟨_, _, sa, da⟩ := hin5.below bw
              rcases da with da | ⟨ba, oa, rfl, _, qa⟩
              · rw [da] at c2; simp at c2
              have fa := qa j c2
              have hst := getD_int sa j
              obtain ⟨L, m, hr⟩ := read_zero (EA2.out _ (getD_mem c2))
              clear qa sa
              generalize t2.getD j 0 = st at *
              obtain ⟨hst0, hst1⟩ := hst
              have RI := hid hr
              clear hr
              go_wp2_with fail
              refine (read_at 0 L m o2 st _ (hby5.below bw) rfl hst1 RI.out).mono fun e w6 hp => ?_
              obtain ⟨y6, q6, rfl, _, b6⟩ := readAt_ok hp
              have bw6 := grown_on bw b6
              clear hp b6 bw fa
              go_wp2_with fail
              exact ⟨⟨j + 1, by omega, by go_num, bw6⟩, by simp [intOf]; omega⟩
            · have B6 := grown_on B5 bw
              clear bw B5
              go_wp2_with fail
              go_ret
              exact ⟨ret_bool (by simp), B6⟩
        · have G := hid hg
          have G0 := hid g0
          clear hg g0
          go_wp2_with fail
          refine (pack_bad g k _ (hk.below B3) rfl G.out G0.out).mono ?_
          rintro e w5 ⟨rfl, rfl⟩
          go_wp2_with fail
          go_ret
          exact ⟨rfl, B3⟩
  · have F := hid hf
    have F0 := hid f0
    clear hf f0
    go_enter Try.func4, Try.ntmps4
    go_wp2_with fail
    refine (write_good [1, 97, 0] [] [⟨#[97]⟩] _ (Bys.nil _ none 0) (one_new w ⟨#[97]⟩ (by decide)) rfl rfl (by simp) fact_check fact_write).mono ?_
    rintro e w1 ⟨z1, q1, rfl, _, b1⟩
    have B1 := grown_on ((Below.refl _ w).alloc (Nat.le_refl _) _) b1
    clear b1
    go_wp2_with fail
    refine (pack_bad f n _ (hn.below B1) rfl F.out F0.out).mono ?_
    rintro e w2 ⟨rfl, rfl⟩
    go_wp2_with fail
    go_ret
    exact ⟨rfl, B1⟩

end Go.Proofs.Ytgdelhgnkccedaa
