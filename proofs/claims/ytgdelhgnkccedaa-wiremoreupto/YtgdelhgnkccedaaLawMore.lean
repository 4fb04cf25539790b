/-
  The walk of the law WireMore over its callees' contracts: for any message, any place and any bytes behind, together not too long, it hands back true, and writes nothing that was there.
-/
import Derived.Test.YtgdelhgnkccedaaMsgAt
namespace Go.Proofs.Ytgdelhgnkccedaa
open Go.RowKit Go.Deep

theorem owns_some {w : World} {B e n : Nat} {v : Value} {xs : List Value} (h : w.ownsRow B e 1 v n xs) (hn : 0 < n) : ∃ g cap, v = .slice (some ⟨g, 0, none⟩) n cap ∧ n ≤ cap := by
  rcases h.2 with ⟨_, h2⟩ | ⟨g, cap, _, h2, _, _, h3, _⟩
  · omega
  · exact ⟨g, cap, h2, h3⟩

set_option maxHeartbeats 2000000 in
set_option maxRecDepth 100000 in
theorem more_walk {x y : Option Addr} {c d l l' : Nat} (ms more : List Int) (at0 : Int) (w : World) (h : Bys w x c ms) (h2 : Bys w y d more) (hl : ms.length = l) (hl' : more.length = l') (hy : y = none → d = 0) (hs : ms.length + more.length ≤ 100000000000000) (h9 : at0 ≤ 9223372036854775807) :
    Calls Try.prog 5 #[.slice x l c, .int .i64 at0, .slice y l' d] w fun e w' => e = .returned (.bool true) ∧ Below w.heap.size w w' := by
  obtain ⟨i0, hi, hz0, hz1, hz2⟩ := info_of_byte
  subst hl hl'
  obtain ⟨r, hr⟩ : ∃ r, readW ms at0 = r := ⟨_, rfl⟩
  obtain ⟨k, L, n⟩ := r
  by_cases k0 : k = 0
  · subst k0
    obtain ⟨m0, m1, m2, m3, m4⟩ := readW_may h.2.2.1 hr
    have R := hid hr
    have R2 := hid (readW_behind more hr)
    have M3 := hid m3
    have M4 := hid (map_bs_of L m4)
    have HB := hid h.2.2.1
    have HB2 := hid h2.2.2.1
    have hx : ∃ b off, x = some ⟨b, off, none⟩ := by
      rcases h.2.2.2 with q | ⟨b, off, q, _⟩
      · rw [q] at m2; simp at m2; omega
      · exact ⟨b, off, q⟩
    obtain ⟨b, off, rfl⟩ := hx
    have hpos : 0 < ms.length := by omega
    clear hr m3 m4
    go_enter Try.func5, Try.ntmps5
    go_wp2_with fail
    refine (write_good [1, 97, 0] [] [⟨#[97]⟩] _ (Bys.nil _ none 0) (one_new w ⟨#[97]⟩ (by decide)) rfl rfl (by simp) fact_check fact_write).mono ?_
    rintro e w1 ⟨z, q, rfl, _, b1⟩
    have B1 := grown_on ((Below.refl _ w).alloc (Nat.le_refl _) _) b1
    clear b1
    go_wp2_with fail
    refine (read_at 0 L n ms at0 _ (h.below B1) rfl h9 R.out).mono fun e w2 hp => ?_
    obtain ⟨y1, q1, rfl, hst, b2⟩ := readAt_ok hp
    have B2 := grown_on B1 b2
    clear hp b2 B1
    have hnews : ∀ j u, (ms.map (Value.int .u8))[j]? = some u → (w2.alloc (.cells #[] 5)).cell? ((⟨b, off, none⟩ : Addr).add j) = some u := by
      have h4 := h.below (B2.alloc B2.size (.cells #[] 5))
      rcases h4.2.2.2 with q | ⟨_, _, q, _, q2⟩
      · subst q; simp
      · cases q; exact bys_news q2
    have NW := hid hnews
    clear hnews
    go_wp2_with (at_builtin; refine wpList_append_own _ rfl _ _ 22 rfl w2.heap.size 5 i0 (.int .u8 0) 1 1 Try.underlying22 hi hz0 hz1 hz2 rfl (by decide) _ _ _ rfl (owns_empty w2 5) ⟨b, off, none⟩ ms.length c (ms.map (Value.int .u8)) rfl (by simp) NW.out (one_cells ms) (by unfold maxLen; omega) (by omega) (by simp) ?_)
    intro v3 w3 hown3 hgrow3 _
    have b3 : Below w2.heap.size w2 w3 := grown_below (owns_empty w2 5) ((Below.refl _ w2).alloc (Nat.le_refl _) _) (by simp) hgrow3
    have B3 := grown_on B2 b3
    have hrow3 : Rowb w3 w2.heap.size v3 ms := Rowb.of hown3 (by simp) (by simp)
    have hst3 := hst.below b3
    have s3 := b3.size
    have HS : Hid (∀ w4, Below w2.heap.size w2 w4 → Strs w4 y1 q1 (L.map strOfNums)) := fun w4 q => hst.below q
    have BW : Hid (∀ w4, Below w2.heap.size w2 w4 → Below w.heap.size w w4) := fun w4 q => grown_on B2 q
    clear hown3 hgrow3 NW hst B2
    have OB : Hid (∀ b ∈ ms ++ more, 0 ≤ b ∧ b ≤ 255) := fun b q => by
      rcases List.mem_append.1 q with q | q
      · exact HB.out b q
      · exact HB2.out b q
    cases y with
    | none =>
      have hm : more = [] := by
        rcases h2.2.2.2 with q | ⟨_, _, q, _⟩
        · exact q
        · cases q
      subst hm
      obtain rfl := hy rfl
      obtain ⟨g, cap, rfl, hcap⟩ := owns_some hrow3 hpos
      go_wp2_with (at_builtin; refine wpList_append_none rfl _ _ 22 rfl (.slice (some ⟨g, 0, none⟩) ms.length cap) rfl rfl (run_append_none Try.underlying22 hi w3 _ g 0 ms.length cap hcap) ?_)
      have B4 := B3
      have hst4 := hst3
      obtain ⟨z4, q4, ez, hby4⟩ := rowb_bys hrow3 (by omega) HB.out
      cases ez
      clear hrow3 B3 hst3 b3
      go_wp2_with fail
      refine (read_at 0 L n ms at0 _ hby4 rfl h9 R.out).mono fun e w5 hp => ?_
      obtain ⟨y5, q5, rfl, hst5, b5⟩ := readAt_ok hp
      have B5 := grown_on B4 b5
      have hst6 := hst4.below b5
      clear hp b5 B4 hst4 hby4
      go_wp2_with fail
      refine (texts_here true _ _ _ hst5 hst6 (by simp) (by simp) (by simp)).mono ?_
      rintro e w6 ⟨rfl, b6⟩
      have B6 := grown_on B5 b6
      have hst7 := hst6.below b6
      clear b6 B5 hst5 hst6
      go_wp2_with fail
      refine (write_good _ [] (L.map strOfNums) _ (Bys.nil _ none 0) hst7 rfl (by simp) (by simp) (by rw [M4.out]; exact M3.out) rfl).mono ?_
      rintro e w7 ⟨z7, q7, rfl, _, b7⟩
      have B7 := grown_on B6 b7
      have hst8 := hst7.below b7
      clear b7 B6 hst7
      go_wp2_with fail
      refine (check_at .nilIface (L.map strOfNums) _ hst8 (by simp) (by rw [M4.out, M3.out]; rfl)).mono ?_
      rintro e w8 ⟨rfl, rfl⟩
      go_wp2_with fail
      go_ret
      exact ⟨rfl, B7⟩
    | some ad =>
      have hnews : ∀ j u, (more.map (Value.int .u8))[j]? = some u → w3.cell? (ad.add j) = some u := by
        have h4 := h2.below B3
        rcases h4.2.2.2 with q | ⟨_, _, q, _, q2⟩
        · subst q; simp
        · cases q; exact bys_news q2
      have NW := hid hnews
      clear hnews
      go_wp2_with (at_builtin; refine wpList_append_own _ rfl _ _ 22 rfl w2.heap.size 5 i0 (.int .u8 0) 1 1 Try.underlying22 hi hz0 hz1 hz2 rfl (by decide) _ _ _ rfl hrow3 ad more.length d (more.map (Value.int .u8)) rfl (by simp) NW.out (one_cells more) (by unfold maxLen; omega) (by omega) s3 ?_)
      intro v4 w4 hown4 hgrow4 _
      have b4 : Below w2.heap.size w2 w4 := grown_below hrow3 b3 s3 hgrow4
      have hrow4 : Rowb w4 w2.heap.size v4 (ms ++ more) := Rowb.of hown4 (by simp) (by simp)
      have B4 : Below w.heap.size w w4 := BW.out w4 b4
      have hst4 := HS.out w4 b4
      clear hown4 hgrow4 NW hrow3 b3 b4 B3 hst3
      obtain ⟨z4, q4, rfl, hby4⟩ := rowb_bys hrow4 (by rw [List.length_append]; omega) OB.out
      clear hrow4
      go_wp2_with fail
      refine (read_at 0 L n (ms ++ more) at0 _ hby4 (by simp) h9 R2.out).mono fun e w5 hp => ?_
      obtain ⟨y5, q5, rfl, hst5, b5⟩ := readAt_ok hp
      have B5 := grown_on B4 b5
      have hst6 := hst4.below b5
      clear hp b5 B4 hst4 hby4
      go_wp2_with fail
      refine (texts_here true _ _ _ hst5 hst6 (by simp) (by simp) (by simp)).mono ?_
      rintro e w6 ⟨rfl, b6⟩
      have B6 := grown_on B5 b6
      have hst7 := hst6.below b6
      clear b6 B5 hst5 hst6
      go_wp2_with fail
      refine (write_good _ [] (L.map strOfNums) _ (Bys.nil _ none 0) hst7 rfl (by simp) (by simp) (by rw [M4.out]; exact M3.out) rfl).mono ?_
      rintro e w7 ⟨z7, q7, rfl, _, b7⟩
      have B7 := grown_on B6 b7
      have hst8 := hst7.below b7
      clear b7 B6 hst7
      go_wp2_with fail
      refine (check_at .nilIface (L.map strOfNums) _ hst8 (by simp) (by rw [M4.out, M3.out]; rfl)).mono ?_
      rintro e w8 ⟨rfl, rfl⟩
      go_wp2_with fail
      go_ret
      exact ⟨rfl, B7⟩
  · obtain ⟨rfl, rfl⟩ := readW_norm hr k0
    have R := hid hr
    have K := hid k0
    clear hr k0
    go_enter Try.func5, Try.ntmps5
    go_wp2_with fail
    refine (write_good [1, 97, 0] [] [⟨#[97]⟩] _ (Bys.nil _ none 0) (one_new w ⟨#[97]⟩ (by decide)) rfl rfl (by simp) fact_check fact_write).mono ?_
    rintro e w1 ⟨z, q, rfl, _, b1⟩
    have B1 := grown_on ((Below.refl _ w).alloc (Nat.le_refl _) _) b1
    clear b1
    go_wp2_with fail
    refine (read_at k [] 0 ms at0 _ (h.below B1) rfl h9 R.out).mono fun e w2 hp => ?_
    obtain ⟨y1, q1, rfl, b2⟩ := readAt_no hp K.out
    have B2 := grown_on B1 b2
    clear hp b2 B1
    go_wp2_with fail
    go_ret
    exact ⟨rfl, B2⟩

end Go.Proofs.Ytgdelhgnkccedaa
