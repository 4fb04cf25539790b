/-
  The walk of the law WireBack over its callees' contracts: for any message, any starts and any labels it hands back true, and writes nothing that was there.
-/
import Derived.Test.YtgdelhgnkccedaaMsgPacks
import Derived.Test.YtgdelhgnkccedaaPackFacts
namespace Go.Proofs.Ytgdelhgnkccedaa
open Go.RowKit Go.Deep

theorem Bys.take {w : World} {x : Option Addr} {c : Nat} {ms : List Int} (h : Bys w x c ms) (k : Nat) : Bys w x c (ms.take k) := by
  obtain ⟨h1, h2, h3, h4⟩ := h
  refine ⟨by rw [List.length_take]; omega, by rw [List.length_take]; omega, fun b hb => h3 b (List.mem_of_mem_take hb), ?_⟩
  rcases h4 with h4 | ⟨b, off, hx, hb, hc⟩
  · left; rw [h4]; simp
  · refine Or.inr ⟨b, off, hx, hb, fun i hi => ?_⟩
    rw [List.length_take] at hi
    rw [hc i (by omega), List.getD_eq_getElem?_getD, List.getD_eq_getElem?_getD, List.getElem?_take_of_lt (by omega)]

set_option maxHeartbeats 2000000 in
set_option maxRecDepth 100000 in
theorem wback_walk {x y z : Option Addr} {c d cz l l' lz : Nat} (ms starts : List Int) (n : List ByteArray) (w : World) (h : Bys w x c ms) (hz : Ints w z cz starts) (hn : Strs w y d n) (hl : ms.length = l) (hl' : n.length = l') (hlz : starts.length = lz)
    (hm : ms.length ≤ 140737488354900) (hs : starts.length ≤ 17592186044100) :
    Calls Try.prog 3 #[.slice x l c, .slice z lz cz, .slice y l' d] w fun e w' => e = .returned (.bool true) ∧ Below w.heap.size w w' := by
  have hbs := h.2.2.1
  subst hl hl' hlz
  obtain ⟨k, hk⟩ : ∃ k, Nm.checkN (n.map Nm.bs) = k := ⟨_, rfl⟩
  by_cases k0 : k = 0
  · subst k0
    have R1 := read_written hbs hk
    have R2 := read_packed (starts := starts) hbs hk 0 (Nat.zero_le _)
    have PL := pack_len (starts := starts) (n := n) hbs
    have PA := pack_ahead ms starts n
    obtain ⟨o1, ho1⟩ : ∃ o1, ms ++ Nm.sentL (n.map Nm.bs) ++ [0] = o1 := ⟨_, rfl⟩
    obtain ⟨o2, ho2⟩ : ∃ o2, packOut ms n starts = o2 := ⟨_, rfl⟩
    obtain ⟨t2, ht2⟩ : ∃ t2, packTold ms n starts = t2 := ⟨_, rfl⟩
    have e0 : ms.length + Nm.total ((n.map Nm.bs).take 0) = ms.length := by simp [Nm.total]
    rw [e0] at R2
    simp only [List.drop_zero] at R2
    rw [ho1] at R1 PL
    rw [ho2] at R2 PL PA
    obtain ⟨l1, l2⟩ := PL
    have RR1 := hid R1
    have RR2 := hid R2
    have PPA := hid PA
    have HO1 := hid ho1
    have HO2 := hid ho2
    have HT2 := hid ht2
    have K := hid hk
    have MB := hid (map_nums_bs n)
    clear R1 R2 PA ho1 ho2 ht2 e0 hk
    go_enter Try.func3, Try.ntmps3
    go_wp2_with fail
    refine (write_good [1, 97, 0] [] [⟨#[97]⟩] _ (Bys.nil _ none 0) (one_new w ⟨#[97]⟩ (by decide)) rfl rfl (by simp) fact_check fact_write).mono ?_
    rintro e w1 ⟨z1, q1, rfl, hby1, b1⟩
    have B1 := grown_on ((Below.refl _ w).alloc (Nat.le_refl _) _) b1
    clear b1
    go_wp2_with fail
    refine (bytes_at true [1, 97, 0] [1, 97, 0] _ (hby1.below ((Below.refl _ _).alloc (Nat.le_refl _) _)) (bys_new w1 [1, 97, 0] (by decide) (by decide)) rfl rfl rfl).mono ?_
    rintro e w2 ⟨rfl, b2⟩
    have B2 := grown_on (B1.alloc B1.size _) b2
    clear b2 B1 hby1
    go_wp2_with fail
    refine (write_good o1 ms n _ (h.below B2) (hn.below B2) rfl rfl hm K.out HO1.out).mono ?_
    rintro e w3 ⟨x3, q3, rfl, hby3, b3⟩
    have B3 := grown_on B2 b3
    clear b3 B2
    go_wp2_with fail
    refine (read_at 0 (n.map Nm.bs) o1.length o1 (ms.length : Int) _ hby3 rfl (by omega) RR1.out).mono fun e w4 hp => ?_
    obtain ⟨y4, q4, rfl, hst4, b4⟩ := readAt_ok hp
    rw [MB.out] at hst4
    have B4 := grown_on B3 b4
    clear hp b4 B3 hby3
    go_wp2_with fail
    refine (texts_here true n n _ hst4 (hn.below B4) (by simp) rfl (by simp)).mono ?_
    rintro e w5 ⟨rfl, b5⟩
    have B5 := grown_on B4 b5
    clear b5 B4 hst4
    go_wp2_with fail
    refine (pack_good o2 t2 ms starts n _ (h.below B5) (hz.below B5) (hn.below B5) rfl rfl rfl hm hs K.out HO2.out HT2.out).mono ?_
    rintro e w6 ⟨x6, q6, y6, d6, rfl, hby6, _, b6⟩
    have B6 := grown_on B5 b6
    have c6 : o2.length ≤ q6 := hby6.1
    clear b6 B5
    go_wp2_with fail
    refine (read_at 0 (n.map Nm.bs) o2.length o2 (ms.length : Int) _ hby6 rfl (by omega) RR2.out).mono fun e w7 hp => ?_
    obtain ⟨y7, q7, rfl, hst7, b7⟩ := readAt_ok hp
    rw [MB.out] at hst7
    have B7 := grown_on B6 b7
    have hby7 := hby6.below b7
    clear hp b7 B6 hby6
    go_wp2_with fail
    refine (texts_here true n n _ hst7 (hn.below B7) (by simp) rfl (by simp)).mono ?_
    rintro e w8 ⟨rfl, b8⟩
    have B8 := grown_on B7 b8
    have hby8 := (hby7.below b8).take ms.length
    rw [PPA.out] at hby8
    clear b8 B7 hst7 hby7
    go_wp2_with fail
    refine (bytes_at true ms ms _ hby8 (h.below B8) rfl rfl (by simp)).mono ?_
    rintro e w9 ⟨rfl, b9⟩
    have B9 := grown_on B8 b9
    clear b9 B8 hby8
    go_wp2_with fail
    go_ret
    exact ⟨rfl, B9⟩
  · have K := hid hk
    have K0 := hid k0
    clear hk k0
    go_enter Try.func3, Try.ntmps3
    go_wp2_with fail
    refine (write_good [1, 97, 0] [] [⟨#[97]⟩] _ (Bys.nil _ none 0) (one_new w ⟨#[97]⟩ (by decide)) rfl rfl (by simp) fact_check fact_write).mono ?_
    rintro e w1 ⟨z1, q1, rfl, hby1, b1⟩
    have B1 := grown_on ((Below.refl _ w).alloc (Nat.le_refl _) _) b1
    clear b1
    go_wp2_with fail
    refine (bytes_at true [1, 97, 0] [1, 97, 0] _ (hby1.below ((Below.refl _ _).alloc (Nat.le_refl _) _)) (bys_new w1 [1, 97, 0] (by decide) (by decide)) rfl rfl rfl).mono ?_
    rintro e w2 ⟨rfl, b2⟩
    have B2 := grown_on (B1.alloc B1.size _) b2
    clear b2 B1 hby1
    go_wp2_with fail
    refine (write_bad k n _ (hn.below B2) rfl K.out K0.out).mono ?_
    rintro e w3 ⟨rfl, rfl⟩
    go_wp2_with fail
    go_ret
    exact ⟨rfl, B2⟩

end Go.Proofs.Ytgdelhgnkccedaa
