/-
  The walk of Pack itself.
-/
import Derived.Test.YtbbgabdiikdjpaaDoorMsgPack
namespace Go.Proofs.YtbbgabdiikdjpaaDoor
open Go.RowKit Go.Deep

set_option maxHeartbeats 1000000 in
set_option maxRecDepth 100000 in
theorem pack_bad {x y z : Option Addr} {c d cz l l' lz : Nat} (k : Int) (n : List ByteArray) (w : World) (hn : Strs w y d n) (hl' : n.length = l') (hk : Nm.checkN (n.map Nm.bs) = k) (k0 : ¬ k = 0) :
    Calls Tryd.prog 66 #[.slice x l c, .slice z lz cz, .slice y l' d] w fun e w' => e = .returned (.tuple #[.slice none 0 0, .slice none 0 0, .iface 29 (.int .i64 k)]) ∧ w = w' := by
  go_enter Tryd.func66, Tryd.ntmps66
  go_wp2_with fail
  refine (check_at (.iface 29 (.int .i64 k)) n _ hn hl' (by rw [hk]; exact errV_some k0)).mono ?_
  rintro e w1 ⟨rfl, rfl⟩
  go_wp2_with fail
  go_ret3
  exact ⟨rfl, rfl⟩

def PackRel (ms : List Int) (n : List ByteArray) (T : List Int) (k : Nat) (w : World) (vt vs vi : Value) (wr : World) : Prop :=
  ∃ i : Nat, i ≤ k ∧ vi = .int .i64 (i : Int) ∧ Rowi wr w.heap.size vt (T ++ placesN ms.length (n.map Nm.bs) i) ∧ Rowb wr w.heap.size vs (ms ++ Nm.sentL ((n.map Nm.bs).take i)) ∧ Below w.heap.size w wr

theorem rowb_len {w : World} {B : Nat} {v : Value} {xs : List Int} {N : Nat} (h : Rowb w B v xs) (hN : xs.length = N) : ∃ x c, v = .slice x N c := by
  subst hN
  rcases h.2 with ⟨rfl, h4⟩ | ⟨g, cap, cur, rfl, _⟩
  · exact ⟨none, 0, by rw [h4]⟩
  · exact ⟨_, cap, rfl⟩

set_option maxHeartbeats 1000000 in
set_option maxRecDepth 100000 in
theorem pack_own {x y z : Option Addr} {c d cz l l' lz : Nat} (out told ms starts : List Int) (n : List ByteArray) (w : World) (h : Bys w x c ms) (hz : Ints w z cz starts) (hn : Strs w y d n) (hl : ms.length = l) (hl' : n.length = l') (hlz : starts.length = lz)
    (hm : ms.length ≤ 140737488354900) (hs : starts.length ≤ 17592186044100) (hk : Nm.checkN (n.map Nm.bs) = 0) (ho : packOut ms n starts = out) (ht : packTold ms n starts = told) :
    Calls Tryd.prog 66 #[.slice x l c, .slice z lz cz, .slice y l' d] w (PackOwn out told w) := by
  obtain ⟨i0, hi, hz0, hz1, hz2⟩ := info_of_byte
  obtain ⟨j0, gi, gz0, gz1, gz2⟩ := info_of_int
  subst hl hl' hlz
  have hbs := h.2.2.1
  have LKD := looked ms n hbs starts
  have hll := lookN_len ms n starts
  have hmem : ∀ q ∈ (lookN ms n starts).1, q ∈ starts := fun q hq => lookN_mem hq
  unfold packOut at ho
  unfold packTold at ht
  obtain ⟨s, hls⟩ : ∃ s, lookN ms n starts = s := ⟨_, rfl⟩
  rw [hls] at LKD hll hmem ho ht
  obtain ⟨T, count, to⟩ := s
  simp only at hll hmem ho ht
  obtain ⟨_, hcn, ht0, ht1⟩ := LKD
  simp only at hcn ht0 ht1
  have hto : ¬ count = 0 → 0 ≤ to ∧ to ≤ 16383 := fun q => ⟨(ht1 q).1, (ht1 q).2.1⟩
  have hto2 : 0 ≤ to ∧ to ≤ 16383 := by
    by_cases q : count = 0
    · have := ht0 q; omega
    · exact hto q
  obtain ⟨hto0, hto1⟩ := hto2
  obtain ⟨k, hkk⟩ : ∃ k, n.length - count = k := ⟨_, rfl⟩
  have hnk : n.length = k + count := by omega
  rw [hkk] at ho ht
  have hkn : k ≤ n.length := by omega
  have hsub : (n.length : Int) - (count : Int) = (k : Int) := by omega
  have HNK := hid hnk
  have K := hid hk
  have hnl := check_len hk
  clear hnk
  rw [List.length_map] at hnl
  have OB := hid (pack_bytes (k := k) hbs hk hto)
  have TB : Hid (∀ q ∈ T ++ placesN ms.length (n.map Nm.bs) k, -9223372036854775808 ≤ q ∧ q ≤ 9223372036854775807) := fun q hq => by
    rcases List.mem_append.1 hq with r | r
    · exact hz.2.2.1 q (hmem q r)
    · have := places_bound _ _ _ q r; omega
  have O := hid ho
  have TT := hid ht
  have LS := hid hls
  have hnc : n.length ≤ d := hn.1
  clear hk ho ht hls ht0 ht1 hto hmem hkk
  go_enter Tryd.func66, Tryd.ntmps66
  go_wp2_with fail
  refine (check_at .nilIface n _ hn rfl (by rw [K.out]; rfl)).mono ?_
  rintro e w1 ⟨rfl, rfl⟩
  go_wp2_with fail
  refine (look_any ms starts n _ h hz hn hs).mono fun e w1 hp => ?_
  rw [LS.out] at hp
  obtain ⟨v, rfl, hrow, hbel⟩ := hp
  go_wp2_with fail
  refine (clone_any x c ms _ (h.below hbel) (by omega)).mono ?_
  rintro e w2 ⟨v2, rfl, hrowb, hb2, hkeep⟩
  have hrow2 : Rowi w2 w.heap.size _ T := hkeep _ _ _ _ hrow
  have hrowb2 : Rowb w2 w.heap.size _ ms := owns_base hrowb hbel.size
  have hbel2 := grown_on hbel hb2
  clear hkeep hrow hrowb hbel hb2
  go_wp2_with fail
  go_loopw [10, 13, 38] (fun vt vs vi wr => PackRel ms n T k w vt vs vi wr) (fun _ _ vi _ => k - (intOf vi).toNat)
  case atStart => exact ⟨0, Nat.zero_le _, rfl, by simpa [placesN] using hrow2, by simpa [Nm.sentL_nil] using hrowb2, hbel2⟩
  case round =>
    obtain ⟨i, hik, rfl, hri, hrb, hbel⟩ := hrel
    have hB := hbel.size
    have hN : (ms ++ Nm.sentL ((n.map Nm.bs).take i)).length = ms.length + Nm.total ((n.map Nm.bs).take i) := by rw [List.length_append, Nm.sentL_length]
    have hT := total_take_le n i K.out
    have HN2 := hid (Nm.sentL_length ((n.map Nm.bs).take i))
    obtain ⟨N, hNN⟩ : ∃ N, ms.length + Nm.total ((n.map Nm.bs).take i) = N := ⟨_, rfl⟩
    have PY := places_yes ms.length (n.map Nm.bs) i
    have PN := places_no ms.length (n.map Nm.bs) i
    rw [hNN] at hN PY PN
    have hN5 : N ≤ 140737488355154 := by omega
    have HN := hid hN
    have pl := places_len ms.length (n.map Nm.bs) i
    have PLN := hid pl
    obtain ⟨sx, sc, rfl⟩ := rowb_len hrb hN
    clear hN hNN hT
    by_cases c1 : i < k
    · obtain ⟨_, _, sa, da⟩ := hn.below hbel
      have c1' : i < n.length := by omega
      rcases da with da | ⟨ba, oa, rfl, _, qa⟩
      · rw [da] at c1'; simp at c1'
      have fa := qa i c1'
      have hls := label_size K.out c1'
      have S := hid (sent_next n i c1')
      clear qa sa
      generalize n.getD i ByteArray.empty = s at *
      by_cases c2 : N ≤ 16383
      · have PL := hid (PY c2)
        have c2' : (N : Int) ≤ 16383 := by omega
        have hown : World.ownsRow _ _ _ _ _ _ _ := hri
        have htl : (T ++ placesN ms.length (n.map Nm.bs) i).length ≤ 17592186044354 := by rw [List.length_append]; omega
        clear PY PN
        go_wp2_with (at_builtin; refine wpList_append_own _ rfl _ _ 89 rfl w.heap.size 3 j0 (.int .i64 0) 1 8 Tryd.underlying89 gi gz0 gz1 gz2 rfl (by decide) _ _ _ rfl (hown.alloc _) ⟨_, 0, none⟩ 1 1 [.int .i64 (N : Int)] rfl rfl (cells_new _ [.int .i64 (N : Int)] 3) (one_ints [(N : Int)]) (by unfold maxLen; omega) (by omega) (by simp; omega) ?_)
        intro v3 w3 hown3 hgrow3 _
        have hri1 : Rowi w3 w.heap.size v3 (T ++ placesN ms.length (n.map Nm.bs) i ++ [(N : Int)]) := Rowi.of hown3 (by simp; omega) (by simp)
        have hbel1 := grown_below hri hbel hB (grown_alloc hgrow3)
        have hrb1 : Rowb w3 w.heap.size _ (ms ++ Nm.sentL ((n.map Nm.bs).take i)) := World.ownsRow.kept hrb (grown_alloc hgrow3) (apart_of (by decide) hrb hri)
        have hB1 := hbel1.size
        clear hri hrb hbel hown hown3 hgrow3 fa
        go_wp2_with fail
        refine (appendLabel_any w.heap.size _ (ms ++ Nm.sentL ((n.map Nm.bs).take i)) s _ hrb1 hls.2 (by rw [HN.out]; omega) hB1).mono ?_
        rintro e w4 ⟨v4, rfl, hrb4, hb4, hk4⟩
        rw [List.append_assoc, ← S.out] at hrb4
        have hri4 : Rowi w4 w.heap.size _ (T ++ placesN ms.length (n.map Nm.bs) i ++ [(N : Int)]) := hk4 _ _ _ _ hri1
        have hbel4 := hbel1.trans hb4
        clear hrb1 hri1 hbel1 hb4 hk4
        go_wp2_with fail
        exact ⟨⟨i + 1, by omega, by go_num, by rw [PL.out]; exact (by rw [← List.append_assoc]; exact hri4), hrb4, hbel4⟩, by simp [intOf]; omega⟩
      · have PL := hid (PN c2)
        have c2' : ¬ (N : Int) ≤ 16383 := by omega
        clear PY PN
        have hri1 := hri
        have hrb1 := hrb
        have hbel1 := hbel
        have hB1 := hB
        clear hri hrb hbel
        go_wp2_with fail
        refine (appendLabel_any w.heap.size _ (ms ++ Nm.sentL ((n.map Nm.bs).take i)) s _ hrb1 hls.2 (by rw [HN.out]; omega) hB1).mono ?_
        rintro e w4 ⟨v4, rfl, hrb4, hb4, hk4⟩
        rw [List.append_assoc, ← S.out] at hrb4
        have hri4 : Rowi w4 w.heap.size _ (T ++ placesN ms.length (n.map Nm.bs) i) := hk4 _ _ _ _ hri1
        have hbel4 := hbel1.trans hb4
        clear hrb1 hri1 hbel1 hb4 hk4
        go_wp2_with fail
        exact ⟨⟨i + 1, by omega, by go_num, by rw [PL.out]; exact hri4, hrb4, hbel4⟩, by simp [intOf]; omega⟩
    · have hi2 : i = k := by omega
      have HI := hid hi2
      have hbl : (ms ++ Nm.sentL ((n.map Nm.bs).take i)).length ≤ 140737488355154 := by rw [HN.out]; omega
      clear PY PN
      by_cases c2 : count = 0
      · have c2' : ((count : Int) == 0) = true := beq_iff_eq.2 (by omega)
        have O2 := hid (show ms ++ Nm.sentL ((n.map Nm.bs).take i) ++ [0] = out by rw [← O.out, HI.out]; unfold tailN; rw [if_pos c2])
        rw [← hi2] at TT TB
        clear hi2 c2
        have hown : World.ownsRow _ _ _ _ _ _ _ := hrb
        go_wp2_with (at_builtin; refine wpList_append_own _ rfl _ _ 22 rfl w.heap.size 5 i0 (.int .u8 0) 1 1 Tryd.underlying22 hi hz0 hz1 hz2 rfl (by decide) _ _ _ rfl (hown.alloc _) ⟨_, 0, none⟩ 1 1 [.int .u8 0] rfl rfl (cells_new _ [.int .u8 0] 5) (one_cells [0]) (by unfold maxLen; omega) (by omega) (by simp; omega) ?_)
        intro v5 w5 hown5 hgrow5 _
        have hbel5 := grown_below hrb hbel hB (grown_alloc hgrow5)
        have hri5 : Rowi w5 w.heap.size _ (T ++ placesN ms.length (n.map Nm.bs) i) := World.ownsRow.kept hri (grown_alloc hgrow5) (apart_of (by decide) hri hrb)
        clear hri hrb hown hgrow5
        go_wp2_with fail
        go_ret3
        rw [TT.out] at hri5
        exact packOwn_of (xs := ms ++ Nm.sentL ((n.map Nm.bs).take i) ++ [0]) hown5 (by simp; omega) (by simp) O2.out (by have := HN.out; rw [List.length_append]; simp only [List.length_cons, List.length_nil]; omega) (by rw [← O.out]; exact OB.out) hri5 (by have := PLN.out; rw [← TT.out, List.length_append]; omega) (by rw [← TT.out]; exact TB.out) hbel5
      · have c2' : ((count : Int) == 0) = false := beq_eq_false_iff_ne.2 (by omega)
        have O2 := hid (show ms ++ Nm.sentL ((n.map Nm.bs).take i) ++ [192 + to / 256, to % 256] = out by rw [← O.out, HI.out]; unfold tailN; rw [if_neg c2])
        have hor := or192 (to / 256) (by omega) (by omega)
        rw [← hi2] at TT TB
        clear hi2 c2
        have hown : World.ownsRow _ _ _ _ _ _ _ := hrb
        go_wp2_with (at_builtin; refine wpList_append_own _ rfl _ _ 22 rfl w.heap.size 5 i0 (.int .u8 0) 1 1 Tryd.underlying22 hi hz0 hz1 hz2 rfl (by decide) _ _ _ rfl (hown.alloc _) ⟨_, 0, none⟩ 2 2 [.int .u8 (192 + to / 256), .int .u8 (to % 256)] rfl rfl (cells_new _ [.int .u8 (192 + to / 256), .int .u8 (to % 256)] 5) (one_cells [192 + to / 256, to % 256]) (by unfold maxLen; omega) (by omega) (by simp; omega) ?_)
        intro v5 w5 hown5 hgrow5 _
        have hbel5 := grown_below hrb hbel hB (grown_alloc hgrow5)
        have hri5 : Rowi w5 w.heap.size _ (T ++ placesN ms.length (n.map Nm.bs) i) := World.ownsRow.kept hri (grown_alloc hgrow5) (apart_of (by decide) hri hrb)
        clear hri hrb hown hgrow5
        go_wp2_with fail
        go_ret3
        rw [TT.out] at hri5
        exact packOwn_of (xs := ms ++ Nm.sentL ((n.map Nm.bs).take i) ++ [192 + to / 256, to % 256]) hown5 (by simp; omega) (by simp) O2.out (by have := HN.out; rw [List.length_append]; simp only [List.length_cons, List.length_nil]; omega) (by rw [← O.out]; exact OB.out) hri5 (by have := PLN.out; rw [← TT.out, List.length_append]; omega) (by rw [← TT.out]; exact TB.out) hbel5

theorem pack_good {x y z : Option Addr} {c d cz l l' lz : Nat} (out told ms starts : List Int) (n : List ByteArray) (w : World) (h : Bys w x c ms) (hz : Ints w z cz starts) (hn : Strs w y d n) (hl : ms.length = l) (hl' : n.length = l') (hlz : starts.length = lz)
    (hm : ms.length ≤ 140737488354900) (hs : starts.length ≤ 17592186044100) (hk : Nm.checkN (n.map Nm.bs) = 0) (ho : packOut ms n starts = out) (ht : packTold ms n starts = told) :
    Calls Tryd.prog 66 #[.slice x l c, .slice z lz cz, .slice y l' d] w (PackPost out told w) :=
  (pack_own out told ms starts n w h hz hn hl hl' hlz hm hs hk ho ht).mono fun _ _ h => packPost_own h

end Go.Proofs.YtbbgabdiikdjpaaDoor
