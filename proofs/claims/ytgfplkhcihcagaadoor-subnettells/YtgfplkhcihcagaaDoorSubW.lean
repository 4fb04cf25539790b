/-
  The walks of package subnet: touched, sizeOf, masked, fit, check; of bytes.Equal.
-/
import Derived.Test.YtgfplkhcihcagaaDoorSub
import Derived.Test.YtgfplkhcihcagaaDoorMsgAt
import Derived.Laws.CopyOwn
import Derived.Laws.MakeOwn
namespace Go.Proofs.YtgfplkhcihcagaaDoor
open Go.RowKit Go.Deep

set_option maxHeartbeats 400000 in
set_option maxRecDepth 100000 in
theorem touched_at (n : Nat) (w : World) (hn : n < 2000000000000000) :
    Calls Tryd.prog 70 #[.int .i64 (n : Int)] w fun e w' => e = .returned (.int .i64 ((touchN n : Nat) : Int)) ∧ w = w' := by
  have e : ((touchN n : Nat) : Int) = ((n : Int) + 8 - 1) / 8 := by unfold touchN; omega
  rw [e]
  go_enter Tryd.func70, Tryd.ntmps70
  go_wp2
  go_ret
  exact ⟨rfl, rfl⟩

set_option maxHeartbeats 400000 in
set_option maxRecDepth 100000 in
theorem sizeOf_at (f : Int) (w : World) :
    Calls Tryd.prog 74 #[.int .i64 f] w fun e w' => e = .returned (.int .i64 ((wideN f : Nat) : Int)) ∧ w = w' := by
  unfold wideN
  by_cases c1 : f = 1
  · subst c1
    go_enter Tryd.func74, Tryd.ntmps74
    go_wp2
    go_ret
    exact ⟨rfl, rfl⟩
  · by_cases c2 : f = 2
    · subst c2
      go_enter Tryd.func74, Tryd.ntmps74
      go_wp2
      go_ret
      exact ⟨rfl, rfl⟩
    · rw [if_neg c1, if_neg c2]
      go_enter Tryd.func74, Tryd.ntmps74
      go_wp2
      go_ret
      exact ⟨rfl, rfl⟩

theorem str_inj {A B : List Int} (ha : ∀ x ∈ A, 0 ≤ x ∧ x ≤ 255) (hb : ∀ x ∈ B, 0 ≤ x ∧ x ≤ 255) : decide (strOfNums A = strOfNums B) = decide (A = B) := by
  by_cases c : A = B
  · subst c; simp
  · have : ¬ strOfNums A = strOfNums B := fun e => c (by rw [← bs_of A ha, ← bs_of B hb, e])
    rw [decide_eq_false this, decide_eq_false c]

theorem bytes_eq (S T : ByteArray) : (S.toList == T.toList) = decide (S = T) := by
  by_cases c : S = T
  · subst c; simp
  · rw [decide_eq_false c]
    have : ¬ S.toList = T.toList := fun e => c (by
      rw [ByteArray.toList_eq, ByteArray.toList_eq] at e
      exact ByteArray.ext (Array.toList_inj.1 e))
    simpa using this

set_option maxHeartbeats 400000 in
set_option maxRecDepth 100000 in
theorem bequal_at {b1 o1 c1 l1 b2 o2 c2 l2 : Nat} (r : Bool) (A B : List Int) (w : World) (hA : ∀ x ∈ A, 0 ≤ x ∧ x ≤ 255) (hB : ∀ x ∈ B, 0 ≤ x ∧ x ≤ 255)
    (qA : ∀ i, i < A.length → w.cell? ⟨b1, o1 + i, none⟩ = some (.int .u8 (A.getD i 0))) (qB : ∀ i, i < B.length → w.cell? ⟨b2, o2 + i, none⟩ = some (.int .u8 (B.getD i 0))) (h1 : A.length = l1) (h2 : B.length = l2) (hr : decide (A = B) = r) :
    Calls Tryd.prog 71 #[.slice (some ⟨b1, o1, none⟩) l1 c1, .slice (some ⟨b2, o2, none⟩) l2 c2] w fun e w' => e = .returned (.bool r) ∧ w = w' := by
  subst h1 h2
  rw [← str_inj hA hB] at hr
  have k1 := run_convert_bytes_arg (P := Tryd.prog) w 22 5 Tryd.underlying22 Tryd.underlying5 b1 o1 A.length c1 A rfl qA 9 Tryd.underlying9
  have k2 := run_convert_bytes_arg (P := Tryd.prog) w 22 5 Tryd.underlying22 Tryd.underlying5 b2 o2 B.length c2 B rfl qB 9 Tryd.underlying9
  clear qA qB hA hB
  generalize strOfNums A = S at *
  generalize strOfNums B = T at *
  subst hr
  go_enter Tryd.func71, Tryd.ntmps71
  go_wp2
  go_ret
  exact ⟨ret_bool (bytes_eq S T), rfl⟩

/-- What masked hands back: a row of its own, at the end of what was there. -/
def MaskP (n : Nat) (xs : List Int) (w : World) (e : Ending) (w' : World) : Prop :=
  e = .returned (.slice (some ⟨w.heap.size, 0, none⟩) xs.length xs.length) ∧ Bl 5 w' w.heap.size ((maskN n xs).map (Value.int .u8)).toArray ∧ Below w.heap.size w w'

theorem and_top1 : ∀ (k : Fin 8) (x : Fin 256), 0 < k.val → bits .and .u8 (x.val : Int) (255 * 2 ^ (8 - k.val) % 256) = topB k.val (x.val : Int) := by decide +kernel

theorem and_top' (k : Nat) (x : Int) (hk0 : 0 < k) (hk8 : k < 8) (g0 : 0 ≤ x) (g1 : x ≤ 255) : bits .and .u8 x (255 * 2 ^ (8 - k) % 256) = topB k x := by
  have := and_top1 ⟨k, hk8⟩ ⟨x.toNat, by omega⟩ hk0
  simp only at this
  rwa [show ((x.toNat : Nat) : Int) = x by omega] at this

theorem zeros_made (n : Nat) : madeCells #[Value.int .u8 0] n = ((List.replicate n (0 : Int)).map (Value.int .u8)).toArray := by
  refine Array.ext' ?_
  simp only [madeCells, List.map_replicate]
  refine List.ext_getElem (by simp) fun i h1 h2 => ?_
  simp [Nat.mod_one]

theorem splice_front (xs : List Int) (t : Nat) (ht : t ≤ xs.length) : splice ((List.replicate xs.length (0 : Int)).map (Value.int .u8)) 0 ((xs.take t).map (Value.int .u8)) = (frontN t xs).map (Value.int .u8) := by
  unfold splice frontN
  simp only [List.take_zero, List.nil_append, Nat.zero_add, List.map_append, List.map_replicate, List.length_map, List.length_take, List.drop_replicate, Nat.min_eq_left ht]

set_option maxHeartbeats 1000000 in
set_option maxRecDepth 100000 in
theorem masked_some {b off c l : Nat} (n : Nat) (xs : List Int) (w : World) (hlen : xs.length ≤ 200000000000000) (hlc : xs.length ≤ c) (hb : b < w.heap.size) (hbs : ∀ x ∈ xs, 0 ≤ x ∧ x ≤ 255)
    (hq : ∀ i, i < xs.length → w.cell? ⟨b, off + i, none⟩ = some (.int .u8 (xs.getD i 0))) (hn : n ≤ 8 * xs.length) (hl : xs.length = l) :
    Calls Tryd.prog 66 #[.slice (some ⟨b, off, none⟩) l c, .int .i64 (n : Int)] w (MaskP n xs w) := by
  subst hl
  have htl : touchN n ≤ xs.length := by unfold touchN; omega
  obtain ⟨i0, hi, hz0, hz1, hz2⟩ := info_of_byte
  obtain ⟨t, ht⟩ : ∃ t, touchN n = t := ⟨_, rfl⟩
  have htl' : t ≤ xs.length := by omega
  have HT := hid ht
  have HQ := hid hq
  clear hq ht htl
  go_enter Tryd.func66, Tryd.ntmps66
  go_wp2_with (at_make; refine wpList_make_full _ rfl _ _ 22 rfl w.heap.size 5 i0 (.int .u8 0) 1 Tryd.underlying22 hi hz0 hz1 _ _ _ _ xs.length rfl rfl rfl rfl (by rw [hz2]; omega) (by unfold maxLen; omega) (Nat.le_refl _) ?_)
  intro w2 hown2 hg2
  obtain ⟨L, hC, hL⟩ : ∃ L : List Value, Bl 5 w2 w.heap.size L.toArray ∧ Hid (L = (List.replicate xs.length (0 : Int)).map (Value.int .u8)) := by
    rcases hown2.2 with ⟨e, _⟩ | ⟨g, cap, cur, e, _, hg, _, _, hcs, htk⟩
    · cases e
    · cases e
      refine ⟨_, ?_, hid rfl⟩
      rw [List.take_of_length_le (by simpa using Nat.le_of_eq hcs)] at htk
      have htk2 : cur.toList = (madeCells #[Value.int .u8 0] xs.length).toList := by simpa using htk
      rw [zeros_made] at htk2
      have : cur = ((List.replicate xs.length (0 : Int)).map (Value.int .u8)).toArray := Array.ext' htk2
      rw [← this]
      exact hg
  have B2 := hid ((Below.refl w.heap.size w).grown hg2 (Nat.le_refl _) (fun k hk => by cases hk))
  have hLl : L.length = xs.length := by rw [hL.out]; simp
  have KC := hid hC
  clear hown2 hg2 hC
  go_wp2_with fail
  refine (touched_at n _ (by omega)).mono ?_
  rintro e w3 ⟨rfl, rfl⟩
  rw [HT.out]
  obtain ⟨X, hX⟩ : ∃ X, (xs.take t).map (Value.int .u8) = X := ⟨_, rfl⟩
  have hXl : X.length = t := by rw [← hX, List.length_map, List.length_take]; omega
  have HX := hid hX
  have HLl := hid hLl
  have HXl := hid hXl
  have hsrc : Hid (∀ j v, X[j]? = some v → w2.cell? ((⟨b, off, none⟩ : Addr).add j) = some v) := by
    refine hid ?_
    intro j v hj
    have hjl : j < X.length := by
      rcases Nat.lt_or_ge j X.length with q | q
      · exact q
      · rw [List.getElem?_eq_none q] at hj; cases hj
    rw [hXl] at hjl
    rw [show (⟨b, off, none⟩ : Addr).add j = ⟨b, off + j, none⟩ by simp [Addr.add], B2.out.cell (p := ⟨b, off + j, none⟩) hb, HQ.out j (by omega)]
    rw [← hX, List.getElem?_map, List.getElem?_take_of_lt hjl, List.getElem?_eq_getElem (by omega : j < xs.length)] at hj
    rw [List.getD_eq_getElem?_getD, List.getElem?_eq_getElem (by omega : j < xs.length)]
    simpa using hj
  have hX1 : Hid (∀ v ∈ X, v.oneCell' = true) := by
    refine hid ?_
    rw [← hX]
    intro v hv
    obtain ⟨y, _, rfl⟩ := List.mem_map.1 hv
    rfl
  clear hX hLl hXl
  have hB : w.heap.size ≤ w.heap.size := Nat.le_refl _
  have hsz : (Tryd.prog.info? 5).map (·.size) = some 1 := by rw [hi]; simp [hz1]
  have HXm : Hid (X.length = Nat.min t xs.length) := hid (by rw [HXl.out]; exact (Nat.min_eq_left htl').symm)
  have HXf : Hid (0 + X.length ≤ L.length) := hid (by rw [HLl.out, HXl.out]; omega)
  go_wp2_with (refine wpList_copy_splice rfl (.tmp 10) (.tmp 14) 22 22 rfl 5 Tryd.underlying22 hsz _ _ _ _ _ _ rfl rfl w.heap.size 0 L 5 KC.out X HXm.out (fun _ => ⟨rfl, _, rfl, hsrc.out⟩) HXf.out hX1.out w.heap.size w B2.out hB ?_)
  intro w3 HG3 hB3
  have K3 : Hid (Bl 5 w3 w.heap.size ((frontN t xs).map (Value.int .u8)).toArray) := by
    refine hid ?_
    have e : splice L 0 X = (frontN t xs).map (Value.int .u8) := by rw [hL.out, ← HX.out]; exact splice_front xs t htl'
    rw [← e]
    exact HG3.out
  have B3 := hid hB3
  clear HG3 hB3 KC HXm HXf hX1 hsrc HXl HLl HX hL
  by_cases c8 : n % 8 = 0
  · have e8 : (n : Int) % 8 = 0 := by omega
    go_wp2_with fail
    go_ret
    refine ⟨rfl, ?_, B3.out⟩
    have := K3.out
    rwa [← HT.out, mask_even hbs c8] at this
  · obtain ⟨k, hk⟩ : ∃ k, n % 8 = k := ⟨_, rfl⟩
    obtain ⟨q, hq⟩ : ∃ q, n / 8 = q := ⟨_, rfl⟩
    have e8 : (n : Int) % 8 = (k : Int) := by omega
    have e9 : (n : Int) / 8 = (q : Int) := by omega
    have hql : q < xs.length := by omega
    have hcell : w3.cell? ⟨w.heap.size, q, none⟩ = some (.int .u8 (xs.getD q 0)) := by
      refine K3.out.cell ?_
      have hqt : q < t := by rw [← HT.out]; unfold touchN; omega
      have h1 := frontN_getD t q xs
      rw [if_pos hqt, List.getD_eq_getElem?_getD] at h1
      have h2 : q < (frontN t xs).length := by rw [frontN_len]; exact hql
      rw [List.getElem?_eq_getElem h2] at h1
      simp only [Option.getD_some] at h1
      simp [List.getElem?_eq_getElem h2, h1]
    have hfz := K3.out.frozen q
    obtain ⟨g0, g1⟩ := getD_byte hbs q
    have hm := mask_odd hbs (n := n) (by omega)
    rw [hk, hq, HT.out] at hm
    have HM := hid hm
    clear hm
    have hk0 : 0 < k := by omega
    have hk8 : k < 8 := by omega
    generalize xs.getD q 0 = x at *
    have hqi : (q : Int) < (xs.length : Int) := by omega
    go_wp2_with fail
    go_region
    go_wp2_with fail
    go_ret
    refine ⟨rfl, ?_, (B3.out.setCell (p := ⟨w.heap.size, q, none⟩) (Nat.le_refl _) _).drew⟩
    have hs := (K3.out.set q (.int .u8 (bits .and .u8 x (255 * 2 ^ (8 - k) % 256)))).drew
    rw [← HM.out, ← and_top' k x hk0 hk8 g0 g1]
    have ea : ((frontN t xs).set q (bits .and .u8 x (255 * 2 ^ (8 - k) % 256))).map (Value.int .u8) = ((frontN t xs).map (Value.int .u8)).set q (.int .u8 (bits .and .u8 x (255 * 2 ^ (8 - k) % 256))) := List.map_set
    rw [ea]
    simpa using hs

set_option maxHeartbeats 1000000 in
set_option maxRecDepth 100000 in
theorem masked_none {x : Option Addr} {c : Nat} (w : World) (hx : x = none → c = 0) :
    Calls Tryd.prog 66 #[.slice x 0 c, .int .i64 0] w (MaskP 0 [] w) := by
  obtain ⟨i0, hi, hz0, hz1, hz2⟩ := info_of_byte
  have hsz : (Tryd.prog.info? 5).map (·.size) = some 1 := by rw [hi]; simp [hz1]
  have key : ∀ (y : Option Addr) (d : Nat), (y = none → d = 0) → Calls Tryd.prog 66 #[.slice y 0 d, .int .i64 0] w (MaskP 0 [] w) := by
    intro y d hd
    cases y with
    | none =>
      obtain rfl := hd rfl
      go_enter Tryd.func66, Tryd.ntmps66
      go_wp2_with (at_make; refine wpList_make_full _ rfl _ _ 22 rfl w.heap.size 5 i0 (.int .u8 0) 1 Tryd.underlying22 hi hz0 hz1 _ _ _ _ 0 rfl rfl rfl rfl (by rw [hz2]; omega) (by unfold maxLen; omega) (Nat.le_refl _) ?_)
      intro w2 hown2 hg2
      have K2 : Hid (Bl 5 w2 w.heap.size #[]) := by
        refine hid ?_
        rcases hown2.2 with ⟨e, _⟩ | ⟨g, cap, cur, e, _, hg, _, _, hcs, htk⟩
        · cases e
        · cases e
          have : cur = #[] := Array.eq_empty_of_size_eq_zero (by simpa using hcs)
          rw [← this]
          exact hg
      have B2 := hid ((Below.refl w.heap.size w).grown hg2 (Nat.le_refl _) (fun k hk => by cases hk))
      clear hown2 hg2
      go_wp2_with fail
      refine (touched_at 0 _ (by omega)).mono ?_
      rintro e w3 ⟨rfl, rfl⟩
      rw [show ((touchN 0 : Nat) : Int) = 0 by decide]
      go_wp2_with (refine wpList_copy_nothing rfl (.tmp 10) (.tmp 14) 22 22 rfl 5 Tryd.underlying22 hsz _ _ _ _ _ _ rfl rfl rfl ?_)
      go_ret
      exact ⟨rfl, K2.out, B2.out⟩
    | some a =>
      go_enter Tryd.func66, Tryd.ntmps66
      go_wp2_with (at_make; refine wpList_make_full _ rfl _ _ 22 rfl w.heap.size 5 i0 (.int .u8 0) 1 Tryd.underlying22 hi hz0 hz1 _ _ _ _ 0 rfl rfl rfl rfl (by rw [hz2]; omega) (by unfold maxLen; omega) (Nat.le_refl _) ?_)
      intro w2 hown2 hg2
      have K2 : Hid (Bl 5 w2 w.heap.size #[]) := by
        refine hid ?_
        rcases hown2.2 with ⟨e, _⟩ | ⟨g, cap, cur, e, _, hg, _, _, hcs, htk⟩
        · cases e
        · cases e
          have : cur = #[] := Array.eq_empty_of_size_eq_zero (by simpa using hcs)
          rw [← this]
          exact hg
      have B2 := hid ((Below.refl w.heap.size w).grown hg2 (Nat.le_refl _) (fun k hk => by cases hk))
      clear hown2 hg2
      go_wp2_with fail
      refine (touched_at 0 _ (by omega)).mono ?_
      rintro e w3 ⟨rfl, rfl⟩
      rw [show ((touchN 0 : Nat) : Int) = 0 by decide]
      go_wp2_with (refine wpList_copy_nothing rfl (.tmp 10) (.tmp 14) 22 22 rfl 5 Tryd.underlying22 hsz _ _ _ _ _ _ rfl rfl rfl ?_)
      go_ret
      exact ⟨rfl, K2.out, B2.out⟩
  exact key x c hx

theorem masked_any {x : Option Addr} {c l : Nat} (n : Nat) (xs : List Int) (w : World) (h : Bys w x c xs) (hx : x = none → c = 0) (hn : n ≤ 8 * xs.length) (hl : xs.length = l) :
    Calls Tryd.prog 66 #[.slice x l c, .int .i64 (n : Int)] w (MaskP n xs w) := by
  obtain ⟨h1, h2, h3, h4⟩ := h
  rcases h4 with rfl | ⟨b, off, rfl, hb, hc⟩
  · obtain rfl : n = 0 := by simpa using hn
    subst hl
    exact masked_none w hx
  · exact masked_some n xs w h2 h1 hb h3 hc hn hl

end Go.Proofs.YtgfplkhcihcagaaDoor
