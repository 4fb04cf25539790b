/-
  The walks of Clone, appendLabel and Write: a message with a name behind it, in new memory; nothing that was there is written.
-/
import Derived.Test.YtbbgabdiikdjpaaDoorMsgRead
import Derived.Lib.AppendStr
import Derived.Lib.SliceRun
namespace Go.Proofs.YtbbgabdiikdjpaaDoor
open Go.RowKit Go.Deep

/-- The rows of numbers that the call owns stay. -/
def KeepInts (w w' : World) : Prop := ∀ B v n xs, w.ownsRow B 3 1 v n xs → w'.ownsRow B 3 1 v n xs

theorem KeepInts.refl (w : World) : KeepInts w w := fun _ _ _ _ h => h
theorem KeepInts.trans {w w1 w2 : World} (h : KeepInts w w1) (k : KeepInts w1 w2) : KeepInts w w2 := fun B v n xs q => k B v n xs (h B v n xs q)

theorem apart_of {w : World} {B B' n m e e' : Nat} {v u : Value} {xs ys : List Value} (hne : ¬ e = e') (h : w.ownsRow B e 1 v n xs) (k : w.ownsRow B' e' 1 u m ys) : v.ownBlock = none ∨ v.ownBlock ≠ u.ownBlock := by
  rcases h.2 with ⟨rfl, _⟩ | ⟨g, cap, cur, rfl, _, hh, _⟩
  · exact Or.inl rfl
  · rcases k.2 with ⟨rfl, _⟩ | ⟨g', cap', cur', rfl, _, hh', _⟩
    · right; intro q; cases q
    · have ne : g ≠ g' := by
        intro q
        subst q
        rw [hh] at hh'
        simp at hh'
        exact hne hh'.2
      exact Or.inr (fun q => by simp [Value.ownBlock] at q; exact ne q)

theorem keep_grown {w w' : World} {B m : Nat} {u : Value} {ys : List Value} (k : w.ownsRow B 5 1 u m ys) (hg : w.grownBy w' u.ownBlock) : KeepInts w w' :=
  fun _ _ _ _ h => World.ownsRow.kept h hg (apart_of (by decide) h k)

theorem keep_alloc (w : World) (o : Obj) : KeepInts w (w.alloc o) := fun _ _ _ _ h => World.ownsRow.alloc h o

theorem info_of_byte : ∃ i, Tryd.prog.info? 5 = some i ∧ i.zero = some (.int .u8 0) ∧ i.size = 1 ∧ i.bytes = 1 := info_parts info_byte

theorem owns_empty (w : World) (e : Nat) : (w.alloc (.cells #[] e)).ownsRow w.heap.size e 1 (.slice (some ⟨w.heap.size, 0, none⟩) 0 0) 0 [] :=
  ⟨rfl, .inr ⟨w.heap.size, 0, #[], rfl, Nat.le_refl _, heap_alloc_new w _, Nat.le_refl _, Nat.zero_le _, rfl, rfl⟩⟩

theorem bys_news {w : World} {b off : Nat} {ms : List Int} (q : ∀ i, i < ms.length → w.cell? ⟨b, off + i, none⟩ = some (.int .u8 (ms.getD i 0))) : ∀ j u, (ms.map (Value.int .u8))[j]? = some u → w.cell? ((⟨b, off, none⟩ : Addr).add j) = some u := by
  intro j u h
  rw [Go.WideShapes.add_plain]
  rw [List.getElem?_map] at h
  cases e : ms[j]? with
  | none => rw [e] at h; simp at h
  | some s =>
    rw [e] at h
    simp at h
    have hj : j < ms.length := by
      rcases Nat.lt_or_ge j ms.length with k | k
      · exact k
      · rw [List.getElem?_eq_none k] at e; simp at e
    rw [q j hj, List.getD_eq_getElem?_getD, e]
    simp [h]

set_option maxHeartbeats 400000 in
set_option maxRecDepth 100000 in
theorem clone_any (x : Option Addr) (c : Nat) (ms : List Int) (w : World) (h : Bys w x c ms) (hm : ms.length ≤ 140737488355000) :
    Calls Tryd.prog 86 #[.slice x ms.length c] w fun e w' => ∃ v, e = .returned v ∧ Rowb w' w.heap.size v ms ∧ Below w.heap.size w w' ∧ KeepInts w w' := by
  obtain ⟨i0, hi, hz0, hz1, hz2⟩ := info_of_byte
  cases x with
  | none =>
    have hn : ms = [] := by
      rcases h.2.2.2 with q | ⟨b, off, q, _⟩
      · exact q
      · cases q
    subst hn
    have hnil : ∀ w, (binOp .eql 22 (.slice none 0 c) (.slice none 0 0)).run Tryd.prog w = .ok (.bool true) w := fun w => Go.Lib.run_eql_slice_nil w 22 5 none 0 c 0 0 Tryd.underlying22
    go_enter Tryd.func86, Tryd.ntmps86
    go_wp2_with fail
    go_ret
    exact ⟨_, rfl, World.ownsRow_nil _ _ _ _, Below.refl _ _, KeepInts.refl _⟩
  | some ad =>
    have hq : ∀ j u, (ms.map (Value.int .u8))[j]? = some u → (w.alloc (.cells #[] 5)).cell? (ad.add j) = some u := by
      have h2 := h.below ((Below.refl _ w).alloc (Nat.le_refl _) (.cells #[] 5))
      rcases h2.2.2.2 with q | ⟨b, off, q, _, q2⟩
      · subst q; simp
      · cases q; exact bys_news q2
    have H := hid hq
    have hnil : ∀ w, (binOp .eql 22 (.slice (some ad) ms.length c) (.slice none 0 0)).run Tryd.prog w = .ok (.bool false) w := fun w => Go.Lib.run_eql_slice_nil w 22 5 (some ad) ms.length c 0 0 Tryd.underlying22
    clear hq
    go_enter Tryd.func86, Tryd.ntmps86
    go_wp2_with (at_builtin; refine wpList_append_own _ rfl _ _ 22 rfl w.heap.size 5 i0 (.int .u8 0) 1 1 Tryd.underlying22 hi hz0 hz1 hz2 rfl (by decide) _ _ _ rfl (owns_empty w 5) ad ms.length c (ms.map (Value.int .u8)) rfl (by simp) H.out (one_cells ms) (by unfold maxLen; omega) (by omega) (by simp) ?_)
    intro v' w1 hown' hgrow _
    go_wp2_with fail
    go_ret
    exact ⟨v', rfl, Rowb.of hown' (by simp) (by simp), grown_below (owns_empty w 5) ((Below.refl _ w).alloc (Nat.le_refl _) _) (by simp) hgrow, (keep_alloc w _).trans (keep_grown (owns_empty w 5) hgrow)⟩

theorem strCells_bs (s : ByteArray) : Go.Lib.strCells s = (Nm.bs s).map (Value.int .u8) := by
  unfold Go.Lib.strCells Nm.bs
  rw [List.map_map]; rfl

set_option maxHeartbeats 400000 in
set_option maxRecDepth 100000 in
theorem appendLabel_any (B : Nat) (v : Value) (xs : List Int) (s : ByteArray) (w : World) (hown : Rowb w B v xs) (hs : s.size ≤ 63) (hl : xs.length ≤ 140737488355200) (hB : B ≤ w.heap.size) :
    Calls Tryd.prog 87 #[v, .string s] w fun e w' => ∃ v', e = .returned v' ∧ Rowb w' B v' (xs ++ ((s.size : Int) :: Nm.bs s)) ∧ Below B w w' ∧ KeepInts w w' := by
  obtain ⟨i0, hi, hz0, hz1, hz2⟩ := info_of_byte
  unfold Rowb at hown
  go_enter Tryd.func87, Tryd.ntmps87
  go_wp2_with (at_builtin; refine wpList_append_own _ rfl _ _ 22 rfl B 5 i0 (.int .u8 0) 1 1 Tryd.underlying22 hi hz0 hz1 hz2 rfl (by decide) _ _ _ rfl (hown.alloc _) ⟨w.heap.size, 0, none⟩ 1 1 [.int .u8 (s.size : Int)] rfl rfl (cells_new w [.int .u8 (s.size : Int)] 5) (one_cells [(s.size : Int)]) (by unfold maxLen; omega) (by omega) (by simp; omega) ?_)
  intro v1 w1 hown1 hgrow1 _
  have hb1 : Below B w w1 := grown_below (hown.alloc _) ((Below.refl B w).alloc hB _) (by simp; omega) hgrow1
  have hk1 : KeepInts w w1 := (keep_alloc w _).trans (keep_grown (hown.alloc _) hgrow1)
  have hs1 := hb1.size
  have hw1 : B ≤ w1.heap.size := by have := (grown_alloc hgrow1).size; omega
  clear hgrow1
  go_wp2_with (at_builtin; refine Go.Lib.wpList_append_own_string _ rfl _ _ 22 9 rfl B 5 i0 Tryd.underlying22 Tryd.underlying9 hi hz0 hz1 hz2 _ _ _ rfl hown1 s rfl (by unfold maxLen; omega) (by omega) hw1 ?_)
  intro v2 w2 hown2 hgrow2 _
  go_wp2_with fail
  go_ret
  exact ⟨v2, rfl, Rowb.of hown2 (by simp [bs_length]; omega) (by rw [strCells_bs]; simp), grown_below hown1 hb1 hw1 hgrow2, hk1.trans (keep_grown hown1 hgrow2)⟩

/-! ### Write -/

theorem check_zero {n : List (List Int)} (h : Nm.checkN n = 0) : n.all Nm.okL = true ∧ Nm.total n ≤ 254 := by
  unfold Nm.checkN at h
  by_cases c : n.all Nm.okL = true
  · rw [if_pos c] at h
    by_cases d : 254 < Nm.total n
    · rw [if_pos d] at h; simp at h
    · exact ⟨c, by omega⟩
  · rw [if_neg c] at h; simp at h

theorem sent_next (n : List ByteArray) (k : Nat) (hk : k < n.length) : Nm.sentL ((n.map Nm.bs).take (k + 1)) = Nm.sentL ((n.map Nm.bs).take k) ++ (((n.getD k ByteArray.empty).size : Int) :: Nm.bs (n.getD k ByteArray.empty)) := by
  rw [take_map_next n k hk, Nm.sentL_append, Nm.sentL_cons, bs_length, Nm.sentL_nil, List.append_nil]

theorem sent_len (n : List ByteArray) (k : Nat) (h : Nm.checkN (n.map Nm.bs) = 0) : (Nm.sentL ((n.map Nm.bs).take k)).length ≤ 254 := by
  rw [Nm.sentL_length]
  exact Nat.le_trans (flat_take_len _ k) (check_zero h).2

theorem sent_bytes (n : List (List Int)) (h : n.all Nm.okL = true) (hb : ∀ l ∈ n, ∀ x ∈ l, 0 ≤ x ∧ x ≤ 255) : ∀ x ∈ Nm.sentL n, 0 ≤ x ∧ x ≤ 255 := by
  intro x hx
  unfold Nm.sentL at hx
  obtain ⟨l, hl, hx⟩ := List.mem_flatMap.1 hx
  have ho := of_decide_eq_true (List.all_eq_true.1 h l hl)
  rcases List.mem_cons.1 hx with q | q
  · subst q; omega
  · exact hb l hl x q

theorem rowb_bys {w : World} {B : Nat} {v : Value} {xs : List Int} (h : Rowb w B v xs) (hl : xs.length ≤ 200000000000000) (hb : ∀ b ∈ xs, 0 ≤ b ∧ b ≤ 255) :
    ∃ x c, v = .slice x xs.length c ∧ Bys w x c xs := by
  obtain ⟨_, h3⟩ := h
  rcases h3 with ⟨rfl, h4⟩ | ⟨g, cap, cur, rfl, _, hh, hn, _, hs, ht⟩
  · have : xs = [] := List.length_eq_zero_iff.1 h4
    subst this
    exact ⟨none, 0, rfl, Bys.nil w none 0⟩
  · refine ⟨_, cap, rfl, hn, hl, hb, Or.inr ⟨g, 0, rfl, ?_, fun i hi => ?_⟩⟩
    · rcases Nat.lt_or_ge g w.heap.size with q | q
      · exact q
      · rw [Array.getElem?_eq_none q] at hh; simp at hh
    · rw [Nat.zero_add]
      simp only [World.cell?, hh]
      have e : (cur.toList.take (xs.length * 1))[i]? = (xs.map (Value.int .u8))[i]? := by rw [ht]
      rw [List.getElem?_take, if_pos (by omega), List.getElem?_map, List.getElem?_eq_getElem hi] at e
      simp [List.getD_eq_getElem?_getD, List.getElem?_eq_getElem hi]
      simpa using e

def WritePost (out : List Int) (w : World) (e : Ending) (w' : World) : Prop :=
  ∃ x c, e = .returned (.tuple #[.slice x out.length c, .nilIface]) ∧ Bys w' x c out ∧ Below w.heap.size w w'

theorem writePost_of {out xs : List Int} {w w' : World} {v : Value} {m : Nat} {ys : List Value} (h : w'.ownsRow w.heap.size 5 1 v m ys) (hm : m = xs.length) (hy : ys = xs.map (Value.int .u8)) (hx : xs = out) (hl : xs.length ≤ 200000000000000) (hb : ∀ b ∈ out, 0 ≤ b ∧ b ≤ 255) (bel : Below w.heap.size w w') : WritePost out w (.returned (.tuple #[v, .nilIface])) w' := by
  subst hx
  obtain ⟨x, c, rfl, hs⟩ := rowb_bys (Rowb.of h hm hy) hl hb
  exact ⟨x, c, rfl, hs, bel⟩

theorem out_bytes {ms : List Int} {n : List ByteArray} {r : List Int} (hb : ∀ b ∈ ms, 0 ≤ b ∧ b ≤ 255) (hr : ∀ b ∈ r, 0 ≤ b ∧ b ≤ 255) (h : Nm.checkN (n.map Nm.bs) = 0) : ∀ b ∈ ms ++ Nm.sentL (n.map Nm.bs) ++ r, 0 ≤ b ∧ b ≤ 255 := by
  intro b q
  rcases List.mem_append.1 q with q | q
  · rcases List.mem_append.1 q with q | q
    · exact hb b q
    · refine sent_bytes _ (check_zero h).1 (fun l hl x hx => ?_) b q
      obtain ⟨s, _, rfl⟩ := List.mem_map.1 hl
      exact bs_bound s x hx
  · exact hr b q

set_option maxHeartbeats 1000000 in
set_option maxRecDepth 100000 in
theorem write_bad {x y : Option Addr} {c d l l' : Nat} (k : Int) (n : List ByteArray) (w : World) (hn : Strs w y d n) (hl' : n.length = l') (hk : Nm.checkN (n.map Nm.bs) = k) (k0 : ¬ k = 0) :
    Calls Tryd.prog 83 #[.slice x l c, .slice y l' d] w fun e w' => e = .returned (.tuple #[.slice none 0 0, .iface 29 (.int .i64 k)]) ∧ w = w' := by
  go_enter Tryd.func83, Tryd.ntmps83
  go_wp2_with fail
  refine (check_at (.iface 29 (.int .i64 k)) n _ hn hl' (by rw [hk]; exact errV_some k0)).mono ?_
  rintro e w1 ⟨rfl, rfl⟩
  go_wp2_with fail
  go_ret2
  exact ⟨rfl, rfl⟩

set_option maxHeartbeats 1000000 in
set_option maxRecDepth 100000 in
theorem write_good {x y : Option Addr} {c d l l' : Nat} (out ms : List Int) (n : List ByteArray) (w : World) (h : Bys w x c ms) (hn : Strs w y d n) (hl : ms.length = l) (hl' : n.length = l') (hm : ms.length ≤ 140737488354900) (hk : Nm.checkN (n.map Nm.bs) = 0) (ho : ms ++ Nm.sentL (n.map Nm.bs) ++ [0] = out) :
    Calls Tryd.prog 83 #[.slice x l c, .slice y l' d] w (WritePost out w) := by
  obtain ⟨i0, hi, hz0, hz1, hz2⟩ := info_of_byte
  subst hl hl'
  have K := hid hk
  have O := hid ho
  have OB := hid (out_bytes h.2.2.1 (r := [0]) (by simp) hk)
  have hnl : n.length ≤ 8796093022208 := hn.2.1
  clear hk ho
  go_enter Tryd.func83, Tryd.ntmps83
  go_wp2_with fail
  refine (check_at .nilIface n _ hn rfl (by rw [K.out]; rfl)).mono ?_
  rintro e w1 ⟨rfl, rfl⟩
  go_wp2_with fail
  refine (clone_any x c ms _ h (by omega)).mono ?_
  rintro e w2 ⟨v, rfl, hrow, hbel, hkeep⟩
  clear hkeep
  go_wp2_with fail
  go_loopw [7, 19] (fun vs vi wr => ∃ (k : Nat), k ≤ n.length ∧ vi = .int .i64 (k : Int) ∧ Rowb wr w.heap.size vs (ms ++ Nm.sentL ((n.map Nm.bs).take k)) ∧ Below w.heap.size w wr) (fun _ vi _ => n.length - (intOf vi).toNat)
  case atStart => exact ⟨0, Nat.zero_le _, rfl, by simpa [Nm.sentL_nil] using hrow, hbel⟩
  case round =>
    obtain ⟨k, hkn, rfl, hrow2, hbel2⟩ := hrel
    have hsl := sent_len n k K.out
    have hB := hbel2.size
    by_cases c1 : k < n.length
    · obtain ⟨_, _, sa, da⟩ := hn.below hbel2
      rcases da with da | ⟨ba, oa, rfl, _, qa⟩
      · rw [da] at c1; simp at c1
      have fa := qa k (by omega)
      have hls := label_size K.out c1
      have S := hid (sent_next n k c1)
      clear qa sa
      generalize n.getD k ByteArray.empty = s at *
      go_wp2_with fail
      refine (appendLabel_any w.heap.size _ (ms ++ Nm.sentL ((n.map Nm.bs).take k)) s _ hrow2 hls.2 (by rw [List.length_append]; omega) hB).mono ?_
      rintro e w3 ⟨v3, rfl, hrow3, hb3, _⟩
      rw [List.append_assoc, ← S.out] at hrow3
      have hbel3 := hbel2.trans hb3
      clear hrow2 hbel2 hb3 fa
      go_wp2_with fail
      exact ⟨⟨k + 1, by omega, by go_num, hrow3, hbel3⟩, by simp [intOf]; omega⟩
    · have e1 : (n.map Nm.bs).take k = n.map Nm.bs := List.take_of_length_le (by simp; omega)
      rw [e1] at hrow2 hsl
      have hown : World.ownsRow _ _ _ _ _ _ _ := hrow2
      have hlen : (ms ++ Nm.sentL (n.map Nm.bs)).length ≤ 140737488355200 := by rw [List.length_append]; omega
      go_wp2_with (at_builtin; refine wpList_append_own _ rfl _ _ 22 rfl w.heap.size 5 i0 (.int .u8 0) 1 1 Tryd.underlying22 hi hz0 hz1 hz2 rfl (by decide) _ _ _ rfl (hown.alloc _) ⟨_, 0, none⟩ 1 1 [.int .u8 0] rfl rfl (cells_new _ [.int .u8 0] 5) (one_cells [0]) (by unfold maxLen; omega) (by omega) (by simp; omega) ?_)
      intro v' w4 hown' hgrow _
      have hbel4 := grown_below hrow2 hbel2 hB (grown_alloc hgrow)
      go_wp2_with fail
      go_ret2
      exact writePost_of (xs := ms ++ Nm.sentL (n.map Nm.bs) ++ [0]) hown' (by simp; omega) (by simp) O.out (by rw [List.length_append]; simp only [List.length_singleton]; omega) (by rw [← O.out]; exact OB.out) hbel4

end Go.Proofs.YtbbgabdiikdjpaaDoor
