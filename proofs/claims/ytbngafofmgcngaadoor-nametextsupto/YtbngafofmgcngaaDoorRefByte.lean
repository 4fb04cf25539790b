/-
  The walk of the document's own ByteOf: which byte of a label stands at a place of a text. It makes its own memory, and writes nothing that was there.
-/
import Derived.Test.YtbngafofmgcngaaDoorRefText
import Derived.Test.YtbngafofmgcngaaDoorTok
import Derived.Test.YtbngafofmgcngaaDoorAt
namespace Go.Proofs.YtbngafofmgcngaaDoor
open Go.RowKit Go.Deep

theorem nameText_at (t : ByteArray) {x : Option Addr} {c l : Nat} (n : List ByteArray) (w : World) (h : Strs w x c n) (hl : n.length = l) (hk : Nm.checkN (n.map Nm.bs) = 0) (ht : strOfNums (Nm.textN (n.map Nm.bs)) = t) :
    Calls Tryd.prog 17 #[.slice x l c] w fun e w' => e = .returned (.string t) ∧ Drawn w w' := by
  subst hl ht; exact nameText_any x c n w h hk

theorem byte_text (b : Nat) (hb : b < 256) : ∃ T : ByteArray, strOfNums (Nm.textN ([strOfNums [(b : Int)]].map Nm.bs)) = T ∧ Nm.bs T = Nm.esc (b : Int) ++ [46] ∧ T.size = (Nm.esc (b : Int)).length + 1 := by
  have e1 : [strOfNums [(b : Int)]].map Nm.bs = [[(b : Int)]] := by
    rw [List.map_singleton, bs_of _ (by intro x hx; rw [List.mem_singleton.1 hx]; omega)]
  have e2 : Nm.textN [[(b : Int)]] = Nm.esc (b : Int) ++ [46] := by unfold Nm.textN Nm.textL; simp
  refine ⟨_, rfl, ?_, ?_⟩
  · rw [e1, e2]
    refine bs_of _ fun x hx => ?_
    rcases List.mem_append.1 hx with q | q
    · have h0 : (0 : Int) ≤ (b : Int) := by omega
      have h1 : (b : Int) ≤ 255 := by omega
      unfold Nm.esc at q
      split at q
      · simp at q; omega
      · split at q
        · simp at q; omega
        · simp at q; omega
    · rw [List.mem_singleton.1 q]; omega
  · rw [e1, e2, strOfNums_size, List.length_append]; rfl

theorem byte_check (b : Nat) (hb : b < 256) : Nm.checkN ([strOfNums [(b : Int)]].map Nm.bs) = 0 := by
  have e1 : [strOfNums [(b : Int)]].map Nm.bs = [[(b : Int)]] := by
    rw [List.map_singleton, bs_of _ (by intro x hx; rw [List.mem_singleton.1 hx]; omega)]
  rw [e1]; rfl

theorem bs_range (s : ByteArray) (a b : Nat) : Nm.bs (s.extract a b) = ((Nm.bs s).drop a).take (b - a) := by
  unfold Nm.bs
  rw [ByteArray.data_extract, Array.toList_extract, List.extract_eq_take_drop, List.map_take, List.map_drop]

theorem bs_same {s t : ByteArray} (h : Nm.bs s = Nm.bs t) : s = t := by rw [← nums_of s, ← nums_of t, h]

theorem ret_pair {a a' b b' : Int} (h : a = a') (k : b = b') : Ending.returned (.tuple #[.int .u8 a, .int .i64 b]) = .returned (.tuple #[.int .u8 a', .int .i64 b']) := by rw [h, k]

theorem byte_is {s T : ByteArray} {p : Nat} {e : List Int} (hb : Nm.bs T = e ++ [46]) (hz : T.size = e.length + 1) (h : (s.extract p (p + (T.size - 1))).toList = (T.extract 0 (T.size - 1)).toList) :
    (Nm.bs s).drop p = e ++ ((Nm.bs s).drop p).drop e.length := by
  have h2 : Nm.bs (s.extract p (p + (T.size - 1))) = Nm.bs (T.extract 0 (T.size - 1)) := by
    rw [ByteArray.toList_eq, ByteArray.toList_eq] at h
    unfold Nm.bs; rw [h]
  rw [bs_range, bs_range, hb, show p + (T.size - 1) - p = e.length from by omega, show T.size - 1 - 0 = e.length from by omega, List.drop_zero, List.take_left] at h2
  conv => lhs; rw [← List.take_append_drop e.length ((Nm.bs s).drop p)]
  rw [h2]

theorem byte_not {s T : ByteArray} {p : Nat} {e : List Int} (hb : Nm.bs T = e ++ [46]) (hz : T.size = e.length + 1) (h : ¬ (s.extract p (p + (T.size - 1))).toList = (T.extract 0 (T.size - 1)).toList) :
    ∀ r, (Nm.bs s).drop p ≠ e ++ r := by
  intro r q
  apply h
  have h2 : Nm.bs (s.extract p (p + (T.size - 1))) = Nm.bs (T.extract 0 (T.size - 1)) := by
    rw [bs_range, bs_range, hb, q, show p + (T.size - 1) - p = e.length from by omega, show T.size - 1 - 0 = e.length from by omega, List.drop_zero, List.take_left, List.take_left]
  rw [bs_same h2]

theorem byte_short {s T : ByteArray} {p : Nat} {e : List Int} (hp : p ≤ s.size) (hz : T.size = e.length + 1) (h : ¬ ((T.size - 1 : Nat) : Int) ≤ (s.size : Int) - (p : Int)) :
    ∀ r, (Nm.bs s).drop p ≠ e ++ r := by
  intro r q
  have l := congrArg List.length q
  rw [List.length_drop, bs_length, List.length_append] at l
  omega

/-- What ByteOf tells: a byte whose token stands there, and the place behind it; or that there is none. -/
def ByteTold (s : ByteArray) (p : Nat) (e : Ending) : Prop :=
  (∃ (b : Int) (r : List Int), (0 ≤ b ∧ b ≤ 255) ∧ (Nm.bs s).drop p = Nm.esc b ++ r ∧ e = .returned (.tuple #[.int .u8 b, .int .i64 ((p : Int) + ((Nm.esc b).length : Int))])) ∨
  (e = .returned (.tuple #[.int .u8 0, .int .i64 (-1)]) ∧ ∀ b, 0 ≤ b ∧ b ≤ 255 → ∀ r, (Nm.bs s).drop p ≠ Nm.esc b ++ r)

theorem esc_46 : Nm.esc 46 = [92, 46] := by decide

theorem mark_is {s : ByteArray} {p : Nat} (h : ((s.extract p (p + 2)).toList == [92, 46]) = true) : (Nm.bs s).drop p = Nm.esc 46 ++ ((Nm.bs s).drop p).drop 2 := by
  have h2 : Nm.bs (s.extract p (p + 2)) = [92, 46] := by
    rw [beq_iff_eq, ByteArray.toList_eq] at h
    unfold Nm.bs; rw [h]; rfl
  rw [bs_range, show p + 2 - p = 2 from by omega] at h2
  rw [esc_46]
  conv => lhs; rw [← List.take_append_drop 2 ((Nm.bs s).drop p)]
  rw [h2]

theorem mark_not {s : ByteArray} {p : Nat} (h : ((s.extract p (p + 2)).toList == [92, 46]) = false) : ∀ r, (Nm.bs s).drop p ≠ Nm.esc 46 ++ r := by
  intro r q
  rw [beq_eq_false_iff_ne] at h
  apply h
  have h2 : Nm.bs (s.extract p (p + 2)) = Nm.bs ⟨#[92, 46]⟩ := by
    rw [bs_range, show p + 2 - p = 2 from by omega, q, esc_46]; rfl
  rw [bs_same h2, ByteArray.toList_eq]

theorem mark_short {s : ByteArray} {p : Nat} (hp : p ≤ s.size) (h : (s.size : Int) - (p : Int) < 2) : ∀ r, (Nm.bs s).drop p ≠ Nm.esc 46 ++ r := by
  intro r q
  have l := congrArg List.length q
  rw [List.length_drop, bs_length, List.length_append, esc_46] at l
  simp only [List.length_cons, List.length_nil] at l
  omega

theorem none_of {s : ByteArray} {p : Nat} (h : ∀ b : Nat, b < 256 → b ≠ 46 → ∀ r, (Nm.bs s).drop p ≠ Nm.esc (b : Int) ++ r) (k : ∀ r, (Nm.bs s).drop p ≠ Nm.esc 46 ++ r) : ∀ b, 0 ≤ b ∧ b ≤ 255 → ∀ r, (Nm.bs s).drop p ≠ Nm.esc b ++ r := by
  intro b hb r
  by_cases q : b = 46
  · subst q; exact k r
  · have := h b.toNat (by omega) (by omega) r
    rwa [show ((b.toNat : Nat) : Int) = b from by omega] at this

set_option maxRecDepth 100000 in
set_option maxHeartbeats 1000000 in
theorem byteOf_any (s : ByteArray) (p : Nat) (w : World) (hp : p ≤ s.size) (hs : s.size ≤ 1048576) :
    Calls Tryd.prog 28 #[.string s, .int .i64 (p : Int)] w fun e w' => Below w.heap.size w w' ∧ ByteTold s p e := by
  go_enter Tryd.func28, Tryd.ntmps28
  go_wp2_with fail
  go_loopw [6] (fun i wr => ∃ k : Nat, k ≤ 256 ∧ i = .int .i64 (k : Int) ∧ (∀ b : Nat, b < k → b ≠ 46 → ∀ r, (Nm.bs s).drop p ≠ Nm.esc (b : Int) ++ r) ∧ Below w.heap.size w wr) (fun i _ => 256 - (intOf i).toNat)
  case atStart => exact ⟨0, by omega, rfl, fun b hb => by omega, Below.refl _ _⟩
  case round =>
    obtain ⟨k, hk, rfl, hno, hbel⟩ := hrel
    have NO := hid hno
    clear hno
    by_cases h1 : k < 256
    · have i1 : (k : Int) < (256 : Int) := by omega
      have hconv := run_convert_bytes_arg (P := Tryd.prog) (wr.alloc (.cells #[.int .u8 (k : Int)] 5)) 42 5 Tryd.underlying42 Tryd.underlying5 wr.heap.size 0 1 1 [(k : Int)] rfl (fun i hi => by
        have : i = 0 := by omega
        subst this
        rw [World.cell?_alloc_at _ _ _ _ rfl]; rfl) 9 Tryd.underlying9
      obtain ⟨T, hT, bT, zT⟩ := byte_text k h1
      have HT := hid hT
      have BT := hid bT
      have ZT := hid zT
      have lT := Nm.esc_len (k : Int)
      have lT2 : 2 ≤ T.size := by omega
      have lT3 : T.size ≤ 5 := by omega
      clear hT bT zT lT
      have hW : Below wr.heap.size wr ((wr.alloc (.cells #[.int .u8 (k : Int)] 5)).alloc (.cells #[.string (strOfNums [(k : Int)])] 9)) := ((Below.refl _ _).alloc (Nat.le_refl _) _).alloc (by simp) _
      have HW := hid hW
      clear hW
      go_wp2_with fail
      refine (nameText_at T [strOfNums [(k : Int)]] _ (Strs.one (by simp) (by rw [World.cell?_alloc_at _ _ _ _ (by simp)]; rfl) (by rw [strOfNums_size]; simp)) rfl (byte_check k h1) HT.out).mono ?_
      rintro e w1 ⟨rfl, d1⟩
      have b1 : Below w.heap.size w w1 := (hbel.trans (HW.out.mono hbel.size)).trans (d1.below _)
      clear d1 hbel hconv
      have i2 : (2 : Int) ≤ (T.size : Int) := by omega
      go_wp2_with fail
      · have t : (s.extract p (p + (T.size - 1))).toList = (T.extract 0 (T.size - 1)).toList := by assumption
        go_ret2
        refine ⟨b1, Or.inl ⟨(k : Int), _, by omega, byte_is BT.out ZT.out t, ?_⟩⟩
        exact ret_pair rfl (by have := ZT.out; omega)
      · exact ⟨⟨k + 1, by omega, by go_num, fun b hb hn => NO.out b (by
          have t : ((k : Int) != (46 : Int)) = false := by assumption
          have t2 : (k : Int) = 46 := by simpa using t
          omega) hn, b1⟩, by simp [intOf]; omega⟩
      · have t : ¬ (s.extract p (p + (T.size - 1))).toList = (T.extract 0 (T.size - 1)).toList := by assumption
        exact ⟨⟨k + 1, by omega, by go_num, fun b hb hn => by
          by_cases q : b = k
          · subst q; exact byte_not BT.out ZT.out t
          · exact NO.out b (by omega) hn, b1⟩, by simp [intOf]; omega⟩
      · have t : ¬ ((T.size - 1 : Nat) : Int) ≤ (s.size : Int) - (p : Int) := by assumption
        exact ⟨⟨k + 1, by omega, by go_num, fun b hb hn => by
          by_cases q : b = k
          · subst q; exact byte_short hp ZT.out t
          · exact NO.out b (by omega) hn, b1⟩, by simp [intOf]; omega⟩
    · have i1 : ¬ (k : Int) < (256 : Int) := by omega
      have NO2 := hid (show ∀ b : Nat, b < 256 → b ≠ 46 → ∀ r, (Nm.bs s).drop p ≠ Nm.esc (b : Int) ++ r from fun b hb => NO.out b (by omega))
      go_wp2_with fail
      · have t : ((s.extract p (p + 2)).toList == [92, 46]) = true := by assumption
        go_ret2
        exact ⟨hbel, Or.inl ⟨46, _, by omega, mark_is t, rfl⟩⟩
      · have t : ((s.extract p (p + 2)).toList == [92, 46]) = false := by assumption
        go_ret2
        exact ⟨hbel, Or.inr ⟨rfl, none_of NO2.out (mark_not t)⟩⟩
      · have t : (s.size : Int) - (p : Int) < 2 := by assumption
        go_ret2
        exact ⟨hbel, Or.inr ⟨rfl, none_of NO2.out (mark_short hp t)⟩⟩

end Go.Proofs.YtbngafofmgcngaaDoor
