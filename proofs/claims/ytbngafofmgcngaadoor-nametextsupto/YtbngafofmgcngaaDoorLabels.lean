/-
  The walk of compareLabels: two texts, byte by byte, small letters for great ones; it hands back what the plain function cL tells, and of the world nothing has turned but draws.
-/
import Derived.Test.YtbngafofmgcngaaDoorCmp
namespace Go.Proofs.YtbngafofmgcngaaDoor
open Go.RowKit

/-- The first k bytes are alike: what is behind them decides. -/
def AlikeTo (a b : ByteArray) (k : Nat) : Prop := Nm.cL a b = Nm.lex Nm.cB ((Nm.bs a).drop k) ((Nm.bs b).drop k)

theorem bs_length (a : ByteArray) : (Nm.bs a).length = a.size := by simp [Nm.bs]
theorem bs_get (a : ByteArray) (k : Nat) (h : k < a.size) (h' : k < (Nm.bs a).length) : (Nm.bs a)[k] = (a[k].toNat : Int) := by
  simp [Nm.bs]; rfl

theorem alike_zero (a b : ByteArray) : AlikeTo a b 0 := by unfold AlikeTo; rfl

theorem alike_next {a b : ByteArray} {k : Nat} (h : AlikeTo a b k) (ha : k < a.size) (hb : k < b.size) (e : Nm.cmpI (Nm.foI (a[k].toNat : Int)) (Nm.foI (b[k].toNat : Int)) = 0) : AlikeTo a b (k + 1) := by
  unfold AlikeTo at h ⊢
  rw [h]
  have la := bs_length a
  have lb := bs_length b
  exact Nm.lex_step (by omega) (by omega) (by rw [bs_get a k ha, bs_get b k hb]; exact e)

theorem alike_here {a b : ByteArray} {k : Nat} (h : AlikeTo a b k) (ha : k < a.size) (hb : k < b.size) (e : ¬ Nm.cmpI (Nm.foI (a[k].toNat : Int)) (Nm.foI (b[k].toNat : Int)) = 0) : Nm.cmpI (Nm.foI (a[k].toNat : Int)) (Nm.foI (b[k].toNat : Int)) = Nm.cL a b := by
  unfold AlikeTo at h
  rw [h]
  have la := bs_length a
  have lb := bs_length b
  rw [Nm.lex_here (by omega) (by omega) (by rw [bs_get a k ha, bs_get b k hb]; exact e), bs_get a k ha, bs_get b k hb]; rfl

theorem alike_end {a b : ByteArray} {k : Nat} (h : AlikeTo a b k) (ha : k ≤ a.size) (hb : k ≤ b.size) (e : a.size ≤ k ∨ b.size ≤ k) : Nm.cmpI (a.size : Int) (b.size : Int) = Nm.cL a b := by
  unfold AlikeTo at h
  rw [h]
  have la := bs_length a
  have lb := bs_length b
  rw [Nm.lex_end (by omega) (by omega) (by omega), la, lb]

theorem u8_bound (c : UInt8) : 0 ≤ (c.toNat : Int) ∧ (c.toNat : Int) ≤ 255 := by have := c.toNat_lt; omega

set_option maxHeartbeats 400000 in
theorem compareLabels_any (a b : ByteArray) (w : World) (ha : a.size ≤ maxLen) (hb : b.size ≤ maxLen) :
    Calls Tryd.prog 25 #[.string a, .string b] w fun e w' => e = .returned (.int .i64 (Nm.cL a b)) ∧ Drawn w w' := by
  unfold maxLen at ha hb
  by_cases hm : (a.size : Int) ≤ (b.size : Int)
  all_goals
    go_enter Tryd.func25, Tryd.ntmps25
    go_wp2
    go_loopw [12] (fun c wr => ∃ k : Nat, k ≤ a.size ∧ k ≤ b.size ∧ c = .int .i64 k ∧ AlikeTo a b k ∧ Drawn w wr) (fun c _ => a.size - (intOf c).toNat)
    case atStart => exact ⟨0, Nat.zero_le _, Nat.zero_le _, rfl, alike_zero a b, Drawn.refl w⟩
    case round =>
      obtain ⟨k, hka, hkb, rfl, hal, hdr⟩ := hrel
      by_cases hlt : k < a.size ∧ k < b.size
      · obtain ⟨h1, h2⟩ := hlt
        go_wp2
        go_quiet ((first
          | (go_at_call 31; exact Calls.quiet_of_same (foldByte_any _ _ (u8_bound _).1 (u8_bound _).2))
          | (go_at_call 32; exact Calls.quiet_of_same (cmpByte_any _ _ _))))
        go_wp2
        · go_ret
          exact ⟨ret_int (alike_here hal h1 h2 (by simpa using ‹(Nm.cmpI _ _ != 0) = true›)), hdr.more _⟩
        · exact ⟨⟨k + 1, by omega, by omega, by go_num, alike_next hal h1 h2 (by simpa using ‹(Nm.cmpI _ _ != 0) = false›), hdr.more _⟩, by simp [intOf]; omega⟩
      · go_wp2_with (go_at_call 26; refine (cmpInt_any _ _ _).mono ?_; rintro e w' ⟨rfl, rfl⟩)
        go_ret
        exact ⟨ret_int (alike_end hal hka hkb (by omega)), hdr⟩

end Go.Proofs.YtbngafofmgcngaaDoor
