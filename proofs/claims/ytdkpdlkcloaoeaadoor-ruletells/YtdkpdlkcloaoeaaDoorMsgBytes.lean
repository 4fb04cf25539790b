/-
  The walk of Bytes: are two slices of bytes the same? It only reads.
-/
import Derived.Test.YtdkpdlkcloaoeaaDoorMsg
namespace Go.Proofs.YtdkpdlkcloaoeaaDoor
open Go.RowKit Go.Deep

theorem byte_next {a b : List Int} {k : Nat} (h : a.take k = b.take k) (ha : k < a.length) (hb : k < b.length) (e : (a.getD k 0 != b.getD k 0) = false) : a.take (k + 1) = b.take (k + 1) := by
  rw [List.take_succ_eq_append_getElem ha, List.take_succ_eq_append_getElem hb, h]
  rw [List.getD_eq_getElem?_getD, List.getD_eq_getElem?_getD, List.getElem?_eq_getElem ha, List.getElem?_eq_getElem hb] at e
  simp at e
  rw [e]

theorem byte_neq {a b : List Int} {k : Nat} (e : (a.getD k 0 != b.getD k 0) = true) : false = decide (a = b) := by
  symm
  apply decide_eq_false
  intro h
  rw [h] at e
  simp at e

theorem byte_all {a b : List Int} {k : Nat} (h : a.take k = b.take k) (ha : a.length ≤ k) (hb : b.length = a.length) : true = decide (a = b) := by
  symm
  apply decide_eq_true
  rwa [List.take_of_length_le ha, List.take_of_length_le (by omega)] at h

set_option maxHeartbeats 400000 in
set_option maxRecDepth 100000 in
theorem bytes_any (xa xb : Option Addr) (ca cb : Nat) (a b : List Int) (w : World) (ha : Bys w xa ca a) (hb : Bys w xb cb b) :
    Calls Tryd.prog 23 #[.slice xa a.length ca, .slice xb b.length cb] w fun e w' => e = .returned (.bool (decide (a = b))) ∧ Drawn w w' := by
  have la : a.length ≤ 200000000000000 := ha.2.1
  have lb : b.length ≤ 200000000000000 := hb.2.1
  by_cases hle : b.length = a.length
  · have hg : ((a.length : Int) != (b.length : Int)) = false := by simp; omega
    have HL := hid hle
    clear hle
    go_enter Tryd.func23, Tryd.ntmps23
    go_wp2
    go_loopw [5] (fun c wr => ∃ k : Nat, k ≤ a.length ∧ c = .int .i64 (k : Int) ∧ a.take k = b.take k ∧ Drawn w wr) (fun c _ => a.length - (intOf c).toNat)
    case atStart => exact ⟨0, Nat.zero_le _, rfl, rfl, Drawn.refl w⟩
    case round =>
      obtain ⟨k, hka, rfl, hal, hdr⟩ := hrel
      have HA := hid hal
      clear hal
      by_cases h1 : k < a.length
      · have h2 : k < b.length := by rw [HL.out]; exact h1
        obtain ⟨_, _, sa, da⟩ := ha.drawn hdr
        obtain ⟨_, _, sb, db⟩ := hb.drawn hdr
        rcases da with da | ⟨ba, oa, rfl, _, qa⟩
        · rw [da] at h1; simp at h1
        rcases db with db | ⟨bb, ob, rfl, _, qb⟩
        · rw [db] at h2; simp at h2
        have fa := qa k (by omega)
        have fb := qb k (by omega)
        clear qa qb sa sb
        have N1 := hid (byte_next HA.out h1 h2)
        have N2 := hid (@byte_neq a b k)
        generalize a.getD k 0 = sa at *
        generalize b.getD k 0 = sb at *
        go_wp2
        go_quiet (fail)
        go_wp2
        · go_ret
          exact ⟨ret_bool (N2.out ‹_›), hdr.more _⟩
        · exact ⟨⟨k + 1, by omega, by go_num, N1.out ‹_›, hdr.more _⟩, by simp [intOf]; omega⟩
      · go_wp2
        go_ret
        exact ⟨ret_bool (byte_all HA.out (by omega) HL.out), hdr⟩
  · have hg : ((a.length : Int) != (b.length : Int)) = true := by rw [bne_iff_ne]; omega
    have e : decide (a = b) = false := decide_eq_false (fun h => hle (by rw [h]))
    rw [e]
    clear e
    go_enter Tryd.func23, Tryd.ntmps23
    go_wp2
    go_ret
    exact ⟨rfl, Drawn.refl w⟩

theorem bytes_at (r : Bool) {xa xb : Option Addr} {ca cb la lb : Nat} (a b : List Int) (w : World) (ha : Bys w xa ca a) (hb : Bys w xb cb b) (hla : a.length = la) (hlb : b.length = lb) (hr : decide (a = b) = r) :
    Calls Tryd.prog 23 #[.slice xa la ca, .slice xb lb cb] w fun e w' => e = .returned (.bool r) ∧ Below w.heap.size w w' := by
  subst hla hlb hr; exact (bytes_any _ _ _ _ a b w ha hb).mono fun _ _ ⟨a, b⟩ => ⟨a, b.below _⟩

end Go.Proofs.YtdkpdlkcloaoeaaDoor
