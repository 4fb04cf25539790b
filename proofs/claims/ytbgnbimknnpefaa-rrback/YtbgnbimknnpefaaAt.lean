/-
  What small letters do to labels and names, in plain lists; and the contracts of Compare, Same, Under, Texts and Fold with lengths and answers as a caller spells them.
-/
import Derived.Test.YtbgnbimknnpefaaFold
namespace Go.Proofs.Ytbgnbimknnpefaa
open Go.RowKit Go.Deep

theorem bs_bound (s : ByteArray) (x : Int) (h : x ∈ Nm.bs s) : 0 ≤ x ∧ x ≤ 255 := by
  unfold Nm.bs at h
  obtain ⟨c, _, rfl⟩ := List.mem_map.1 h
  exact u8_bound c

theorem bs_of (xs : List Int) (h : ∀ x ∈ xs, 0 ≤ x ∧ x ≤ 255) : Nm.bs (strOfNums xs) = xs := by
  unfold Nm.bs
  rw [strOfNums_data, List.map_map]
  have : ∀ x ∈ xs, ((fun c : UInt8 => (c.toNat : Int)) ∘ fun n : Int => UInt8.ofNat n.toNat) x = id x := by
    intro x hx
    have := h x hx
    simp only [Function.comp, id, UInt8.toNat_ofNat']
    omega
  rw [List.map_congr_left this, List.map_id]

theorem bs_fS (s : ByteArray) : Nm.bs (fS s) = Nm.fL s := by
  unfold fS Nm.fL
  refine bs_of _ fun x hx => ?_
  obtain ⟨y, hy, rfl⟩ := List.mem_map.1 hx
  have := bs_bound s y hy
  exact Nm.foI_bound y this.1 this.2

theorem fL_fS (s : ByteArray) : Nm.fL (fS s) = Nm.fL s := by
  have e : Nm.fL (fS s) = (Nm.bs (fS s)).map Nm.foI := rfl
  rw [e, bs_fS]
  unfold Nm.fL
  rw [List.map_map]
  exact List.map_congr_left fun x _ => Nm.foI_twice x

theorem fS_fL (s : ByteArray) : fS s = strOfNums (Nm.fL s) := rfl

theorem fS_twice (s : ByteArray) : fS (fS s) = fS s := by rw [fS_fL (fS s), fL_fS]; rfl

theorem map_fL_fS (a : List ByteArray) : (a.map fS).map Nm.fL = a.map Nm.fL := by
  rw [List.map_map]; exact List.map_congr_left fun x _ => fL_fS x

theorem map_fS_twice (a : List ByteArray) : decide ((a.map fS).map fS = a.map fS) = true := by
  apply decide_eq_true
  rw [List.map_map]; exact List.map_congr_left fun x _ => fS_twice x

theorem map_fS_iff (a b : List ByteArray) : decide (a.map fS = b.map fS) = (Nm.cN a b == 0) := by
  rw [Bool.eq_iff_iff, decide_eq_true_iff, beq_iff_eq, Nm.cN_zero]
  constructor
  · intro h
    have : (a.map fS).map Nm.bs = (b.map fS).map Nm.bs := by rw [h]
    rw [List.map_map, List.map_map] at this
    have e : Nm.bs ∘ fS = Nm.fL := funext bs_fS
    rwa [e] at this
  · intro h
    have : (a.map Nm.fL).map strOfNums = (b.map Nm.fL).map strOfNums := by rw [h]
    rw [List.map_map, List.map_map] at this
    exact this

theorem cN_fold (a : List ByteArray) : Nm.cN (a.map fS) a = 0 := (Nm.cN_zero _ _).2 (map_fL_fS a)

theorem fact_one : Nm.cN [⟨#[98]⟩] [⟨#[65]⟩] = 1 := by decide +kernel

/-! ### The contracts, with their lengths and answers as the caller spells them -/

theorem texts_at (r : Bool) {xa xb : Option Addr} {ca cb la lb : Nat} (a b : List ByteArray) (w : World) (ha : Strs w xa ca a) (hb : Strs w xb cb b) (hla : a.length = la) (hlb : b.length = lb) (hr : decide (a = b) = r) :
    Calls Try.prog 13 #[.slice xa la ca, .slice xb lb cb] w fun e w' => e = .returned (.bool r) ∧ Drawn w w' := by
  subst hla hlb hr; exact texts_any _ _ _ _ a b w ha hb

theorem Strs.one {w : World} {g : Nat} {s : ByteArray} (hg : g < w.heap.size) (hc : w.cell? ⟨g, 0, none⟩ = some (.string s)) (hs : s.size ≤ 140737488355328) : Strs w (some ⟨g, 0, none⟩) 1 [s] := by
  refine ⟨Nat.le_refl _, by simp, fun t ht => ?_, Or.inr ⟨g, 0, rfl, hg, fun i hi => ?_⟩⟩
  · rw [List.mem_singleton.1 ht]; exact hs
  · have : i = 0 := by simpa using hi
    subst this; simpa using hc

theorem Strs.empty (w : World) : Strs w none 0 [] := ⟨Nat.le_refl _, by simp, fun s hs => by simp at hs, Or.inl rfl⟩

end Go.Proofs.Ytbgnbimknnpefaa
