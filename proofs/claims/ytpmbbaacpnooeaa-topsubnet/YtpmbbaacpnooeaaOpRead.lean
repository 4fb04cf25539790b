/-
  Options read out of bytes, plain: what was written is read.
-/
import Derived.Test.YtpmbbaacpnooeaaEdRec
namespace Go.Proofs.Ytpmbbaacpnooeaa
open Go.RowKit Go.Deep

/-- The options that bytes are, if they are options alone (f: no more steps than that). -/
def optsN : Nat → List Int → Option (List On)
  | _, [] => some []
  | 0, _ :: _ => none
  | f + 1, b :: ms =>
    if (b :: ms).length < 4 then none
    else if (b :: ms).length < 4 + (numN (Nm.cut (b :: ms) 2 2)).toNat then none
    else (optsN f ((b :: ms).drop (4 + (numN (Nm.cut (b :: ms) 2 2)).toNat))).map (fun os => ⟨numN (Nm.cut (b :: ms) 0 2), Nm.cut (b :: ms) 4 (numN (Nm.cut (b :: ms) 2 2)).toNat⟩ :: os)

theorem optsN_step {f : Nat} {ms : List Int} (h : ms ≠ []) : optsN (f + 1) ms = if ms.length < 4 then none else if ms.length < 4 + (numN (Nm.cut ms 2 2)).toNat then none else (optsN f (ms.drop (4 + (numN (Nm.cut ms 2 2)).toNat))).map (fun os => ⟨numN (Nm.cut ms 0 2), Nm.cut ms 4 (numN (Nm.cut ms 2 2)).toNat⟩ :: os) := by
  cases ms with
  | nil => exact absurd rfl h
  | cons b ms => rfl

theorem two_numN {n : Int} (h0 : 0 ≤ n) (h1 : n ≤ 65535) : numN (twoN n) = n := by
  simp [numN, twoN]
  omega

theorem optsN_of (os : List On) (h : optE os = 0) : ∀ f, os.length ≤ f → optsN f (optB os) = some os := by
  induction os with
  | nil => intro f _; cases f <;> rfl
  | cons o os ih =>
    intro f hf
    rw [optE_cons] at h
    by_cases c1 : ¬ (0 ≤ o.code ∧ o.code ≤ 65535)
    · rw [if_pos c1] at h; cases h
    rw [if_neg c1] at h
    by_cases c2 : 65535 < o.D.length
    · rw [if_pos c2] at h; cases h
    rw [if_neg c2] at h
    have c1' : 0 ≤ o.code ∧ o.code ≤ 65535 := Classical.not_not.1 c1
    cases f with
    | zero => simp at hf
    | succ f =>
      have e : optB (o :: os) = o.code / 256 % 256 :: o.code % 256 :: (o.D.length : Int) / 256 % 256 :: (o.D.length : Int) % 256 :: (o.D ++ optB os) := by simp [optB, twoN]
      have k1 : Nm.cut (optB (o :: os)) 2 2 = twoN (o.D.length : Int) := by rw [e]; rfl
      have k2 : Nm.cut (optB (o :: os)) 0 2 = twoN o.code := by rw [e]; rfl
      have k3 : (numN (twoN (o.D.length : Int))).toNat = o.D.length := by rw [two_numN (by omega) (by omega)]; simp
      have k4 : (optB (o :: os)).length = 4 + o.D.length + (optB os).length := by rw [e]; simp; omega
      have k5 : (optB (o :: os)).drop (4 + o.D.length) = optB os := by rw [e, show 4 + o.D.length = o.D.length + 4 by omega]; simp
      have k6 : Nm.cut (optB (o :: os)) 4 o.D.length = o.D := by rw [e]; simp [Nm.cut]
      rw [optsN_step (by rw [e]; simp), k1, k3, k5, k6, k2, two_numN c1'.1 c1'.2, if_neg (by omega), if_neg (by omega), ih h f (by simpa using hf)]
      rfl

end Go.Proofs.Ytpmbbaacpnooeaa
