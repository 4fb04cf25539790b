/-
  What rules in a row say of a query, plain.
-/
import Derived.Test.YtnbabdfcamdapaaChMem
namespace Go.Proofs.Ytnbabdfcamdapaa.Ru
open Go.RowKit Go.Deep

/-- The faults of some rules. -/
def faults (rs : List Ra) : List Int := rs.map fun r => ruleE r.ms

/-- Which is wrong, and how. -/
def chainE (rs : List Ra) : Int × Int := if 50 < rs.length then (0, 7) else Ch.wrong (faults rs)

open Classical in
/-- Does a rule without a fault hold of a query? -/
noncomputable def holdN (q : Qy) (ms : List Mt) : Bool := if h : ∃ tr, flat tr = ms ∧ wf tr then ev q h.choose else false

theorem holdN_of {q : Qy} {tr : T} (hw : wf tr) : holdN q (flat tr) = ev q tr := by
  have h : ∃ t, flat t = flat tr ∧ wf t := ⟨tr, rfl, hw⟩
  unfold holdN
  rw [dif_pos h, flat_inj h.choose_spec.2 hw h.choose_spec.1]

/-- Which of them hold. -/
noncomputable def holds (q : Qy) (rs : List Ra) : List Bool := rs.map fun r => holdN q r.ms

/-- The first that holds; 0 where one is wrong. -/
noncomputable def chainR (q : Qy) (rs : List Ra) : Int := if (chainE rs).2 = 0 then Ch.first (holds q rs) else 0

/-- What is done; 0 where one is wrong. -/
noncomputable def chainD (q : Qy) (other : Int) (rs : List Ra) : Int := if (chainE rs).2 = 0 then Ch.act other (rs.map fun r => (holdN q r.ms, r.act)) else 0

/-- None is wrong: each is right, and there are no more than fifty. -/
theorem chainE_zero {rs : List Ra} : (chainE rs).2 = 0 ↔ rs.length ≤ 50 ∧ ∀ r ∈ rs, ruleE r.ms = 0 := by
  unfold chainE faults
  split
  · rename_i h
    constructor
    · intro k; simp at k
    · rintro ⟨k, _⟩; omega
  · rename_i h
    rw [Ch.wrong_none]
    constructor
    · intro k; exact ⟨by omega, fun r hr => k _ (List.mem_map.2 ⟨r, hr, rfl⟩)⟩
    · rintro ⟨_, k⟩ e he
      obtain ⟨r, hr, rfl⟩ := List.mem_map.1 he
      exact k r hr

theorem chainE_fst {rs : List Ra} (h : (chainE rs).2 = 0) : chainE rs = (0, 0) := by
  unfold chainE at h ⊢
  split
  · rename_i k; rw [if_pos k] at h; simp at h
  · rename_i k; rw [if_neg k] at h; exact Ch.wrong_zero h

theorem chainR_first {q : Qy} {rs : List Ra} (h : (chainE rs).2 = 0) : chainR q rs = Ch.first (holds q rs) := if_pos h

theorem chainD_act {q : Qy} {rs : List Ra} {other : Int} (h : (chainE rs).2 = 0) : chainD q other rs = Ch.act other (rs.map fun r => (holdN q r.ms, r.act)) := if_pos h

theorem acts_get {q : Qy} {rs : List Ra} {i : Nat} {other d : Int} (h : Ch.first (holds q rs) = (i : Int)) (hd : Ch.act other (rs.map fun r => (holdN q r.ms, r.act)) = d) : ∃ hi : i < rs.length, rs[i].act = d := by
  have e : (rs.map fun r => (holdN q r.ms, r.act)).map (·.1) = holds q rs := by simp [holds, Function.comp_def]
  obtain ⟨b, hb⟩ := Ch.act_first other (rs.map fun r => (holdN q r.ms, r.act)) i (by rw [e]; exact h)
  rw [List.getElem?_map, Option.map_eq_some_iff] at hb
  obtain ⟨r, hr, hp⟩ := hb
  obtain ⟨hi, hg⟩ := List.getElem?_eq_some_iff.1 hr
  simp only [Prod.mk.injEq] at hp
  exact ⟨hi, by rw [hg, hp.2, hd]⟩

theorem acts_none {q : Qy} {rs : List Ra} {other : Int} (h : Ch.first (holds q rs) < 0) : Ch.act other (rs.map fun r => (holdN q r.ms, r.act)) = other := by
  refine Ch.act_none _ _ fun x hx => ?_
  obtain ⟨r, hr, rfl⟩ := List.mem_map.1 hx
  exact (Ch.first_none _).1 h _ (List.mem_map.2 ⟨r, hr, rfl⟩)

end Go.Proofs.Ytnbabdfcamdapaa.Ru
