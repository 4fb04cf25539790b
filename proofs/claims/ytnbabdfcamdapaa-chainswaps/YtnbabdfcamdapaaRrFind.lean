/-
  The walks of find and Skip of package rr: the record at a place, found by the plain function; nothing that was there is written.
-/
import Derived.Test.YtnbabdfcamdapaaRr
namespace Go.Proofs.Ytnbabdfcamdapaa
open Go.RowKit Go.Deep

theorem results_tmp4 {fn : Func} {t u v x : Tmp} (h : fn.results = #[.tmp t, .tmp u, .tmp v, .tmp x]) (tmps : Array Value) (P : Program) (w : World) :
    (results fn tmps).run P w = .ok (.tuple #[tmps.getD t undef, tmps.getD u undef, tmps.getD v undef, tmps.getD x undef]) w := by
  simp [results, h]

/-- The two bytes at a place, as a number. -/
def pairN (ms : List Int) (i : Nat) : Nat := (ms.getD i 0 * 256 + ms.getD (i + 1) 0).toNat

theorem num_cut2 {ms : List Int} {i : Nat} (h : i + 2 ≤ ms.length) : numN (Nm.cut ms i 2) = ms.getD i 0 * 256 + ms.getD (i + 1) 0 := by
  have hl : (Nm.cut ms i 2).length = 2 := Nm.cut_length (by omega)
  have e0 := cut_getD (ms := ms) (a := i) (k := 2) (i := 0) (by omega)
  have e1 := cut_getD (ms := ms) (a := i) (k := 2) (i := 1) (by omega)
  generalize Nm.cut ms i 2 = l at *
  match l, hl with
  | [a, b], _ =>
    simp at e0 e1
    rw [e0, e1]
    simp [numN]

theorem num_cut4 {ms : List Int} {i : Nat} (h : i + 4 ≤ ms.length) : numN (Nm.cut ms i 4) = ((ms.getD i 0 * 256 + ms.getD (i + 1) 0) * 256 + ms.getD (i + 2) 0) * 256 + ms.getD (i + 3) 0 := by
  have hl : (Nm.cut ms i 4).length = 4 := Nm.cut_length (by omega)
  have e0 := cut_getD (ms := ms) (a := i) (k := 4) (i := 0) (by omega)
  have e1 := cut_getD (ms := ms) (a := i) (k := 4) (i := 1) (by omega)
  have e2 := cut_getD (ms := ms) (a := i) (k := 4) (i := 2) (by omega)
  have e3 := cut_getD (ms := ms) (a := i) (k := 4) (i := 3) (by omega)
  generalize Nm.cut ms i 4 = l at *
  match l, hl with
  | [a, b, c, d], _ =>
    simp at e0 e1 e2 e3
    rw [e0, e1, e2, e3]
    simp [numN]

/-- The record at a place: what is wrong, its labels, the place behind them, the place behind it. -/
def recW (ms : List Int) (at0 : Int) : Int × List (List Int) × Nat × Nat :=
  match readW ms at0 with
  | (k, L, n) => if ¬ k = 0 then (k, [], 0, 0) else if ms.length < n + 10 then (2, [], 0, 0) else if ms.length < n + 10 + pairN ms (n + 8) then (2, [], 0, 0) else (0, L, n, n + 10 + pairN ms (n + 8))

def FindAt (k : Int) (L : List (List Int)) (n b : Int) (w : World) (e : Ending) (w' : World) : Prop :=
  ∃ y q, e = .returned (.tuple #[.slice y L.length q, .int .i64 n, .int .i64 b, errV k]) ∧ Strs w' y q (L.map strOfNums) ∧ Below w.heap.size w w' ∧ ∀ a, y = some a → w.heap.size ≤ a.block

theorem findAt_bad {w w' : World} {k : Int} (hk : ¬ k = 0) (hb : Below w.heap.size w w') : FindAt k [] 0 0 w (.returned (.tuple #[.slice none 0 0, .int .i64 0, .int .i64 0, .iface 52 (.int .i64 k)])) w' :=
  ⟨none, 0, by rw [errV_some hk]; rfl, Strs.empty w', hb, fun a q => by cases q⟩

theorem recW_norm {ms : List Int} {at0 : Int} {k : Int} {L : List (List Int)} {n b : Nat} (h : recW ms at0 = (k, L, n, b)) (hk : ¬ k = 0) : L = [] ∧ n = 0 ∧ b = 0 := by
  unfold recW at h
  split at h
  split at h
  · cases h; exact ⟨rfl, rfl, rfl⟩
  · split at h
    · cases h; exact ⟨rfl, rfl, rfl⟩
    · split at h
      · cases h; exact ⟨rfl, rfl, rfl⟩
      · cases h; exact absurd rfl hk

/-- A record that is found: its name is read, and all of it is there. -/
theorem recW_ok {ms : List Int} {at0 : Int} {L : List (List Int)} {n b : Nat} (h : recW ms at0 = (0, L, n, b)) : readW ms at0 = (0, L, n) ∧ b = n + 10 + pairN ms (n + 8) ∧ b ≤ ms.length := by
  unfold recW at h
  split at h
  rename_i k L' n' e
  by_cases k0 : k = 0
  · subst k0
    rw [if_neg (by simp)] at h
    split at h
    · simp at h
    · split at h
      · simp at h
      · simp only [Prod.mk.injEq, true_and] at h
        obtain ⟨rfl, rfl, rfl⟩ := h
        exact ⟨e, rfl, by omega⟩
  · rw [if_pos k0] at h
    simp only [Prod.mk.injEq] at h
    exact absurd h.1 k0

end Go.Proofs.Ytnbabdfcamdapaa
