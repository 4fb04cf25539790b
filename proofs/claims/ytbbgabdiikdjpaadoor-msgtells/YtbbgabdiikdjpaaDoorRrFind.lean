/-
  The walks of find and Skip of package rr: the record at a place, found by the plain function; nothing that was there is written.
-/
import Derived.Test.YtbbgabdiikdjpaaDoorRr
namespace Go.Proofs.YtbbgabdiikdjpaaDoor
open Go.RowKit Go.Deep

theorem results_tmp4 {fn : Func} {t u v x : Tmp} (h : fn.results = #[.tmp t, .tmp u, .tmp v, .tmp x]) (tmps : Array Value) (P : Program) (w : World) :
    (results fn tmps).run P w = .ok (.tuple #[tmps.getD t undef, tmps.getD u undef, tmps.getD v undef, tmps.getD x undef]) w := by
  simp [results, h]

/-- The two bytes at a place, as a number. -/
def pairN (ms : List Int) (i : Nat) : Nat := (ms.getD i 0 * 256 + ms.getD (i + 1) 0).toNat

theorem num_cut2 {ms : List Int} {i : Nat} (h : i + 2 ≤ ms.length) : numN (Nm.cut ms i 2) = ms.getD i 0 * 256 + ms.getD (i + 1) 0 := by
  have hl : (Nm.cut ms i 2).length = 2 := Nm.cut_length (by omega)
  have e0 := cut_getD (ms := ms) (a := i) (k := 2) (i := 0) (by omega)
  have e1 := cut_getD (ms := ms) (a := i) (k := 2) (i := 1) (by omega)
  generalize Nm.cut ms i 2 = l at *
  match l, hl with
  | [a, b], _ =>
    simp at e0 e1
    rw [e0, e1]
    simp [numN]

theorem num_cut4 {ms : List Int} {i : Nat} (h : i + 4 ≤ ms.length) : numN (Nm.cut ms i 4) = ((ms.getD i 0 * 256 + ms.getD (i + 1) 0) * 256 + ms.getD (i + 2) 0) * 256 + ms.getD (i + 3) 0 := by
  have hl : (Nm.cut ms i 4).length = 4 := Nm.cut_length (by omega)
  have e0 := cut_getD (ms := ms) (a := i) (k := 4) (i := 0) (by omega)
  have e1 := cut_getD (ms := ms) (a := i) (k := 4) (i := 1) (by omega)
  have e2 := cut_getD (ms := ms) (a := i) (k := 4) (i := 2) (by omega)
  have e3 := cut_getD (ms := ms) (a := i) (k := 4) (i := 3) (by omega)
  generalize Nm.cut ms i 4 = l at *
  match l, hl with
  | [a, b, c, d], _ =>
    simp at e0 e1 e2 e3
    rw [e0, e1, e2, e3]
    simp [numN]

/-- The record at a place: what is wrong, its labels, the place behind them, the place behind it. -/
def recW (ms : List Int) (at0 : Int) : Int × List (List Int) × Nat × Nat :=
  match readW ms at0 with
  | (k, L, n) => if ¬ k = 0 then (k, [], 0, 0) else if ms.length < n + 10 then (2, [], 0, 0) else if ms.length < n + 10 + pairN ms (n + 8) then (2, [], 0, 0) else (0, L, n, n + 10 + pairN ms (n + 8))

def FindAt (k : Int) (L : List (List Int)) (n b : Int) (w : World) (e : Ending) (w' : World) : Prop :=
  ∃ y q, e = .returned (.tuple #[.slice y L.length q, .int .i64 n, .int .i64 b, errV k]) ∧ Strs w' y q (L.map strOfNums) ∧ Below w.heap.size w w' ∧ ∀ a, y = some a → w.heap.size ≤ a.block

theorem findAt_bad {w w' : World} {k : Int} (hk : ¬ k = 0) (hb : Below w.heap.size w w') : FindAt k [] 0 0 w (.returned (.tuple #[.slice none 0 0, .int .i64 0, .int .i64 0, .iface 29 (.int .i64 k)])) w' :=
  ⟨none, 0, by rw [errV_some hk]; rfl, Strs.empty w', hb, fun a q => by cases q⟩

set_option maxHeartbeats 1000000 in
set_option maxRecDepth 100000 in
theorem find_at {x : Option Addr} {c l : Nat} (k : Int) (L : List (List Int)) (n b : Nat) (ms : List Int) (at0 : Int) (w : World) (h : Bys w x c ms) (hl : ms.length = l) (h9 : at0 ≤ 9223372036854775807) (hr : recW ms at0 = (k, L, n, b)) :
    Calls Tryd.prog 56 #[.slice x l c, .int .i64 at0] w (FindAt k L (n : Int) (b : Int) w) := by
  subst hl
  have hlen : ms.length ≤ 200000000000000 := h.2.1
  have hcap : ms.length ≤ c := h.1
  have hbs := h.2.2.1
  obtain ⟨s, hs⟩ : ∃ s, readW ms at0 = s := ⟨_, rfl⟩
  obtain ⟨k1, L1, n1⟩ := s
  unfold recW at hr
  rw [hs] at hr
  simp only at hr
  by_cases k0 : k1 = 0
  · subst k0
    obtain ⟨m0, m1, m2, _⟩ := readW_may hbs hs
    rw [if_neg (by simp)] at hr
    have RD := hid hs
    clear hs
    by_cases c1 : ms.length < n1 + 10
    · rw [if_pos c1] at hr
      cases hr
      have c2 : (ms.length : Int) - (n1 : Int) < 10 := by omega
      go_enter Tryd.func56, Tryd.ntmps56
      go_wp2_with fail
      refine (read_at 0 L1 n1 ms at0 _ h rfl h9 RD.out).mono fun e w1 hp => ?_
      obtain ⟨y, q, rfl, hst, b1⟩ := readAt_ok hp
      clear hp
      go_wp2_with fail
      (try simp only [Exit.inBlock, Exit.then]); refine bodyPost_ret (results_tmp4 rfl _ _ _) rfl ?_
      exact findAt_bad (by decide) b1
    · rw [if_neg c1] at hr
      have c2 : ¬ (ms.length : Int) - (n1 : Int) < 10 := by omega
      obtain ⟨bk, off, rfl, hlt, q⟩ : ∃ b off, x = some ⟨b, off, none⟩ ∧ b < w.heap.size ∧ ∀ i, i < ms.length → w.cell? ⟨b, off + i, none⟩ = some (.int .u8 (ms.getD i 0)) := by
        rcases h.2.2.2 with hd | hd
        · rw [hd] at c1; simp at c1
        · exact hd
      have SB := hid (bys_sub hlt hcap hlen hbs q (n1 + 8) 2 (by omega))
      have NC := num_cut2 (ms := ms) (i := n1 + 8) (by omega)
      have g0 := getD_byte hbs (n1 + 8)
      have g1 := getD_byte hbs (n1 + 8 + 1)
      have hp : ((pairN ms (n1 + 8) : Nat) : Int) = numN (Nm.cut ms (n1 + 8) 2) := by unfold pairN; omega
      have hp2 : pairN ms (n1 + 8) ≤ 65535 := by unfold pairN; omega
      have CL := hid (Nm.cut_length (ms := ms) (a := n1 + 8) (k := 2) (by omega))
      have hne : ¬ c = n1 + 8 := by omega
      clear q NC g0 g1
      generalize Nm.cut ms (n1 + 8) 2 = two at *
      generalize pairN ms (n1 + 8) = p at *
      have HP := hid hp
      clear hp
      by_cases c3 : ms.length < n1 + 10 + p
      · rw [if_pos c3] at hr
        cases hr
        have c4 : (ms.length : Int) < (n1 : Int) + 10 + (p : Int) := by omega
        go_enter Tryd.func56, Tryd.ntmps56
        go_wp2_with fail
        refine (read_at 0 L1 n1 ms at0 _ h rfl h9 RD.out).mono fun e w1 hp => ?_
        obtain ⟨y, q, rfl, hst, b1⟩ := readAt_ok hp
        clear hp
        go_wp2_with fail
        refine (number_at (p : Int) two _ (SB.out.below b1) CL.out (by have := CL.out; omega) HP.out.symm).mono ?_
        rintro e w2 ⟨rfl, rfl⟩
        go_wp2_with fail
        (try simp only [Exit.inBlock, Exit.then]); refine bodyPost_ret (results_tmp4 rfl _ _ _) rfl ?_
        exact findAt_bad (by decide) b1
      · rw [if_neg c3] at hr
        cases hr
        have c4 : ¬ (ms.length : Int) < (n : Int) + 10 + (p : Int) := by omega
        go_enter Tryd.func56, Tryd.ntmps56
        go_wp2_with fail
        refine (read_at 0 L n ms at0 _ h rfl h9 RD.out).mono fun e w1 hp => ?_
        obtain ⟨y, q, rfl, hst, b1, fr⟩ := readAt_new hp
        clear hp
        go_wp2_with fail
        refine (number_at (p : Int) two _ (SB.out.below b1) CL.out (by have := CL.out; omega) HP.out.symm).mono ?_
        rintro e w2 ⟨rfl, rfl⟩
        go_wp2_with fail
        (try simp only [Exit.inBlock, Exit.then]); refine bodyPost_ret (results_tmp4 rfl _ _ _) rfl ?_
        exact ⟨y, q, rfl, hst, b1, fr⟩
  · rw [if_pos k0] at hr
    cases hr
    obtain ⟨rfl, rfl⟩ := readW_norm hs k0
    have RD := hid hs
    have K0 := hid k0
    clear hs k0
    go_enter Tryd.func56, Tryd.ntmps56
    go_wp2_with fail
    refine (read_at k [] 0 ms at0 _ h rfl h9 RD.out).mono fun e w1 hp => ?_
    obtain ⟨y, q, rfl, b1⟩ := readAt_no hp K0.out
    clear hp
    go_wp2_with fail
    (try simp only [Exit.inBlock, Exit.then]); refine bodyPost_ret (results_tmp4 rfl _ _ _) rfl ?_
    exact findAt_bad K0.out b1

theorem recW_norm {ms : List Int} {at0 : Int} {k : Int} {L : List (List Int)} {n b : Nat} (h : recW ms at0 = (k, L, n, b)) (hk : ¬ k = 0) : L = [] ∧ n = 0 ∧ b = 0 := by
  unfold recW at h
  split at h
  split at h
  · cases h; exact ⟨rfl, rfl, rfl⟩
  · split at h
    · cases h; exact ⟨rfl, rfl, rfl⟩
    · split at h
      · cases h; exact ⟨rfl, rfl, rfl⟩
      · cases h; exact absurd rfl hk

/-- A record that is found: its name is read, and all of it is there. -/
theorem recW_ok {ms : List Int} {at0 : Int} {L : List (List Int)} {n b : Nat} (h : recW ms at0 = (0, L, n, b)) : readW ms at0 = (0, L, n) ∧ b = n + 10 + pairN ms (n + 8) ∧ b ≤ ms.length := by
  unfold recW at h
  split at h
  rename_i k L' n' e
  by_cases k0 : k = 0
  · subst k0
    rw [if_neg (by simp)] at h
    split at h
    · simp at h
    · split at h
      · simp at h
      · simp only [Prod.mk.injEq, true_and] at h
        obtain ⟨rfl, rfl, rfl⟩ := h
        exact ⟨e, rfl, by omega⟩
  · rw [if_pos k0] at h
    simp only [Prod.mk.injEq] at h
    exact absurd h.1 k0

end Go.Proofs.YtbbgabdiikdjpaaDoor
