/-
  The walk of the document's own answer NameAt: what it tells is what the plain function tells; it makes its own memory, and writes nothing that was there.
-/
import Derived.Test.YtbbgabdiikdjpaaDoorRefWire
namespace Go.Proofs.YtbbgabdiikdjpaaDoor
open Go.RowKit Go.Deep

def AtPost (r : Int × List (List Int) × Nat) (w : World) (e : Ending) (w' : World) : Prop :=
  ∃ y q, e = .returned (.agg #[.slice y r.2.1.length q, .int .i64 (r.2.2 : Int), .int .i64 r.1]) ∧ Strs w' y q (r.2.1.map strOfNums) ∧ Below w.heap.size w w' ∧ ∀ a, y = some a → w.heap.size ≤ a.block

theorem atPost_bad {r : Int × List (List Int) × Nat} {w w' : World} {k : Int} (h : r = (k, [], 0)) (hb : Below w.heap.size w w') : AtPost r w (.returned (.agg #[.slice none 0 0, .int .i64 0, .int .i64 k])) w' := by
  subst h
  exact ⟨none, 0, rfl, Strs.empty w', hb, fun a q => by cases q⟩

set_option maxHeartbeats 1000000 in
set_option maxRecDepth 100000 in
theorem nameAt_any (x : Option Addr) (c : Nat) (ms : List Int) (at0 : Int) (w : World) (h : Bys w x c ms) (h9 : at0 ≤ 9223372036854775807) :
    Calls Tryd.prog 23 #[.slice x ms.length c, .int .i64 at0] w (AtPost (readW ms at0) w) := by
  by_cases hn : at0 < 0
  · have e : readW ms at0 = (6, [], 0) := by unfold readW; rw [if_pos hn]
    have E := hid e
    clear e
    go_enter Tryd.func23, Tryd.ntmps23
    go_wp2_with fail
    refine bodyPost_ret (v := .agg #[.slice none 0 0, .int .i64 0, .int .i64 6]) (by simp [results, Tryd.results23, go_sem]) rfl ?_
    exact atPost_bad E.out (by repeat (first | exact Below.refl _ _ | refine Below.setCell ?_ (Nat.le_refl _) _ | refine Below.alloc ?_ (by simp <;> omega) _))
  · obtain ⟨a, rfl⟩ : ∃ a : Nat, at0 = (a : Int) := ⟨at0.toNat, by omega⟩
    have e : readW ms (a : Int) = Nm.rdA ms a a 1 := by unfold readW; rw [if_neg hn, Int.toNat_natCast]
    have NR := Nm.rdA_norm ms a a 1
    rw [← e] at NR
    have E := hid e
    clear e
    go_enter Tryd.func23, Tryd.ntmps23
    go_wp2_with fail
    refine (nameFrom_any x c ms (Nm.fu ms a a) a a 1 _ (h.below ((Below.refl _ w).alloc (Nat.le_refl _) _)) (Nat.le_refl _) (by omega) (by omega) (by omega) (by omega)).mono fun e w1 hq => ?_
    rw [← E.out] at hq
    obtain ⟨y, qq, Ls, nx, rfl, hst, hnil, hlen, hok, b1, hfr⟩ := hq
    have k0 : w1.cell? ⟨w.heap.size, 0, none⟩ = some (.slice none 0 0) := by rw [b1.cell (p := ⟨w.heap.size, 0, none⟩) (by simp), World.cell?_alloc_at _ _ _ _ rfl]; rfl
    have k1 : w1.cell? ⟨w.heap.size, 1, none⟩ = some (.int .i64 0) := by rw [b1.cell (p := ⟨w.heap.size, 1, none⟩) (by simp), World.cell?_alloc_at _ _ _ _ rfl]; rfl
    have k2 : w1.cell? ⟨w.heap.size, 2, none⟩ = some (.int .i64 0) := by rw [b1.cell (p := ⟨w.heap.size, 2, none⟩) (by simp), World.cell?_alloc_at _ _ _ _ rfl]; rfl
    have z0 : w1.frozen? ⟨w.heap.size, 0, none⟩ = false := by rw [b1.frozen (p := ⟨w.heap.size, 0, none⟩) (by simp)]; simp [go_sem]
    have z1 : w1.frozen? ⟨w.heap.size, 1, none⟩ = false := by rw [b1.frozen (p := ⟨w.heap.size, 1, none⟩) (by simp)]; simp [go_sem]
    have z2 : w1.frozen? ⟨w.heap.size, 2, none⟩ = false := by rw [b1.frozen (p := ⟨w.heap.size, 2, none⟩) (by simp)]; simp [go_sem]
    have hw1 : w.heap.size < w1.heap.size := by have := b1.size; simp at this; omega
    have hfr2 : ∀ a, y = some a → w.heap.size < a.block := fun a q => by have := hfr a q; simp at this; omega
    have BB := hid (grown_on ((Below.refl _ w).alloc (Nat.le_refl _) _) b1)
    have FR := hid hfr2
    have HST := hid hst
    have HOK := hid hok
    have NRR := hid NR
    clear hst hok b1 hfr hfr2 hnil NR
    obtain ⟨rk, hrk⟩ : ∃ rk, (readW ms (a : Int)).1 = rk := ⟨_, rfl⟩
    rw [hrk]
    have HRK := hid hrk
    clear hrk
    by_cases r0 : rk = 0
    · subst r0
      obtain ⟨o1, o2⟩ := HOK.out HRK.out
      subst o1 o2
      clear HOK
      go_wp2_with fail
      refine bodyPost_ret (v := .agg #[.slice y ((readW ms (a : Int)).2.1.map strOfNums).length qq, .int .i64 ((readW ms (a : Int)).2.2 : Int), .int .i64 0]) (by simp [results, Tryd.results23, go_sem, k0, k1, k2, hw1]) rfl ?_
      refine ⟨y, qq, by rw [HRK.out, List.length_map], ?_, ?_, fun a q => Nat.le_of_lt (FR.out a q)⟩
      · refine Strs.below ?_ ((Below.refl _ _).alloc (Nat.le_refl _) _)
        refine Strs.setCell (Strs.setCell (Strs.setCell HST.out _ _ ?_) _ _ ?_) _ _ ?_ <;> exact fun a q e => by have := FR.out a q; simp at e; omega
      · exact (((BB.out.setCell (Nat.le_refl _) _).setCell (Nat.le_refl _) _).setCell (Nat.le_refl _) _).alloc (by simp; omega) _
    · have r0' : (rk != 0) = true := bne_iff_ne.2 r0
      have R0 := hid r0
      clear r0
      go_wp2_with fail
      refine bodyPost_ret (v := .agg #[.slice none 0 0, .int .i64 0, .int .i64 rk]) (by simp [results, Tryd.results23, go_sem, k0, k1, k2, hw1]) rfl ?_
      refine atPost_bad (by rw [← HRK.out]; exact NRR.out (by rw [HRK.out]; exact R0.out)) ?_
      exact (((BB.out.setCell (Nat.le_refl _) _).setCell (Nat.le_refl _) _).setCell (Nat.le_refl _) _).alloc (by simp; omega) _

theorem nameAt_new {x : Option Addr} {c l : Nat} (k : Int) (L : List (List Int)) (n : Nat) (ms : List Int) (at0 : Int) (w : World) (h : Bys w x c ms) (hl : ms.length = l) (h9 : at0 ≤ 9223372036854775807) (hr : readW ms at0 = (k, L, n)) :
    Calls Tryd.prog 23 #[.slice x l c, .int .i64 at0] w fun e w' => ∃ y q, e = .returned (.agg #[.slice y L.length q, .int .i64 (n : Int), .int .i64 k]) ∧ Strs w' y q (L.map strOfNums) ∧ Below w.heap.size w w' ∧ ∀ a, y = some a → w.heap.size ≤ a.block := by
  subst hl
  refine (nameAt_any x c ms at0 w h h9).mono fun e w' hp => ?_
  unfold AtPost at hp
  rw [hr] at hp
  exact hp

theorem nameAt_at {x : Option Addr} {c l : Nat} (k : Int) (L : List (List Int)) (n : Nat) (ms : List Int) (at0 : Int) (w : World) (h : Bys w x c ms) (hl : ms.length = l) (h9 : at0 ≤ 9223372036854775807) (hr : readW ms at0 = (k, L, n)) :
    Calls Tryd.prog 23 #[.slice x l c, .int .i64 at0] w fun e w' => ∃ y q, e = .returned (.agg #[.slice y L.length q, .int .i64 (n : Int), .int .i64 k]) ∧ Strs w' y q (L.map strOfNums) ∧ Below w.heap.size w w' := by
  refine (nameAt_new k L n ms at0 w h hl h9 hr).mono fun e w' ⟨y, q, h1, h2, h3, _⟩ => ⟨y, q, h1, h2, h3⟩

end Go.Proofs.YtbbgabdiikdjpaaDoor
