/-
  The walk of Pair of package pointsmanref1; what RecordAt hands back.
-/
import Derived.Test.YtgfplkhcihcagaaDoorRefAt
import Derived.Test.YtgfplkhcihcagaaDoorMg
import Derived.Test.YtgfplkhcihcagaaDoorRrRead
import Derived.Deep.RegionHeld3
import Derived.Deep.Cut
namespace Go.Proofs.YtgfplkhcihcagaaDoor
open Go.RowKit Go.Deep

/-- The pair of bytes at a place. -/
def prN (ms : List Int) (z : Int) : Int := ms.getD z.toNat 0 * 256 + ms.getD (z.toNat + 1) 0

theorem prN_bound {ms : List Int} (hb : ∀ b ∈ ms, 0 ≤ b ∧ b ≤ 255) (z : Int) : 0 ≤ prN ms z ∧ prN ms z ≤ 65535 := by
  unfold prN
  have g0 := getD_byte hb z.toNat
  have g1 := getD_byte hb (z.toNat + 1)
  omega

set_option maxRecDepth 100000 in
theorem rpairAt {x : Option Addr} {c l : Nat} (ms : List Int) (z v : Int) (w : World) (h : Bys w x c ms) (hl : ms.length = l) (h0 : 0 ≤ z) (h1 : z + 2 ≤ (ms.length : Int)) (hv : prN ms z = v) :
    Calls Tryd.prog 35 #[.slice x l c, .int .i64 z] w fun e w' => e = .returned (.int .i64 v) ∧ Below w.heap.size w w' := by
  subst hl
  have hlen : ms.length ≤ 200000000000000 := h.2.1
  obtain ⟨a, rfl⟩ : ∃ a : Nat, z = (a : Int) := ⟨z.toNat, by omega⟩
  have g0 := getD_byte h.2.2.1 a
  have g1 := getD_byte h.2.2.1 (a + 1)
  obtain ⟨b, off, rfl, hlt, q⟩ : ∃ b off, x = some ⟨b, off, none⟩ ∧ b < w.heap.size ∧ ∀ i, i < ms.length → w.cell? ⟨b, off + i, none⟩ = some (.int .u8 (ms.getD i 0)) := by
    rcases h.2.2.2 with hd | hd
    · rw [hd] at h1; simp at h1; omega
    · exact hd
  have q0 := q a (by omega)
  have q1 := q (a + 1) (by omega)
  have HV : Hid (ms.getD a 0 * 256 + ms.getD (a + 1) 0 = v) := hid (by rw [← hv]; unfold prN; rw [Int.toNat_natCast])
  clear q hv h
  generalize ms.getD a 0 = s at *
  generalize ms.getD (a + 1) 0 = t at *
  obtain ⟨g00, g01⟩ := g0
  obtain ⟨g10, g11⟩ := g1
  have i0 : (a : Int) < (ms.length : Int) := by omega
  have i1 : (a : Int) + 1 < (ms.length : Int) := by omega
  go_enter Tryd.func35, Tryd.ntmps35
  go_wp2
  go_quiet (fail)
  go_wp2
  go_ret
  rw [← HV.out]
  exact ⟨rfl, ((Drawn.refl w).more _).below _⟩

theorem Bl.new' (t : TypeId) (w : World) (C : Array Value) : Bl t (w.alloc (.cells C t)) w.heap.size C := Bl.new t w C

def rec8 : Array Value := #[.slice none 0 0, .int .i64 0, .int .i64 0, .int .i64 0, .slice none 0 0, .int .i64 0, .int .i64 0, .int .i64 0]

theorem results_recat (tmps : Array Value) (w : World) (b : Nat) (v0 v1 v2 v3 v4 v5 v6 v7 : Value) (hp : tmps.getD 4 undef = .pointer (some ⟨b, 0, none⟩)) (hb : Bl 85 w b #[v0, v1, v2, v3, v4, v5, v6, v7]) :
    (results Tryd.f37 tmps).run Tryd.prog w = .ok (.agg #[v0, v1, v2, v3, v4, v5, v6, v7]) w := by
  have c0 : w.cell? ⟨b, 0, none⟩ = some v0 := hb.cell (i := 0) rfl
  have c1 : w.cell? ⟨b, 1, none⟩ = some v1 := hb.cell (i := 1) rfl
  have c2 : w.cell? ⟨b, 2, none⟩ = some v2 := hb.cell (i := 2) rfl
  have c3 : w.cell? ⟨b, 3, none⟩ = some v3 := hb.cell (i := 3) rfl
  have c4 : w.cell? ⟨b, 4, none⟩ = some v4 := hb.cell (i := 4) rfl
  have c5 : w.cell? ⟨b, 5, none⟩ = some v5 := hb.cell (i := 5) rfl
  have c6 : w.cell? ⟨b, 6, none⟩ = some v6 := hb.cell (i := 6) rfl
  have c7 : w.cell? ⟨b, 7, none⟩ = some v7 := hb.cell (i := 7) rfl
  have hp' : tmps[4]?.getD undef = .pointer (some ⟨b, 0, none⟩) := by simpa using hp
  simp [results, Tryd.results37, go_sem, hp', c0, c1, c2, c3, c4, c5, c6, c7]

theorem Bl.put8 {t : TypeId} {w : World} {b : Nat} {a0 a1 a2 a3 a4 a5 a6 a7 : Value} (h : Bl t w b #[a0, a1, a2, a3, a4, a5, a6, a7]) (v0 v1 v2 v3 v4 v5 v6 v7 : Value) :
    Bl t ((((((((w.setCell ⟨b, 0, none⟩ v0).setCell ⟨b, 1, none⟩ v1).setCell ⟨b, 2, none⟩ v2).setCell ⟨b, 3, none⟩ v3).setCell ⟨b, 4, none⟩ v4).setCell ⟨b, 5, none⟩ v5).setCell ⟨b, 6, none⟩ v6).setCell ⟨b, 7, none⟩ v7) b #[v0, v1, v2, v3, v4, v5, v6, v7] := by
  have h0 : Bl t _ b #[v0, a1, a2, a3, a4, a5, a6, a7] := h.set 0 v0
  have h1 : Bl t _ b #[v0, v1, a2, a3, a4, a5, a6, a7] := h0.set 1 v1
  have h2 : Bl t _ b #[v0, v1, v2, a3, a4, a5, a6, a7] := h1.set 2 v2
  have h3 : Bl t _ b #[v0, v1, v2, v3, a4, a5, a6, a7] := h2.set 3 v3
  have h4 : Bl t _ b #[v0, v1, v2, v3, v4, a5, a6, a7] := h3.set 4 v4
  have h5 : Bl t _ b #[v0, v1, v2, v3, v4, v5, a6, a7] := h4.set 5 v5
  have h6 : Bl t _ b #[v0, v1, v2, v3, v4, v5, v6, a7] := h5.set 6 v6
  have h7 : Bl t _ b #[v0, v1, v2, v3, v4, v5, v6, v7] := h6.set 7 v7
  exact h7

theorem below_put8 {B : Nat} {w w' : World} {b : Nat} (k : Below B w w') (hb : B ≤ b) (v0 v1 v2 v3 v4 v5 v6 v7 : Value) :
    Below B w ((((((((w'.setCell ⟨b, 0, none⟩ v0).setCell ⟨b, 1, none⟩ v1).setCell ⟨b, 2, none⟩ v2).setCell ⟨b, 3, none⟩ v3).setCell ⟨b, 4, none⟩ v4).setCell ⟨b, 5, none⟩ v5).setCell ⟨b, 6, none⟩ v6).setCell ⟨b, 7, none⟩ v7) :=
  (((((((k.setCell hb v0).setCell hb v1).setCell hb v2).setCell hb v3).setCell hb v4).setCell hb v5).setCell hb v6).setCell hb v7

theorem Strs.far8 {w : World} {x : Option Addr} {c : Nat} {ss : List ByteArray} (h : Strs w x c ss) {b : Nat} (hp : ∀ a, x = some a → ¬ a.block = b) (v0 v1 v2 v3 v4 v5 v6 v7 : Value) :
    Strs ((((((((w.setCell ⟨b, 0, none⟩ v0).setCell ⟨b, 1, none⟩ v1).setCell ⟨b, 2, none⟩ v2).setCell ⟨b, 3, none⟩ v3).setCell ⟨b, 4, none⟩ v4).setCell ⟨b, 5, none⟩ v5).setCell ⟨b, 6, none⟩ v6).setCell ⟨b, 7, none⟩ v7) x c ss :=
  (((((((h.far hp v0).far hp v1).far hp v2).far hp v3).far hp v4).far hp v5).far hp v6).far hp v7

theorem bl_new_d (t : TypeId) (w : World) (C : Array Value) : Bl t (w.drew.alloc (.cells C t)) w.heap.size C := Bl.new t w.drew C

theorem below_da (w : World) (o : Obj) : Below w.heap.size w (w.drew.alloc o) := (Below.drew (Below.refl _ w)).alloc (Nat.le_refl _) _

/-- What RecordAt hands back. -/
def RecPost (s : Int × Rn × Nat) (w : World) (e : Ending) (w' : World) : Prop :=
  (s.1 = 0 ∧ ∃ y q z t p, e = .returned (.agg #[.slice y s.2.1.N.length q, .int .i64 s.2.1.ty, .int .i64 s.2.1.cl, .int .i64 s.2.1.ttl, .slice z s.2.1.D.length t, .int .i64 p, .int .i64 (s.2.2 : Int), .int .i64 0]) ∧ Strs w' y q s.2.1.N ∧ (∀ a, y = some a → w.heap.size ≤ a.block) ∧ Bys w z t s.2.1.D ∧ (z = none → t = 0) ∧ Below w.heap.size w w') ∨
    (¬ s.1 = 0 ∧ e = .returned (.agg #[.slice none 0 0, .int .i64 0, .int .i64 0, .int .i64 0, .slice none 0 0, .int .i64 0, .int .i64 0, .int .i64 s.1]) ∧ Below w.heap.size w w')

theorem recPost_bad {s : Int × Rn × Nat} {w w' : World} {k : Int} (hk : s.1 = k) (h0 : ¬ k = 0) (hb : Below w.heap.size w w') : RecPost s w (.returned (.agg #[.slice none 0 0, .int .i64 0, .int .i64 0, .int .i64 0, .slice none 0 0, .int .i64 0, .int .i64 0, .int .i64 k])) w' := by
  subst hk
  exact Or.inr ⟨h0, rfl, hb⟩

end Go.Proofs.YtgfplkhcihcagaaDoor
